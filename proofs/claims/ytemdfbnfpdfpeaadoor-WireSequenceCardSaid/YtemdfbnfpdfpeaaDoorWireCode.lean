/- Decoding what was encoded, and encoding what was decoded, as plain mathematics. -/
import Derived.Test.YtemdfbnfpdfpeaaDoorWireStr
namespace Go.Proofs.YtemdfbnfpdfpeaaDoor
open Go.RowKit

def byt (l : List Int) : List UInt8 := l.map fun n => UInt8.ofNat n.toNat
theorem byt_cons (a : Int) (l : List Int) : byt (a :: l) = UInt8.ofNat a.toNat :: byt l := rfl
theorem ofNat_toNat {a : Int} (h0 : 0 ≤ a) (h1 : a < 256) : ((UInt8.ofNat a.toNat).toNat : Int) = a := by
  rw [UInt8.toNat_ofNat']; omega
theorem ofNat_byte (b : UInt8) {a : Int} (h : a = b.toNat) : UInt8.ofNat a.toNat = b := by
  subst h; simp

theorem split128 (z P : Int) : z % 128 * P + z / 128 * (P * 128) = z * P := by
  have h : z = z % 128 + 128 * (z / 128) := by omega
  conv => rhs; rw [h]
  rw [Int.add_mul, Int.mul_comm P 128, ← Int.mul_assoc, Int.mul_comm (z / 128) 128]

theorem decG_leb (f : Nat) : ∀ (j : Nat) (a z : Int) (r : List UInt8), 0 ≤ z → z < 128 ^ (f + 1) → (j = 0 ∨ z ≠ 0) → a + z * 128 ^ j ≤ 9223372036854775806 →
    decG (f + 1) j a (byt (leb f z) ++ r) = some (a + z * 128 ^ j, j + (leb f z).length) := by
  have base : ∀ (g j : Nat) (a z : Int) (r : List UInt8), 0 ≤ z → z < 128 → (j = 0 ∨ z ≠ 0) → a + z * 128 ^ j ≤ 9223372036854775806 →
      decG (g + 1) j a (byt [z] ++ r) = some (a + z * 128 ^ j, j + 1) := by
    intro g j a z r h0 h1 h2 h3
    show decG (g + 1) j a (UInt8.ofNat z.toNat :: r) = _
    rw [decG_cons, ofNat_toNat h0 (by omega), if_pos h1, show z % 128 = z by omega, if_neg (by omega)]
  induction f with
  | zero =>
    intro j a z r h0 h1 h2 h3
    exact base 0 j a z r h0 (by simpa using h1) h2 h3
  | succ f ih =>
    intro j a z r h0 h1 h2 h3
    rw [leb]
    by_cases h : z < 128
    · rw [if_pos h]; exact base (f + 1) j a z r h0 h h2 h3
    · rw [if_neg h, byt_cons, List.cons_append, decG_cons, ofNat_toNat (by omega) (by omega), if_neg (by omega), show (z % 128 + 128) % 128 = z % 128 by omega]
      have hs := split128 z (128 ^ j)
      rw [← Int.pow_succ, Nat.succ_eq_add_one] at hs
      rw [ih (j + 1) _ (z / 128) r (by omega) (by rw [Int.pow_succ] at h1; exact Int.ediv_lt_of_lt_mul (by omega) h1) (by omega) (by omega)]
      simp only [List.length_cons, Option.some.injEq, Prod.mk.injEq]
      omega

theorem decG_inv (f : Nat) : ∀ (j : Nat) (a : Int) (l : List UInt8) (z' : Int) (n : Nat), decG (f + 1) j a l = some (z', n) →
    ∃ z, 0 ≤ z ∧ z < 128 ^ (f + 1) ∧ (j = 0 ∨ z ≠ 0) ∧ z' = a + z * 128 ^ j ∧ n = j + (leb f z).length ∧ l.take (leb f z).length = byt (leb f z) := by
  have base : ∀ (g j : Nat) (a : Int) (b : UInt8) (r : List UInt8) (z' : Int) (n : Nat), (b.toNat : Int) < 128 → leb g b.toNat = [(b.toNat : Int)] → decG (g + 1) j a (b :: r) = some (z', n) →
      ∃ z, 0 ≤ z ∧ z < 128 ^ (g + 1) ∧ (j = 0 ∨ z ≠ 0) ∧ z' = a + z * 128 ^ j ∧ n = j + (leb g z).length ∧ (b :: r).take (leb g z).length = byt (leb g z) := by
    intro g j a b r z' n hb hl h
    rw [decG_cons, if_pos hb] at h
    split at h
    · cases h
    · rename_i hn
      simp only [Option.some.injEq, Prod.mk.injEq] at h
      obtain ⟨rfl, rfl⟩ := h
      have hp : (1 : Int) ≤ 128 ^ g := Int.pow_pos (by decide)
      refine ⟨b.toNat, by omega, by rw [Int.pow_succ]; omega, by omega, by rw [show (b.toNat : Int) % 128 = b.toNat by omega], by rw [hl]; rfl, ?_⟩
      rw [hl]
      show [b] = [UInt8.ofNat ((b.toNat : Int)).toNat]
      rw [ofNat_byte b rfl]
  induction f with
  | zero =>
    intro j a l z' n h
    cases l with
    | nil => rw [decG_nil] at h; cases h
    | cons b r =>
      by_cases hb : (b.toNat : Int) < 128
      · exact base 0 j a b r z' n hb rfl h
      · rw [decG_cons, if_neg hb, decG_zero] at h; cases h
  | succ f ih =>
    intro j a l z' n h
    cases l with
    | nil => rw [decG_nil] at h; cases h
    | cons b r =>
      by_cases hb : (b.toNat : Int) < 128
      · exact base (f + 1) j a b r z' n hb (by rw [leb, if_pos hb]) h
      · have hb2 := b.toNat_lt
        rw [decG_cons, if_neg hb] at h
        obtain ⟨z, h0, h1, h2, h3, h4, h5⟩ := ih _ _ _ _ _ h
        have hz : z ≠ 0 := by omega
        obtain ⟨y, hy⟩ : ∃ y : Int, y = (b.toNat : Int) % 128 + 128 * z := ⟨_, rfl⟩
        have e1 : y % 128 = (b.toNat : Int) % 128 := by omega
        have e2 : y / 128 = z := by omega
        have hl : leb (f + 1) y = (b.toNat : Int) :: leb f z := by rw [leb, if_neg (by omega), e1, e2, show (b.toNat : Int) % 128 + 128 = b.toNat by omega]
        refine ⟨y, by omega, by rw [Int.pow_succ]; omega, by omega, ?_, by rw [hl, h4]; simp; omega, ?_⟩
        · have hs := split128 y (128 ^ j)
          rw [← Int.pow_succ, Nat.succ_eq_add_one, e1, e2] at hs
          omega
        · rw [hl, byt_cons, ofNat_byte b rfl, List.length_cons, List.take_succ_cons, h5]

theorem dec_enc {z : Int} (h0 : 0 ≤ z) (h1 : z ≤ 9223372036854775806) (r : List UInt8) : dec (byt (enc z) ++ r) = some (z, (enc z).length) := by
  have h9 : (128 : Int) ^ (8 + 1) = 9223372036854775808 := by decide
  have := decG_leb 8 0 0 z r h0 (by omega) (.inl rfl) (by rw [Int.pow_zero]; omega)
  rw [Int.pow_zero, Int.mul_one, Int.zero_add, Nat.zero_add] at this
  exact this
theorem dec_inv {l : List UInt8} {z : Int} {n : Nat} (h : dec l = some (z, n)) : 0 ≤ z ∧ n = (enc z).length ∧ l.take n = byt (enc z) := by
  obtain ⟨y, h0, _, _, h3, h4, h5⟩ := decG_inv 8 0 0 l z n h
  rw [Int.pow_zero, Int.mul_one, Int.zero_add] at h3
  subst h3
  rw [Nat.zero_add] at h4
  subst h4
  exact ⟨h0, rfl, h5⟩

theorem unfold_fold (n : Int) : unfoldZ (foldZ n) = n := by unfold unfoldZ foldZ; split <;> split <;> omega
theorem fold_unfold {z : Int} (h : 0 ≤ z) : foldZ (unfoldZ z) = z := by unfold unfoldZ foldZ; split <;> split <;> omega
theorem foldZ_bd {n : Int} (h1 : -4611686018427387903 ≤ n) (h2 : n ≤ 4611686018427387903) : 0 ≤ foldZ n ∧ foldZ n ≤ 9223372036854775806 := by unfold foldZ; split <;> omega

theorem app_list (a b : ByteArray) : (a ++ b).data.toList = a.data.toList ++ b.data.toList := by simp
theorem size_list (a : ByteArray) : a.size = a.data.toList.length := by simp
theorem encS_list (z : Int) : (strOfNums (enc z)).data.toList = byt (enc z) := rfl
theorem encS_size (z : Int) : (strOfNums (enc z)).size = (enc z).length := strOfNums_size _

/-- Int returns what PutInt was given, wherever the encoding is embedded. -/
theorem intZ_put {n : Int} (h1 : -4611686018427387903 ≤ n) (h2 : n ≤ 4611686018427387903) (p q : ByteArray) :
    intZ (p ++ strOfNums (enc (foldZ n)) ++ q) p.size = (n, (p.size : Int) + (strOfNums (enc (foldZ n))).size, 0) := by
  have hd : dec ((p ++ strOfNums (enc (foldZ n)) ++ q).data.toList.drop p.size) = some (foldZ n, (enc (foldZ n)).length) := by
    rw [app_list, app_list, size_list p, List.append_assoc, List.drop_left, encS_list]
    exact dec_enc (foldZ_bd h1 h2).1 (foldZ_bd h1 h2).2 _
  rw [intZ_some (by simp [ByteArray.size_append]; omega) hd, unfold_fold, encS_size]

/-- What Int accepts is what PutInt returns. -/
theorem intZ_inv {s : ByteArray} {k : Int} (h : (intZ s k).2.2 = 0) : ∃ n e : Nat, k = n ∧ (intZ s k).2.1 = e ∧ n ≤ e ∧ e ≤ s.size ∧ -4611686018427387903 ≤ (intZ s k).1 ∧ (intZ s k).1 ≤ 4611686018427387903 ∧
    (s.data.toList.drop n).take (e - n) = byt (enc (foldZ (intZ s k).1)) := by
  rcases intZ_cases s k with ⟨hz, -⟩ | ⟨hz, -⟩ | ⟨z, m, hz, hk0, hd, hz0, hz1, hn, hle⟩
  · rw [hz] at h; cases h
  · rw [hz] at h; cases h
  · obtain ⟨n, rfl⟩ := Int.eq_ofNat_of_zero_le hk0
    rw [hz]
    have hb := unfoldZ_bd hz0 hz1
    obtain ⟨_, _, h5⟩ := dec_inv hd
    refine ⟨n, n + m, rfl, by simp, by omega, by omega, hb.1, hb.2, ?_⟩
    rw [Nat.add_sub_cancel_left, fold_unfold hz0]
    simpa using h5
end Go.Proofs.YtemdfbnfpdfpeaaDoor
