/- Int decodes what begins at an offset, or says that nothing does. -/
import Derived.Test.YtemdfbnfpdfpeaaDoorWireFnsA
import Derived.Test.YtemdfbnfpdfpeaaDoorWireMath
import Derived.WalkKit
import Derived.Lib.Hide
import Derived.Deep.QuietTactic
import Derived.BigQuiet
namespace Go.Proofs.YtemdfbnfpdfpeaaDoor
open Go.RowKit

def decG : Nat → Nat → Int → List UInt8 → Option (Int × Nat)
  | 0, _, _, _ => none
  | _ + 1, _, _, [] => none
  | f + 1, i, z, b :: r =>
    let z' := z + (b.toNat : Int) % 128 * 128 ^ i
    if (b.toNat : Int) < 128 then
      if ((b.toNat : Int) = 0 ∧ 0 < i) ∨ 9223372036854775806 < z' then none else some (z', i + 1)
    else decG f (i + 1) z' r
def dec (l : List UInt8) : Option (Int × Nat) := decG 9 0 0 l
/-- What Int returns: the value, the end, the error. -/
def intZ (s : ByteArray) (k : Int) : Int × Int × Int :=
  if k < 0 ∨ (s.size : Int) < k then (0, 0, 2) else
  match dec (s.data.toList.drop k.toNat) with
  | some (z, n) => (unfoldZ z, k + n, 0)
  | none => (0, 0, 10)

theorem pow128 (j : Nat) : (2 : Int) ^ (j * 7) = 128 ^ j := by rw [Nat.mul_comm, Int.pow_mul]; rfl

theorem round_or (a c : Int) (j : Nat) (hj : j < 9) (ha0 : 0 ≤ a) (ha : a < 128 ^ j) (hc0 : 0 ≤ c) :
    ∃ m v : Int, wrap64 (c % 128 * 2 ^ (j * 7)) = m ∧ 0 ≤ m ∧ m ≤ 9223372036854775807 ∧ bits .or .i64 a m = v ∧ 0 ≤ v ∧ v ≤ 9223372036854775807 ∧ Hid (v = a + c % 128 * 128 ^ j) ∧ v < 128 ^ (j + 1) := by
  have hp : (128 : Int) ^ j * 128 ≤ 128 ^ 9 := by
    rw [← Int.pow_succ]
    have := Nat.pow_le_pow_right (show 0 < 128 by decide) (show j + 1 ≤ 9 by omega)
    have h2 : ((128 ^ (j + 1) : Nat) : Int) ≤ ((128 ^ 9 : Nat) : Int) := by omega
    simpa using h2
  have h9 : (128 : Int) ^ 9 = 9223372036854775808 := by decide
  have hp0 : 0 < (128 : Int) ^ j := Int.pow_pos (by decide)
  have hd0 : 0 ≤ c % 128 := by omega
  have hd1 : c % 128 ≤ 127 := by omega
  generalize c % 128 = d at *
  generalize hP : (128 : Int) ^ j = P at *
  have hm0 : 0 ≤ d * P := Int.mul_nonneg hd0 (by omega)
  have hm1 : d * P ≤ 127 * P := Int.mul_le_mul_of_nonneg_right hd1 (by omega)
  refine ⟨d * P, a + d * P, ?_, hm0, by omega, ?_, by omega, by omega, Lib.hid rfl, ?_⟩
  · rw [pow128, hP]; exact IntWalk.wrap64_in _ (by omega)
  · have hwr : ∀ n : Int, 0 ≤ n → n < 2 ^ 63 → IntKind.i64.wrap n = n := fun n h0 h1 => by rw [IntKind.wrap_i64]; omega
    obtain ⟨x, rfl⟩ := Int.eq_ofNat_of_zero_le ha0
    obtain ⟨y, hy⟩ := Int.eq_ofNat_of_zero_le hm0
    rw [hy, (bits_nat .i64 63 (by decide) hwr x y (by omega) (by omega)).2, Nat.or_comm, nat_join (j * 7)]
    · omega
    · have : ((y % 2 ^ (j * 7) : Nat) : Int) = 0 := by
        rw [Int.natCast_emod, ← hy]
        have e : ((2 ^ (j * 7) : Nat) : Int) = P := by rw [← hP, ← pow128]; simp
        rw [e]; exact Int.mul_emod_left _ _
      omega
    · have : ((2 ^ (j * 7) : Nat) : Int) = P := by rw [← hP, ← pow128]; simp
      omega
  · rw [Int.pow_succ, hP]; omega

theorem decG_cons (f j : Nat) (a : Int) (b : UInt8) (r : List UInt8) : decG (f + 1) j a (b :: r) =
    if (b.toNat : Int) < 128 then
      if ((b.toNat : Int) = 0 ∧ 0 < j) ∨ 9223372036854775806 < a + (b.toNat : Int) % 128 * 128 ^ j then none else some (a + (b.toNat : Int) % 128 * 128 ^ j, j + 1)
    else decG f (j + 1) (a + (b.toNat : Int) % 128 * 128 ^ j) r := rfl

theorem drop_at (s : ByteArray) (i : Nat) (h : i < s.size) : s.data.toList.drop i = s[i] :: s.data.toList.drop (i + 1) := by
  have : i < s.data.toList.length := by simpa using h
  rw [List.drop_eq_getElem_cons this]; rfl

theorem intZ_none {s : ByteArray} {k : Nat} (hk : k ≤ s.size) (h : dec (s.data.toList.drop k) = none) : intZ s k = (0, 0, 10) := by
  unfold intZ; rw [if_neg (by omega)]; simp [h]
theorem intZ_some {s : ByteArray} {k n : Nat} {z : Int} (hk : k ≤ s.size) (h : dec (s.data.toList.drop k) = some (z, n)) : intZ s k = (unfoldZ z, (k : Int) + n, 0) := by
  unfold intZ; rw [if_neg (by omega)]; simp [h]

theorem ret3 {a b c a' b' c' : Int} (h : (a, b, c) = (a', b', c')) : Ending.returned (.tuple #[.int .i64 a, .int .i64 b, .int .i64 c]) = .returned (.tuple #[.int .i64 a', .int .i64 b', .int .i64 c']) := by
  cases h; rfl

theorem fold_max (w : World) : Calls Tryd.prog 24 #[.int .i64 4611686018427387903] w fun e w' => e = .returned (.int .i64 9223372036854775806) ∧ w = w' :=
  fold_any 4611686018427387903 w (by omega) (by omega)

set_option maxRecDepth 100000 in
set_option maxHeartbeats 1000000 in
theorem int_in (s : ByteArray) (k : Nat) (w : World) (hs : s.size ≤ 140737488351232) (hk : k ≤ s.size) :
    Calls Tryd.prog 15 #[.string s, .int .i64 k] w fun e w' => e = .returned (.tuple #[.int .i64 (intZ s k).1, .int .i64 (intZ s k).2.1, .int .i64 (intZ s k).2.2]) ∧ w = w' := by
  have hb1 : decide ((k : Int) < 0) = false := by simp
  have hb2 : decide (s.size < k) = false := by simp; omega
  go_enter Tryd.func15, Tryd.ntmps15
  go_wp2
  go_loop [7, 8] (fun z i => ∃ (j : Nat) (a : Int), i = .int .i64 j ∧ z = .int .i64 a ∧ j ≤ 9 ∧ j + k ≤ s.size ∧ 0 ≤ a ∧ a < 128 ^ j ∧ Hid (dec (s.data.toList.drop k) = decG (9 - j) j a (s.data.toList.drop (k + j)))) (fun _ i => 9 - (intOf i).toNat)
  case atStart => exact ⟨0, 0, rfl, rfl, by omega, by omega, by omega, by simp, Lib.hid rfl⟩
  case round =>
    obtain ⟨j, a, rfl, rfl, hj, hjk, ha0, ha1, H⟩ := hrel
    by_cases hlt : j < 9 ∧ j + k < s.size
    · obtain ⟨hj9, hjs⟩ := hlt
      obtain ⟨c, hc⟩ : ∃ c : Int, (s[k + j].toNat : Int) = c := ⟨_, rfl⟩
      have hc0 : 0 ≤ c := by omega
      have hc1 : c ≤ 255 := by have := s[k + j].toNat_lt; omega
      obtain ⟨m, v, hm, hm0, hm1, hv, hv0, hv1, Hv, hv2⟩ := round_or a c j hj9 ha0 ha1 hc0
      have Hd : Hid (dec (s.data.toList.drop k) = if c < 128 then
          if (c = 0 ∧ 0 < j) ∨ 9223372036854775806 < v then none else some (v, j + 1)
          else decG (8 - j) (j + 1) v (s.data.toList.drop (k + j + 1))) := by
        refine Lib.hid ?_
        rw [H.out, drop_at s (k + j) (by omega), show 9 - j = (8 - j) + 1 by omega, decG_cons, hc, Hv.out]
      by_cases h128 : c < 128
      · by_cases h0 : c = 0 ∧ 0 < j
        · obtain ⟨rfl, hj0⟩ := h0
          go_wp2
          go_ret3
          exact ⟨ret3 (by rw [intZ_none hk (by rw [Hd.out]; simp [hj0])]), rfl⟩
        · by_cases hbig : 9223372036854775806 < v
          · have hsf : (c == 0) = false ∨ decide (0 < j) = false := by
              by_cases hcc : c = 0
              · right; simp; omega
              · left; simpa using hcc
            rcases hsf with hsf | hsf
            all_goals
              go_wp2_with (go_at_call 24; refine (fold_max _).mono ?_; rintro e w' ⟨rfl, rfl⟩)
              all_goals
                go_ret3
                exact ⟨ret3 (by rw [intZ_none hk (by rw [Hd.out, if_pos h128, if_pos (Or.inr hbig)])]), rfl⟩
          · have hsf : (c == 0) = false ∨ decide (0 < j) = false := by
              by_cases hcc : c = 0
              · right; simp; omega
              · left; simpa using hcc
            rcases hsf with hsf | hsf
            all_goals
              go_wp2_with (first | (go_at_call 24; refine (fold_max _).mono ?_; rintro e w' ⟨rfl, rfl⟩) | (go_at_call 26; refine (unfold_any _ _ hv0 hv1).mono ?_; rintro e w' ⟨rfl, rfl⟩))
              all_goals
                go_ret3
                exact ⟨ret3 (by rw [intZ_some hk (by rw [Hd.out, if_pos h128, if_neg (by omega)])]; simp; omega), rfl⟩
      · go_wp2
        go_round
        case rel => exact ⟨j + 1, v, by go_num, rfl, by omega, by omega, hv0, hv2, Lib.hid (by rw [Hd.out, if_neg (by omega), show 9 - (j + 1) = 8 - j by omega]; rfl)⟩
        case measure => simp [intOf]; omega
    · have hnone : Hid (dec (s.data.toList.drop k) = none) := by
        refine Lib.hid ?_
        rw [H.out]
        by_cases h9 : j = 9
        · subst h9; rfl
        · rw [List.drop_eq_nil_of_le (by simp; omega)]
          cases 9 - j <;> rfl
      have hsf : decide ((j : Int) < 9) = false ∨ decide ((j : Int) < s.size - k) = false := by
        by_cases h9 : j = 9
        · left; simp; omega
        · right; simp; omega
      rcases hsf with hsf | hsf
      all_goals
        go_wp2
        all_goals
          go_ret3
          exact ⟨ret3 (by rw [intZ_none hk hnone.out]), rfl⟩
end Go.Proofs.YtemdfbnfpdfpeaaDoor
