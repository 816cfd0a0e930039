/- Parse. -/
import Derived.Test.YtfpmmfoinjcclaaDoorTcFmt
namespace Go.Proofs.YtfpmmfoinjcclaaDoor
open Go.RowKit

def nb (s : ByteArray) : List Nat := s.data.toList.map UInt8.toNat
theorem nb_len (s : ByteArray) : (nb s).length = s.size := by simp [nb]
theorem nb_lt (s : ByteArray) : ∀ x ∈ nb s, x < 256 := by
  intro x hx
  simp only [nb, List.mem_map] at hx
  obtain ⟨b, _, rfl⟩ := hx
  exact b.toNat_lt
theorem byte_at {s : ByteArray} {k : Nat} (h : k < s.size) : (s[k]'h).toNat = (nb s).getD k 0 := by
  unfold nb
  rw [List.getD_eq_getElem?_getD, List.getElem?_map]
  have : s.data.toList[k]? = some (s[k]'h) := by
    rw [List.getElem?_eq_getElem (by simpa using h)]; rfl
  rw [this]; rfl


def numZ (a b lim : Nat) : Nat × Bool := if (a + 208) % 256 ≤ 9 ∧ (b + 208) % 256 ≤ 9 then (10 * ((a + 208) % 256) + (b + 208) % 256, decide (10 * ((a + 208) % 256) + (b + 208) % 256 < lim)) else (0, false)
theorem num2_numZ {a b lim : Nat} (ha : a < 256) (hb : b < 256) : num2 a b lim = if (numZ a b lim).2 = true then some (numZ a b lim).1 else none := by
  unfold num2 numZ
  by_cases h : (a + 208) % 256 ≤ 9 ∧ (b + 208) % 256 ≤ 9
  · rw [if_pos h]
    obtain ⟨h1, h2⟩ := h
    have e1 : a - 48 = (a + 208) % 256 := by omega
    have e2 : b - 48 = (b + 208) % 256 := by omega
    rw [e1, e2]
    by_cases hl : 10 * ((a + 208) % 256) + (b + 208) % 256 < lim
    · rw [if_pos ⟨by omega, by omega, hl⟩]; simp [hl]
    · rw [if_neg (by omega)]; simp [hl]
  · rw [if_neg h, if_neg (by omega)]; simp

set_option maxHeartbeats 2000000 in
theorem number_any (s : ByteArray) (i lim : Int) (k L : Nat) (hi : i = (k : Int)) (hl : lim = (L : Int)) (hL : L ≤ 100) (hs : k + 1 < s.size) (hz : s.size ≤ maxLen) (w : World) :
    Calls Tryd.prog 45 #[.string s, .int .i64 i, .int .i64 lim] w fun e w' => e = .returned (.tuple #[.int .i64 ((numZ ((nb s).getD k 0) ((nb s).getD (k + 1) 0) L).1 : Nat), .bool (numZ ((nb s).getD k 0) ((nb s).getD (k + 1) 0) L).2]) ∧ Below w.heap.size w w' := by
  subst hi hl
  have hb1 := byte_at (s := s) (k := k) (by omega)
  have hb2 := byte_at (s := s) (k := k + 1) hs
  have l1 : (nb s).getD k 0 < 256 := getD_lt (nb_lt s) (by decide) k
  have l2 : (nb s).getD (k + 1) 0 < 256 := getD_lt (nb_lt s) (by decide) (k + 1)
  generalize (nb s).getD k 0 = a at *
  generalize (nb s).getD (k + 1) 0 = b at *
  unfold numZ
  obtain ⟨t, ht⟩ : ∃ t, (a + 208) % 256 = t := ⟨_, rfl⟩
  obtain ⟨o, ho⟩ : ∃ o, (b + 208) % 256 = o := ⟨_, rfl⟩
  rw [ht, ho]
  obtain ⟨P, hP⟩ : ∃ P, (if t ≤ 9 ∧ o ≤ 9 then (10 * t + o, decide (10 * t + o < L)) else (0, false)) = P := ⟨_, rfl⟩
  rw [hP]
  have HP := Lib.hid hP; clear hP
  unfold maxLen at hz
  have e1 : IntKind.u8.wrap ((a : Int) - 48) = (t : Int) := by rw [IntKind.wrap_u8]; omega
  have e2 : IntKind.u8.wrap ((b : Int) - 48) = (o : Int) := by rw [IntKind.wrap_u8]; omega
  have e3 : IntKind.i64.wrap ((k : Int) + 1) = (k : Int) + 1 := w64 (by omega) (by omega)
  have i1 : (0 : Int) ≤ (k : Int) := by omega
  have i2 : (k : Int) < (s.size : Int) := by omega
  have i3 : (0 : Int) ≤ (k : Int) + 1 := by omega
  have i4 : (k : Int) + 1 < (s.size : Int) := by omega
  have t256 : t < 256 := by omega
  have o256 : o < 256 := by omega
  clear ht ho
  go_enter Tryd.func45, Tryd.ntmps45
  go_wp2_with fail
  go_quiet (fail)
  have hbq := below_drewN (Below.refl w.heap.size w) nq
  by_cases t9 : t ≤ 9
  · by_cases o9 : o ≤ 9
    · have d1 : decide (10 * (t : Int) + (o : Int) < (L : Int)) = decide (10 * t + o < L) := by
        by_cases h : 10 * t + o < L
        · rw [decide_eq_true h, decide_eq_true (by omega)]
        · rw [decide_eq_false h, decide_eq_false (by omega)]
      go_wp2
      go_ret2
      exact ⟨by rw [← HP.out, if_pos ⟨t9, o9⟩]; simp [d1], hbq⟩
    · go_wp2
      go_ret2
      exact ⟨by rw [← HP.out, if_neg (by omega)]; rfl, hbq⟩
  · go_wp2
    go_ret2
    exact ⟨by rw [← HP.out, if_neg (by omega)]; rfl, hbq⟩

set_option maxRecDepth 100000 in
set_option maxHeartbeats 1000000 in
theorem parse_no (a b : Int) (hx : NoRate a b) (s : ByteArray) (w : World) (hF : FmtAt w) :
    Calls Tryd.prog 27 #[.agg #[iv a, iv b], .string s] w fun e w' => e = .returned (.tuple #[.int .i64 0, .int .i64 30]) ∧ Below w.heap.size w w' := by
  have hf := fun W (h : Below w.heap.size w W) => find_no a b W (hF.below h) hx
  clear hx hF
  go_enter Tryd.func27, Tryd.ntmps27
  go_wp2_with fail
  obtain ⟨W0, hW0, hb0, hsz, k0, k1⟩ := box2 w a b
  rw [hW0]; clear hW0
  refine Calls.mono (hf _ hb0) ?_; rintro e W1 ⟨rfl, b1⟩
  go_wp2_with fail
  go_ret2
  exact ⟨rfl, (bthen hb0 b1).alloc (by have := (bthen hb0 b1).size; omega) _⟩

set_option maxRecDepth 100000 in
set_option maxHeartbeats 1000000 in
theorem parse_len (x : Rt) (hx : x ∈ rtL) (s : ByteArray) (hz : s.size ≤ maxLen) (hs : s.size ≠ 11) (w : World) (hF : FmtAt w) :
    Calls Tryd.prog 27 #[x.val, .string s] w fun e w' => e = .returned (.tuple #[.int .i64 0, .int .i64 30]) ∧ Below w.heap.size w w' := by
  have hfind := fun W (h : Below w.heap.size w W) => find_ok x hx W (hF.below h)
  obtain ⟨-, -, -, -, x5, x6, x7⟩ := rt_bd hx
  have hsep := fun W => sep_any x.num x.den x.base x.drop W
  have hpe : (if 0 < x.drop then (59 : Int) else 58) = ((x.sep : Nat) : Int) := by unfold Rt.sep; split <;> rfl
  rw [hpe] at hsep
  unfold maxLen at hz
  have hne : ((s.size : Int) == 11) = false := by rw [beq_eq_false_iff_ne]; omega
  have hne2 : ¬ (s.size : Int) = 11 := by omega
  unfold Rt.val Rt.row at *
  clear hpe hx hF
  generalize x.sep = p at *
  generalize x.num = a at *
  generalize x.den = b at *
  generalize x.base = c at *
  generalize x.drop = d at *
  clear x
  go_enter Tryd.func27, Tryd.ntmps27
  go_wp2_with fail
  obtain ⟨W0, hW0, hb0, hsz, k0, k1⟩ := box2 w a b
  rw [hW0]; clear hW0
  refine Calls.mono (hfind _ hb0) ?_; rintro e W1 ⟨rfl, b1⟩
  have hb01 := bthen hb0 b1
  obtain ⟨W2, hW2, hb2, hsz2, k0, k1, k2, k3⟩ := box4 W1 a b c d
  have hb02 := bthen hb01 hb2
  go_wp2_with fail
  go_ret2
  exact ⟨rfl, hb02⟩

set_option maxRecDepth 100000 in
set_option maxHeartbeats 2000000 in
theorem parse_sep (x : Rt) (hx : x ∈ rtL) (s : ByteArray) (hs : s.size = 11) (hsp : ¬ ((nb s).getD 2 0 = 58 ∧ (nb s).getD 5 0 = 58 ∧ (nb s).getD 8 0 = x.sep)) (w : World) (hF : FmtAt w) :
    Calls Tryd.prog 27 #[x.val, .string s] w fun e w' => e = .returned (.tuple #[.int .i64 0, .int .i64 30]) ∧ Below w.heap.size w w' := by
  have hz : s.size ≤ maxLen := by unfold maxLen; omega
  have hfind := fun W (h : Below w.heap.size w W) => find_ok x hx W (hF.below h)
  obtain ⟨-, -, -, -, x5, x6, x7⟩ := rt_bd hx
  have hsep := fun W => sep_any x.num x.den x.base x.drop W
  have hpe : (if 0 < x.drop then (59 : Int) else 58) = ((x.sep : Nat) : Int) := by unfold Rt.sep; split <;> rfl
  rw [hpe] at hsep
  unfold maxLen at hz
  have q2 : 2 < s.size := by omega
  have hb2' := byte_at q2
  have q5 : 5 < s.size := by omega
  have hb5' := byte_at q5
  have q8 : 8 < s.size := by omega
  have hb8' := byte_at q8
  generalize (nb s).getD 2 0 = c2 at *
  generalize (nb s).getD 5 0 = c5 at *
  generalize (nb s).getD 8 0 = c8 at *
  unfold Rt.val Rt.row at *
  clear hpe hx hF
  generalize x.sep = p at *
  generalize x.num = a at *
  generalize x.den = b at *
  generalize x.base = c at *
  generalize x.drop = d at *
  clear x
  go_enter Tryd.func27, Tryd.ntmps27
  go_wp2_with fail
  obtain ⟨W0, hW0, hb0, hsz, k0, k1⟩ := box2 w a b
  rw [hW0]; clear hW0
  refine Calls.mono (hfind _ hb0) ?_; rintro e W1 ⟨rfl, b1⟩
  have hb01 := bthen hb0 b1
  obtain ⟨W2, hW2, hb2, hsz2, k0, k1, k2, k3⟩ := box4 W1 a b c d
  have hb02 := bthen hb01 hb2
  go_wp2_with fail
  clear hW2
  obtain ⟨T6, hT6⟩ : ∃ T6, W1.heap.size = T6 := ⟨_, rfl⟩
  rw [hT6] at k0 k1 k2 k3 hsz2 ⊢
  have hlt6 : T6 < W2.heap.size := by omega
  have hS2d : W2.drew.cell? ⟨T6, 0, none⟩ = some (iv a) ∧ W2.drew.cell? ⟨T6, 1, none⟩ = some (iv b) ∧ W2.drew.cell? ⟨T6, 2, none⟩ = some (iv c) ∧ W2.drew.cell? ⟨T6, 3, none⟩ = some (iv d) ∧ Below W2.heap.size W2 W2.drew := ⟨k0, k1, k2, k3, (Below.refl _ _).drew⟩
  by_cases h2 : c2 = 58
  · subst h2
    by_cases h5 : c5 = 58
    · subst h5
      have h8 : ¬ c8 = p := by omega
      have h8' : ((c8 : Int) == (p : Int)) = false := by rw [beq_eq_false_iff_ne]; omega
      have h8n : ((c8 : Int) != (p : Int)) = true := by rw [bne, h8']; rfl
      go_region_held3 (fun w' => w'.cell? ⟨T6, 0, none⟩ = some (iv a) ∧ w'.cell? ⟨T6, 1, none⟩ = some (iv b) ∧ w'.cell? ⟨T6, 2, none⟩ = some (iv c) ∧ w'.cell? ⟨T6, 3, none⟩ = some (iv d) ∧ Below W2.heap.size W2 w') (first | assumption | exact hS2d | exact held4 hlt6 (by assumption) b4 | fail)
        (first | (go_at_call 42; with_reducible refine Calls.mono (hsep _) ?_; rintro e w4 ⟨rfl, b4⟩) | fail)
      all_goals
        have hz9 := (show w4.cell? ⟨T6, 0, none⟩ = some (iv a) ∧ w4.cell? ⟨T6, 1, none⟩ = some (iv b) ∧ w4.cell? ⟨T6, 2, none⟩ = some (iv c) ∧ w4.cell? ⟨T6, 3, none⟩ = some (iv d) ∧ Below W2.heap.size W2 w4 by assumption).2.2.2.2
        go_wp2
        all_goals (go_ret2; exact ⟨rfl, hb02.trans (hz9.mono hb02.size)⟩)
    · have h5' : ((c5 : Int) == 58) = false := by rw [beq_eq_false_iff_ne]; omega
      have h5n : ((c5 : Int) != 58) = true := by rw [bne, h5']; rfl
      go_quiet (fail)
      go_wp2
      go_ret2
      exact ⟨rfl, below_drewN hb02 _⟩
  · have h2' : ((c2 : Int) == 58) = false := by rw [beq_eq_false_iff_ne]; omega
    have h2n : ((c2 : Int) != 58) = true := by rw [bne, h2']; rfl
    go_quiet (fail)
    go_wp2
    go_ret2
    exact ⟨rfl, below_drewN hb02 _⟩
end Go.Proofs.YtfpmmfoinjcclaaDoor
