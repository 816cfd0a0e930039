/- NumberFrom maps an integer to one that has an encoding. -/
import Derived.Test.YtemdfbnfpdfpeaaDoorWireFnsA
import Derived.WalkKit
import Derived.Lib.Hide
namespace Go.Proofs.YtemdfbnfpdfpeaaDoor
open Go.RowKit

def numTab : List Int := [64, 128, 8192, 16384, 1073741824, 36028797018963968, 576460752303423488, 2]
def numFrom (c : Int) : Int :=
  if 8 ≤ pickZ c 16 then -(pickZ (pickZ c 4611686018427387904 / 8) (numTab.getD (pickZ c 8).toNat 1)) else pickZ (pickZ c 4611686018427387904 / 8) (numTab.getD (pickZ c 8).toNat 1)

theorem pickZ_bd (c n : Int) (h : 1 ≤ n) : 0 ≤ pickZ c n ∧ pickZ c n < n := by
  unfold pickZ; exact ⟨Int.emod_nonneg _ (by omega), Int.emod_lt_of_pos _ (by omega)⟩

theorem numTab_bd (i : Nat) : 1 ≤ numTab.getD i 1 ∧ numTab.getD i 1 ≤ 576460752303423488 := by
  by_cases h : i < 8
  · have : ∀ i : Fin 8, 1 ≤ numTab.getD i.1 1 ∧ numTab.getD i.1 1 ≤ 576460752303423488 := by decide
    exact this ⟨i, h⟩
  · rw [List.getD_eq_getElem?_getD, List.getElem?_eq_none (by simp [numTab]; omega)]; decide

theorem numFrom_bd (c : Int) : -576460752303423488 ≤ numFrom c ∧ numFrom c ≤ 576460752303423488 := by
  have h := numTab_bd (pickZ c 8).toNat
  have := pickZ_bd (pickZ c 4611686018427387904 / 8) _ h.1
  unfold numFrom
  split <;> omega

set_option maxRecDepth 100000 in
set_option maxHeartbeats 1000000 in
theorem numberFrom_any (c : Int) (w : World) (h1 : -9223372036854775808 ≤ c) (h2 : c ≤ 9223372036854775807) :
    Calls Tryd.prog 11 #[.int .i64 c] w fun e w' => e = .returned (.int .i64 (numFrom c)) ∧ Below w.heap.size w w' := by
  have p1 := pickZ_bd c 4611686018427387904 (by omega)
  have p2 := pickZ_bd c 8 (by omega)
  have p3 := pickZ_bd c 16 (by omega)
  obtain ⟨i, hi⟩ : ∃ i : Nat, pickZ c 8 = i := Int.eq_ofNat_of_zero_le p2.1
  have hi8 : i < 8 := by omega
  obtain ⟨t, ht⟩ : ∃ t, numTab.getD i 1 = t := ⟨_, rfl⟩
  have tb := numTab_bd i
  rw [ht] at tb
  have p4 := pickZ_bd (pickZ c 4611686018427387904 / 8) t tb.1
  have hfin : Hid (numFrom c = if 8 ≤ pickZ c 16 then -(pickZ (pickZ c 4611686018427387904 / 8) t) else pickZ (pickZ c 4611686018427387904 / 8) t) := by
    refine Lib.hid ?_
    unfold numFrom; rw [hi, show ((i : Nat) : Int).toNat = i by omega, ht]
  have h8 : i = 0 ∨ i = 1 ∨ i = 2 ∨ i = 3 ∨ i = 4 ∨ i = 5 ∨ i = 6 ∨ i = 7 := by omega
  by_cases hs : 8 ≤ pickZ c 16
  · rcases h8 with rfl | rfl | rfl | rfl | rfl | rfl | rfl | rfl
    all_goals
      simp only [numTab, List.getD_cons_zero, List.getD_cons_succ] at ht
      subst ht
      go_enter Tryd.func11, Tryd.ntmps11
      go_wp2_with (go_at_call 14; refine (pick_any _ _ _ (by omega) (by omega) (by omega) (by omega)).mono ?_; rintro e w' ⟨rfl, rfl⟩)
      go_ret
      exact ⟨ret_int (by rw [hfin.out, if_pos hs]), (Below.refl _ _).alloc (Nat.le_refl _) _⟩
  · rcases h8 with rfl | rfl | rfl | rfl | rfl | rfl | rfl | rfl
    all_goals
      simp only [numTab, List.getD_cons_zero, List.getD_cons_succ] at ht
      subst ht
      go_enter Tryd.func11, Tryd.ntmps11
      go_wp2_with (go_at_call 14; refine (pick_any _ _ _ (by omega) (by omega) (by omega) (by omega)).mono ?_; rintro e w' ⟨rfl, rfl⟩)
      go_ret
      exact ⟨ret_int (by rw [hfin.out, if_neg (by omega)]), (Below.refl _ _).alloc (Nat.le_refl _) _⟩
end Go.Proofs.YtemdfbnfpdfpeaaDoor
