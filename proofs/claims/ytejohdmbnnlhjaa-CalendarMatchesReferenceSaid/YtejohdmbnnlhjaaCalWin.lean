/- Windows. -/
import Derived.Test.YtejohdmbnnlhjaaCalTot
namespace Go.Proofs.Ytejohdmbnnlhjaa
open Go.RowKit

/-- The length of the window from a to b. -/
def winZ (a b : Int) : Int := if (b - a) % 86400 = 0 then 86400 else (b - a) % 86400
theorem winZ_pos (a b : Int) : 1 ≤ winZ a b ∧ winZ a b ≤ 86400 := by unfold winZ; split <;> omega

set_option maxHeartbeats 2000000 in
theorem mkwin_yes (a b : Int) (w : World) (ha : okSod a = true) (hb : okSod b = true) :
    Calls Try.prog 33 #[.int .i64 a, .int .i64 b] w fun e w' => e = .returned (.tuple #[.agg #[iv a, iv (winZ a b)], .bool true]) ∧ Below w.heap.size w w' := by
  obtain ⟨a0, a1⟩ := okSod_iff.1 ha
  obtain ⟨b0, b1⟩ := okSod_iff.1 hb
  obtain ⟨r, hr⟩ : ∃ r, (b - a) % 86400 = r := ⟨_, rfl⟩
  have hw : winZ a b = if r = 0 then 86400 else r := by unfold winZ; rw [hr]
  have hre : ∀ W, Calls Try.prog 27 #[.int .i64 (b - a)] W fun e w' => e = .returned (.int .i64 r) ∧ W = w' := fun W => hr ▸ rest_any _ W
  rw [hw]
  clear hr hw
  by_cases h0 : r = 0
  · rw [if_pos h0]
    subst h0
    go_enter Try.func33, Try.ntmps33
    go_wp2_with (first | (go_at_call 32; refine Calls.mono (isSod_any _ _) ?_; rintro e w' ⟨rfl, rfl⟩) | (go_at_call 27; refine Calls.mono (hre _) ?_; rintro e w' ⟨rfl, rfl⟩))
    exact bodyPost_ret (v := .tuple #[.agg #[iv a, iv 86400], .bool true]) (by simp [results, Try.results33, go_sem, (Arr.new w 61 [iv a, iv 86400]).cell (i := 0) rfl, (Arr.new w 61 [iv a, iv 86400]).cell (i := 1) rfl]) rfl ⟨rfl, (Below.refl _ _).alloc (Nat.le_refl _) _⟩
  · rw [if_neg h0]
    have h0' : (r == 0) = false := by simpa using h0
    go_enter Try.func33, Try.ntmps33
    go_wp2_with (first | (go_at_call 32; refine Calls.mono (isSod_any _ _) ?_; rintro e w' ⟨rfl, rfl⟩) | (go_at_call 27; refine Calls.mono (hre _) ?_; rintro e w' ⟨rfl, rfl⟩))
    exact bodyPost_ret (v := .tuple #[.agg #[iv a, iv r], .bool true]) (by simp [results, Try.results33, go_sem, (Arr.new w 61 [iv a, iv r]).cell (i := 0) rfl, (Arr.new w 61 [iv a, iv r]).cell (i := 1) rfl]) rfl ⟨rfl, (Below.refl _ _).alloc (Nat.le_refl _) _⟩

set_option maxHeartbeats 2000000 in
theorem mkwin_no (a b : Int) (w : World) (h : (okSod a && okSod b) = false) :
    Calls Try.prog 33 #[.int .i64 a, .int .i64 b] w fun e w' => e = .returned (.tuple #[.agg #[iv 0, iv 0], .bool false]) ∧ Below w.heap.size w w' := by
  by_cases ha : okSod a = true
  · rw [ha, Bool.true_and] at h
    go_enter Try.func33, Try.ntmps33
    go_wp2_with (go_at_call 32; refine Calls.mono (isSod_any _ _) ?_; rintro e w' ⟨rfl, rfl⟩)
    exact bodyPost_ret (v := .tuple #[.agg #[iv 0, iv 0], .bool false]) (by simp [results, Try.results33, go_sem, (Arr.new w 61 [iv 0, iv 0]).cell (i := 0) rfl, (Arr.new w 61 [iv 0, iv 0]).cell (i := 1) rfl]) rfl ⟨rfl, (Below.refl _ _).alloc (Nat.le_refl _) _⟩
  · rw [Bool.not_eq_true] at ha
    clear h
    go_enter Try.func33, Try.ntmps33
    go_wp2_with (go_at_call 32; refine Calls.mono (isSod_any _ _) ?_; rintro e w' ⟨rfl, rfl⟩)
    exact bodyPost_ret (v := .tuple #[.agg #[iv 0, iv 0], .bool false]) (by simp [results, Try.results33, go_sem, (Arr.new w 61 [iv 0, iv 0]).cell (i := 0) rfl, (Arr.new w 61 [iv 0, iv 0]).cell (i := 1) rfl]) rfl ⟨rfl, (Below.refl _ _).alloc (Nat.le_refl _) _⟩

set_option maxHeartbeats 2000000 in
theorem elapsed_any (b l x : Int) (w : World) (hb0 : 0 ≤ b) (hb1 : b < 86400) (hx0 : -100000 ≤ x) (hx1 : x ≤ 20000000000) :
    Calls Try.prog 34 #[.agg #[iv b, iv l], .int .i64 x] w fun e w' => e = .returned (.int .i64 ((x - b) % 86400)) ∧ Below w.heap.size w w' := by
  go_enter Try.func34, Try.ntmps34
  go_wp2_with (go_at_call 27; refine Calls.mono (rest_any _ _) ?_; rintro e w' ⟨rfl, rfl⟩)
  go_ret
  exact ⟨rfl, (Below.refl _ _).alloc (Nat.le_refl _) _⟩

def longZ (f t : Int) : Bool := decide (f < t) && decide (1000000 < t - f)
set_option maxHeartbeats 2000000 in
theorem isLong_any (f t : Int) (w : World) (hf0 : -9223372036854775808 ≤ f) (hf1 : f ≤ 9223372036854775807) (ht0 : -9223372036854775808 ≤ t) (ht1 : t ≤ 9223372036854775807) :
    Calls Try.prog 35 #[.agg #[iv f, iv t]] w fun e w' => e = .returned (.bool (longZ f t)) ∧ Below w.heap.size w w' := by
  obtain ⟨V, hV⟩ : ∃ V, longZ f t = V := ⟨_, rfl⟩
  rw [hV]
  unfold longZ at hV
  by_cases h : f < t
  · rw [decide_eq_true h, Bool.true_and] at hV
    have e1 : IntKind.u64.wrap (IntKind.u64.wrap t - IntKind.u64.wrap f) = t - f := by rw [IntKind.wrap_u64, IntKind.wrap_u64, IntKind.wrap_u64]; omega
    obtain ⟨x, hx⟩ : ∃ x, IntKind.u64.wrap t = x := ⟨_, rfl⟩
    obtain ⟨y, hy⟩ : ∃ y, IntKind.u64.wrap f = y := ⟨_, rfl⟩
    rw [hx, hy] at e1
    obtain ⟨z, hz⟩ : ∃ z, t - f = z := ⟨_, rfl⟩
    rw [hz] at e1 hV
    clear hz
    go_enter Try.func35, Try.ntmps35
    go_wp2_with fail
    go_ret
    exact ⟨rfl, (Below.refl _ _).alloc (Nat.le_refl _) _⟩
  · rw [decide_eq_false h, Bool.false_and] at hV
    subst hV
    have h' : decide (f < t) = false := decide_eq_false h
    go_enter Try.func35, Try.ntmps35
    go_wp2_with fail
    go_ret
    exact ⟨rfl, (Below.refl _ _).alloc (Nat.le_refl _) _⟩

def spansZ (off : Int) (sh : List (Int × Int)) (F To a b : Int) : List (Int × Int) :=
  if okSod a && okSod b && validZ off sh && !longZ F To then spanRun F To a (winZ a b) [] (strs 0 off sh) else []
end Go.Proofs.Ytejohdmbnnlhjaa
