/- Both implementations' functions as total functions. -/
import Derived.Test.YtfpmmfoinjcclaaDoorTcRefApi
import Derived.Test.YtfpmmfoinjcclaaDoorTcLaw
namespace Go.Proofs.YtfpmmfoinjcclaaDoor
open Go.RowKit

def rtOf (a b : Int) : Option Rt := rtL.find? fun x => decide (a = (x.num : Int)) && decide (b = (x.den : Int))
theorem rtOf_some {a b : Int} {x : Rt} (h : rtOf a b = some x) : x ∈ rtL ∧ a = x.num ∧ b = x.den := by
  unfold rtOf at h
  have h1 := List.mem_of_find?_eq_some h
  have h2 := List.find?_some h
  simp only [Bool.and_eq_true, decide_eq_true_eq] at h2
  exact ⟨h1, h2.1, h2.2⟩
theorem rtOf_none {a b : Int} (h : rtOf a b = none) : NoRate a b := by
  intro x hx hc
  unfold rtOf at h
  rw [List.find?_eq_none] at h
  have := h x hx
  simp only [Bool.and_eq_true, decide_eq_true_eq] at this
  exact this hc
def secF (a b n : Int) : Int := match rtOf a b with | some x => if 0 ≤ n ∧ n ≤ 100000000 then ((n.toNat * x.den / x.num : Nat) : Int) else -1 | none => -1
def frmF (a b n : Int) : Int := match rtOf a b with | some x => if 0 ≤ n ∧ n ≤ 10000000000 then (((n.toNat * x.num + x.den - 1) / x.den : Nat) : Int) else -1 | none => -1
def tckF (a b n : Int) : Int := match rtOf a b with | some x => if 0 ≤ n ∧ n ≤ 100000000 then ((n.toNat * 90000 * x.den / x.num % 8589934592 : Nat) : Int) else -1 | none => -1
def convF (a b n c d : Int) : Int := match rtOf a b with | some x => (match rtOf c d with | some y => if 0 ≤ n ∧ n ≤ 100000000 then ((convertZ x y n.toNat : Nat) : Int) else -1 | none => -1) | none => -1

theorem seconds_t (a b n : Int) (w : World) (hF : FmtAt w) :
    Calls Tryd.prog 15 #[.agg #[iv a, iv b], .int .i64 n] w fun e w' => e = .returned (.int .i64 (secF a b n)) ∧ Below w.heap.size w w' := by
  unfold secF
  cases h : rtOf a b with
  | none => exact seconds_no a b (rtOf_none h) n w hF
  | some x =>
    obtain ⟨hx, rfl, rfl⟩ := rtOf_some h
    by_cases hn : 0 ≤ n ∧ n ≤ 100000000
    · obtain ⟨k, rfl⟩ : ∃ k : Nat, n = (k : Int) := ⟨n.toNat, by omega⟩
      simp only [if_pos hn, Int.toNat_natCast]
      exact seconds_ok x hx k (by omega) w hF
    · simp only [if_neg hn]
      exact seconds_out x hx n hn w hF

theorem frames_t (a b n : Int) (w : World) (hF : FmtAt w) :
    Calls Tryd.prog 17 #[.agg #[iv a, iv b], .int .i64 n] w fun e w' => e = .returned (.int .i64 (frmF a b n)) ∧ Below w.heap.size w w' := by
  unfold frmF
  cases h : rtOf a b with
  | none => exact frames_no a b (rtOf_none h) n w hF
  | some x =>
    obtain ⟨hx, rfl, rfl⟩ := rtOf_some h
    by_cases hn : 0 ≤ n ∧ n ≤ 10000000000
    · obtain ⟨k, rfl⟩ : ∃ k : Nat, n = (k : Int) := ⟨n.toNat, by omega⟩
      simp only [if_pos hn, Int.toNat_natCast]
      exact frames_ok x hx k (by omega) w hF
    · simp only [if_neg hn]
      exact frames_out x hx n hn w hF

theorem ticks_t (a b n : Int) (w : World) (hF : FmtAt w) :
    Calls Tryd.prog 19 #[.agg #[iv a, iv b], .int .i64 n] w fun e w' => e = .returned (.int .i64 (tckF a b n)) ∧ Below w.heap.size w w' := by
  unfold tckF
  cases h : rtOf a b with
  | none => exact ticks_no a b (rtOf_none h) n w hF
  | some x =>
    obtain ⟨hx, rfl, rfl⟩ := rtOf_some h
    by_cases hn : 0 ≤ n ∧ n ≤ 100000000
    · obtain ⟨k, rfl⟩ : ∃ k : Nat, n = (k : Int) := ⟨n.toNat, by omega⟩
      simp only [if_pos hn, Int.toNat_natCast]
      exact ticks_ok x hx k (by omega) w hF
    · simp only [if_neg hn]
      exact ticks_out x hx n hn w hF

theorem convert_t (a b n c d : Int) (w : World) (hF : FmtAt w) :
    Calls Tryd.prog 21 #[.agg #[iv a, iv b], .int .i64 n, .agg #[iv c, iv d]] w fun e w' => e = .returned (.int .i64 (convF a b n c d)) ∧ Below w.heap.size w w' := by
  unfold convF
  cases h : rtOf a b with
  | none => exact convert_no a b c d (rtOf_none h) n w hF
  | some x =>
    obtain ⟨hx, rfl, rfl⟩ := rtOf_some h
    cases h2 : rtOf c d with
    | none => exact convert_no2 x c d hx (rtOf_none h2) n w hF
    | some y =>
      obtain ⟨hy, rfl, rfl⟩ := rtOf_some h2
      by_cases hn : 0 ≤ n ∧ n ≤ 100000000
      · obtain ⟨k, rfl⟩ : ∃ k : Nat, n = (k : Int) := ⟨n.toNat, by omega⟩
        simp only [if_pos hn, Int.toNat_natCast]
        exact convert_ok x y hx hy k (by omega) w hF
      · simp only [if_neg hn]
        exact convert_out x y hx hy n hn w hF

theorem valid_t (a b : Int) (w : World) (hF : FmtAt w) :
    Calls Tryd.prog 23 #[.agg #[iv a, iv b]] w fun e w' => e = .returned (.bool (rtOf a b).isSome) ∧ Below w.heap.size w w' := by
  cases h : rtOf a b with
  | none => exact valid_no a b (rtOf_none h) w hF
  | some x =>
    obtain ⟨hx, rfl, rfl⟩ := rtOf_some h
    exact valid_ok x hx w hF

theorem rseconds_t (a b n : Int) (w : World) (hF : FmtAt w) :
    Calls Tryd.prog 16 #[.agg #[iv a, iv b], .int .i64 n] w fun e w' => e = .returned (.int .i64 (secF a b n)) ∧ Below w.heap.size w w' := by
  unfold secF
  cases h : rtOf a b with
  | none => exact rseconds_no a b (rtOf_none h) n w hF
  | some x =>
    obtain ⟨hx, rfl, rfl⟩ := rtOf_some h
    by_cases hn : 0 ≤ n ∧ n ≤ 100000000
    · obtain ⟨k, rfl⟩ : ∃ k : Nat, n = (k : Int) := ⟨n.toNat, by omega⟩
      simp only [if_pos hn, Int.toNat_natCast]
      exact rseconds_ok x hx k (by omega) w hF
    · simp only [if_neg hn]
      exact rseconds_out x hx n hn w hF

theorem rframes_t (a b n : Int) (w : World) (hF : FmtAt w) :
    Calls Tryd.prog 18 #[.agg #[iv a, iv b], .int .i64 n] w fun e w' => e = .returned (.int .i64 (frmF a b n)) ∧ Below w.heap.size w w' := by
  unfold frmF
  cases h : rtOf a b with
  | none => exact rframes_no a b (rtOf_none h) n w hF
  | some x =>
    obtain ⟨hx, rfl, rfl⟩ := rtOf_some h
    by_cases hn : 0 ≤ n ∧ n ≤ 10000000000
    · obtain ⟨k, rfl⟩ : ∃ k : Nat, n = (k : Int) := ⟨n.toNat, by omega⟩
      simp only [if_pos hn, Int.toNat_natCast]
      exact rframes_ok x hx k (by omega) w hF
    · simp only [if_neg hn]
      exact rframes_out x hx n hn w hF

theorem rticks_t (a b n : Int) (w : World) (hF : FmtAt w) :
    Calls Tryd.prog 20 #[.agg #[iv a, iv b], .int .i64 n] w fun e w' => e = .returned (.int .i64 (tckF a b n)) ∧ Below w.heap.size w w' := by
  unfold tckF
  cases h : rtOf a b with
  | none => exact rticks_no a b (rtOf_none h) n w hF
  | some x =>
    obtain ⟨hx, rfl, rfl⟩ := rtOf_some h
    by_cases hn : 0 ≤ n ∧ n ≤ 100000000
    · obtain ⟨k, rfl⟩ : ∃ k : Nat, n = (k : Int) := ⟨n.toNat, by omega⟩
      simp only [if_pos hn, Int.toNat_natCast]
      exact rticks_ok x hx k (by omega) w hF
    · simp only [if_neg hn]
      exact rticks_out x hx n hn w hF

theorem rconvert_t (a b n c d : Int) (w : World) (hF : FmtAt w) :
    Calls Tryd.prog 22 #[.agg #[iv a, iv b], .int .i64 n, .agg #[iv c, iv d]] w fun e w' => e = .returned (.int .i64 (convF a b n c d)) ∧ Below w.heap.size w w' := by
  unfold convF
  cases h : rtOf a b with
  | none => exact rconvert_no a b c d (rtOf_none h) n w hF
  | some x =>
    obtain ⟨hx, rfl, rfl⟩ := rtOf_some h
    cases h2 : rtOf c d with
    | none => exact rconvert_no2 x c d hx (rtOf_none h2) n w hF
    | some y =>
      obtain ⟨hy, rfl, rfl⟩ := rtOf_some h2
      by_cases hn : 0 ≤ n ∧ n ≤ 100000000
      · obtain ⟨k, rfl⟩ : ∃ k : Nat, n = (k : Int) := ⟨n.toNat, by omega⟩
        simp only [if_pos hn, Int.toNat_natCast]
        exact rconvert_ok x y hx hy k (by omega) w hF
      · simp only [if_neg hn]
        exact rconvert_out x y hx hy n hn w hF

theorem rvalid_t (a b : Int) (w : World) (hF : FmtAt w) :
    Calls Tryd.prog 24 #[.agg #[iv a, iv b]] w fun e w' => e = .returned (.bool (rtOf a b).isSome) ∧ Below w.heap.size w w' := by
  cases h : rtOf a b with
  | none => exact rvalid_no a b (rtOf_none h) w hF
  | some x =>
    obtain ⟨hx, rfl, rfl⟩ := rtOf_some h
    exact rvalid_ok x hx w hF

end Go.Proofs.YtfpmmfoinjcclaaDoor
