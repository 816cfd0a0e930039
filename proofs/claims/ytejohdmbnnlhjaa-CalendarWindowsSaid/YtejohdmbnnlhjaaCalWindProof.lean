/- CalendarWindows returns true for every offset, every list of integers that make the shifts, every span and window that integers make, and every further integer. Conditions: those of the given row, no others. -/
import Derived.Test.YtejohdmbnnlhjaaCalWind
import Derived.Test.YtejohdmbnnlhjaaCalLaid
import Derived.Test.YtejohdmbnnlhjaaCalOpen
import Derived.Test.YtejohdmbnnlhjaaLawKit
import Derived.ProofKit
namespace Go.Proofs.Ytejohdmbnnlhjaa
open Go.ChangeShapes Go.WideShapes Go.ChangeAt Go.WideMaps Go.WideElems Go.RowKit Go.ChangeMaps

namespace WD
theorem spec : LawSpec 6 Rows.calendarWindowsSpec := ⟨rfl, fun H ds h => by
  match ds, h with
  | [_, _, _, _, _, _], _ => exact ⟨rfl, rfl, rfl⟩⟩

set_option maxRecDepth 100000 in
theorem lifted (os : Os) (started : os.Started) (H : Type) (enc : TypeId × Value → H) :
    ReturnsInHanded {} Try.checked os 8 .any (Rows.calendarWindowsSpec.pre6 enc Try.prog Try.f8 Rows.calendarWindowsRow.domain false) (Rows.calendarWindowsSpec.post enc Try.prog Try.f8 false true false false) := by
  refine law_lifted6 (C := Try.checked) own laidOut os started H enc (by kernel_rfl) Try.func8 Try.underlying4 rfl spec (by kernel_rfl) #[.int .i64 0, .slice none 0 0, .int .i64 0, .int .i64 0, .agg #[.int .i64 0, .int .i64 0], .int .i64 0] (by kernel_rfl) (by kernel_rfl) (by kernel_rfl) (by kernel_rfl) (by kernel_rfl) ?_
  intro W base args ds before hval0 hA0 hlt hwt0 
  have hval : ∀ (j : Nat) t v, Try.f8.params[j]? = some t → args[j]? = some v → Value.okWide Try.prog W .any base t v := hval0
  have hA : DataW.TrodAll enc Try.prog W 0 (fun _ => true) true Try.f8.params.toList args.toList ds before := hA0
  have hwt : (DataW.weightsEach Try.prog (Try.f8.params.toList ++ Rows.calendarWindowsSpec.plain.varTypes Try.prog) (ds ++ [])).all (· ≤ reachBytes) = true := hwt0
  clear hval0 hA0 hwt0
  rw [Try.params8] at hA hval hwt
  obtain ⟨l, hl, rfl⟩ : ∃ l : List Value, args.toList = l ∧ args = l.toArray := ⟨args.toList, rfl, by simp⟩
  rw [hl] at hA
  obtain ⟨v0, l0, d0, e0, p0, q0, rfl, rfl, rfl, t0, hA⟩ := trodAll_cons hA
  obtain ⟨v1, l1, d1, e1, p1, q1, rfl, rfl, rfl, t1, hA⟩ := trodAll_cons hA
  obtain ⟨v2, l2, d2, e2, p2, q2, rfl, rfl, rfl, t2, hA⟩ := trodAll_cons hA
  obtain ⟨v3, l3, d3, e3, p3, q3, rfl, rfl, rfl, t3, hA⟩ := trodAll_cons hA
  obtain ⟨v4, l4, d4, e4, p4, q4, rfl, rfl, rfl, t4, hA⟩ := trodAll_cons hA
  obtain ⟨v5, l5, d5, e5, p5, q5, rfl, rfl, rfl, t5, hA⟩ := trodAll_cons hA
  obtain ⟨rfl, rfl, rfl⟩ := trodAll_nil hA
  clear hl
  obtain ⟨c, rfl, rfl, rfl, wc⟩ := open_int Try.underlying3 (hval 0 3 v0 rfl rfl) t0
  have hc := wf64 wc
  obtain ⟨p_l, len_l, cap_l, l, rfl, ll_l, lc_l, lm_l, at_l, wf_l, hd_l⟩ := open_ints_at Try.underlying32 Try.underlying3 (by kernel_rfl) (hval 1 32 v1 rfl rfl) t1
  obtain ⟨n, rfl, rfl, rfl, wn⟩ := open_int Try.underlying3 (hval 2 3 v2 rfl rfl) t2
  have hn := wf64 wn
  obtain ⟨m, rfl, rfl, rfl, wm⟩ := open_int Try.underlying3 (hval 3 3 v3 rfl rfl) t3
  have hm := wf64 wm
  obtain ⟨u0, u1, rfl, wu0, wu1⟩ := open_two (hval 4 36 v4 rfl rfl) t4
  obtain ⟨r, rfl, rfl, rfl, wr⟩ := open_int Try.underlying3 (hval 5 3 v5 rfl rfl) t5
  have hr := wf64 wr
  exact windows_law c p_l len_l cap_l (fun i => l.getD i 0) n m u0 u1 r W hc.1 hc.2 (by unfold maxLen at lm_l; omega) at_l (getD64 wf_l) hn.1 hn.2 hm.1 hm.2 (wf64 wu0).1 (wf64 wu0).2 (wf64 wu1).1 (wf64 wu1).2 hr.1 hr.2

theorem row_holds : Rows.CalendarWindowsSaid :=
  OpenClaim.holds_of_wide 8 Try.f8 rfl rfl rfl rfl rfl rfl rfl ⟨rfl, rfl, rfl, rfl, rfl⟩ rfl rfl rfl rfl rfl (by kernel_rfl) Try.func8 (by kernel_rfl)
    (of_decide_eq_true (by kernel_rfl)) (by unfold Func.isWrapper; first | (rw [if_pos (by decide +kernel)]; kernel_rfl) | (rw [if_neg (by decide +kernel)]; exact ⟨rfl, rfl⟩))
    (fun os started H enc _ => lifted os started H enc)

end WD
end Go.Proofs.Ytejohdmbnnlhjaa
