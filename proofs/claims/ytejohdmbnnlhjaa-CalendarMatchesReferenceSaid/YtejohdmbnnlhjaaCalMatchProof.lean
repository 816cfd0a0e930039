/- CalendarMatchesReference returns true for every zone, every two integers, and every three more. Conditions: those of the given row, no others. -/
import Derived.Test.YtejohdmbnnlhjaaCalMatch
import Derived.Test.YtejohdmbnnlhjaaCalLaid
import Derived.Test.YtejohdmbnnlhjaaCalOpen
import Derived.Test.YtejohdmbnnlhjaaCalOpenZ
import Derived.Test.YtejohdmbnnlhjaaLawKit
import Derived.ProofKit
namespace Go.Proofs.Ytejohdmbnnlhjaa
open Go.ChangeShapes Go.WideShapes Go.ChangeAt Go.WideMaps Go.WideElems Go.RowKit Go.ChangeMaps

namespace MR
theorem spec : LawSpec 4 Rows.calendarMatchesReferenceSpec := ⟨rfl, fun H ds h => by
  match ds, h with
  | [_, _, _, _], _ => exact ⟨rfl, rfl, rfl⟩⟩

set_option maxRecDepth 100000 in
theorem lifted (os : Os) (started : os.Started) (H : Type) (enc : TypeId × Value → H) :
    ReturnsInHanded {} Try.checked os 3 .any (Rows.calendarMatchesReferenceSpec.pre6 enc Try.prog Try.f3 Rows.calendarMatchesReferenceRow.domain false) (Rows.calendarMatchesReferenceSpec.post enc Try.prog Try.f3 false true false false) := by
  refine law_lifted6 (C := Try.checked) own laidOut os started H enc (by kernel_rfl) Try.func3 Try.underlying4 rfl spec (by kernel_rfl) #[.agg #[.int .i64 0, .slice none 0 0], .int .i64 0, .int .i64 0, .agg #[.int .i64 0, .int .i64 0, .int .i64 0]] (by kernel_rfl) (by kernel_rfl) (by kernel_rfl) (by kernel_rfl) (by kernel_rfl) ?_
  intro W base args ds before hval0 hA0 hlt hwt0 
  have hval : ∀ (j : Nat) t v, Try.f3.params[j]? = some t → args[j]? = some v → Value.okWide Try.prog W .any base t v := hval0
  have hA : DataW.TrodAll enc Try.prog W 0 (fun _ => true) true Try.f3.params.toList args.toList ds before := hA0
  have hwt : (DataW.weightsEach Try.prog (Try.f3.params.toList ++ Rows.calendarMatchesReferenceSpec.plain.varTypes Try.prog) (ds ++ [])).all (· ≤ reachBytes) = true := hwt0
  clear hval0 hA0 hwt0
  rw [Try.params3] at hA hval hwt
  obtain ⟨l, hl, rfl⟩ : ∃ l : List Value, args.toList = l ∧ args = l.toArray := ⟨args.toList, rfl, by simp⟩
  rw [hl] at hA
  obtain ⟨v0, l0, d0, e0, p0, q0, rfl, rfl, rfl, t0, hA⟩ := trodAll_cons hA
  obtain ⟨v1, l1, d1, e1, p1, q1, rfl, rfl, rfl, t1, hA⟩ := trodAll_cons hA
  obtain ⟨v2, l2, d2, e2, p2, q2, rfl, rfl, rfl, t2, hA⟩ := trodAll_cons hA
  obtain ⟨v3, l3, d3, e3, p3, q3, rfl, rfl, rfl, t3, hA⟩ := trodAll_cons hA
  obtain ⟨rfl, rfl, rfl⟩ := trodAll_nil hA
  clear hl
  obtain ⟨off_z, p_z, len_z, cap_z, sh_z, rfl, ll_z, lc_z, lm_z, at_z⟩ := open_zone (hval 0 24 v0 rfl rfl) t0
  obtain ⟨c, rfl, rfl, rfl, wc⟩ := open_int Try.underlying3 (hval 1 3 v1 rfl rfl) t1
  have hc := wf64 wc
  obtain ⟨m, rfl, rfl, rfl, wm⟩ := open_int Try.underlying3 (hval 2 3 v2 rfl rfl) t2
  have hm := wf64 wm
  obtain ⟨u0, u1, u2, rfl, wu0, wu1, wu2⟩ := open_three (hval 3 25 v3 rfl rfl) t3
  exact matches_law off_z p_z len_z cap_z (sh_z.take (min len_z 45)) c m u0 u1 u2 W (by unfold maxLen at lm_z; omega) lc_z (by unfold maxLen at lm_z; omega) (by rw [List.length_take, ll_z]; omega) (shAt_take at_z _) hc.1 hc.2 hm.1 hm.2 (wf64 wu0).1 (wf64 wu0).2 (wf64 wu1).1 (wf64 wu1).2 (wf64 wu2).1 (wf64 wu2).2

theorem row_holds : Rows.CalendarMatchesReferenceSaid :=
  OpenClaim.holds_of_wide 3 Try.f3 rfl rfl rfl rfl rfl rfl rfl ⟨rfl, rfl, rfl, rfl, rfl⟩ rfl rfl rfl rfl rfl (by kernel_rfl) Try.func3 (by kernel_rfl)
    (of_decide_eq_true (by kernel_rfl)) (by unfold Func.isWrapper; first | (rw [if_pos (by decide +kernel)]; kernel_rfl) | (rw [if_neg (by decide +kernel)]; exact ⟨rfl, rfl⟩))
    (fun os started H enc _ => lifted os started H enc)

end MR
end Go.Proofs.Ytejohdmbnnlhjaa
