/- CalendarPlain returns true for every two integers. Conditions: those of the given row, no others. -/
import Derived.Test.YtejohdmbnnlhjaaCalPlain
import Derived.Test.YtejohdmbnnlhjaaCalLaid
import Derived.Test.YtejohdmbnnlhjaaLawKit
import Derived.ProofKit
namespace Go.Proofs.Ytejohdmbnnlhjaa
open Go.ChangeShapes Go.WideShapes Go.ChangeAt Go.WideMaps Go.WideElems Go.RowKit Go.ChangeMaps

namespace PL
theorem spec : LawSpec 2 Rows.calendarPlainSpec := ⟨rfl, fun H ds h => by
  match ds, h with
  | [_, _], _ => exact ⟨rfl, rfl, rfl⟩⟩

set_option maxRecDepth 100000 in
theorem lifted (os : Os) (started : os.Started) (H : Type) (enc : TypeId × Value → H) :
    ReturnsInHanded {} Try.checked os 7 .any (Rows.calendarPlainSpec.pre6 enc Try.prog Try.f7 Rows.calendarPlainRow.domain false) (Rows.calendarPlainSpec.post enc Try.prog Try.f7 false true false false) := by
  refine law_lifted6 (C := Try.checked) own laidOut os started H enc (by kernel_rfl) Try.func7 Try.underlying4 rfl spec (by kernel_rfl) #[.int .i64 0, .int .i64 0] (by kernel_rfl) (by kernel_rfl) (by kernel_rfl) (by kernel_rfl) (by kernel_rfl) ?_
  intro W base args ds before hval0 hA0 hlt hwt0 
  have hval : ∀ (j : Nat) t v, Try.f7.params[j]? = some t → args[j]? = some v → Value.okWide Try.prog W .any base t v := hval0
  have hA : DataW.TrodAll enc Try.prog W 0 (fun _ => true) true Try.f7.params.toList args.toList ds before := hA0
  have hwt : (DataW.weightsEach Try.prog (Try.f7.params.toList ++ Rows.calendarPlainSpec.plain.varTypes Try.prog) (ds ++ [])).all (· ≤ reachBytes) = true := hwt0
  clear hval0 hA0 hwt0
  rw [Try.params7] at hA hval hwt
  obtain ⟨v0, v1, d0, d1, p0, p1, rfl, rfl, rfl, t0, t1⟩ := trodAll_two hA
  obtain ⟨c, rfl, rfl, rfl, wc⟩ := open_int Try.underlying3 (hval 0 3 v0 rfl rfl) t0
  have hc := wf64 wc
  obtain ⟨n, rfl, rfl, rfl, wn⟩ := open_int Try.underlying3 (hval 1 3 v1 rfl rfl) t1
  have hn := wf64 wn
  exact plain_law c n W hc.1 hc.2 hn.1 hn.2

theorem row_holds : Rows.CalendarPlainSaid :=
  OpenClaim.holds_of_wide 7 Try.f7 rfl rfl rfl rfl rfl rfl rfl ⟨rfl, rfl, rfl, rfl, rfl⟩ rfl rfl rfl rfl rfl (by kernel_rfl) Try.func7 (by kernel_rfl)
    (of_decide_eq_true (by kernel_rfl)) (by unfold Func.isWrapper; first | (rw [if_pos (by decide +kernel)]; kernel_rfl) | (rw [if_neg (by decide +kernel)]; exact ⟨rfl, rfl⟩))
    (fun os started H enc _ => lifted os started H enc)

end PL
end Go.Proofs.Ytejohdmbnnlhjaa
