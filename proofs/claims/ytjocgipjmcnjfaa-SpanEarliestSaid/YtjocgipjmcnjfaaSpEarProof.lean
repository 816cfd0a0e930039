/- SpanEarliest returns true for every list of spans and every two integers. Conditions: those of the given row, no others. -/
import Derived.Test.YtjocgipjmcnjfaaSpEar
import Derived.Test.YtjocgipjmcnjfaaSpOpen
import Derived.Test.YtjocgipjmcnjfaaLawKit
import Derived.ProofKit
namespace Go.Proofs.Ytjocgipjmcnjfaa
open Go.ChangeShapes Go.WideShapes Go.ChangeAt Go.WideMaps Go.WideElems Go.RowKit Go.ChangeMaps

namespace EA
theorem spec : LawSpec 3 Rows.spanEarliestSpec := ⟨rfl, fun H ds h => by
  match ds, h with
  | [_, _, _], _ => exact ⟨rfl, rfl, rfl⟩⟩

set_option maxRecDepth 100000 in
theorem lifted (os : Os) (started : os.Started) (H : Type) (enc : TypeId × Value → H) :
    ReturnsInHanded {} Try.checked os 9 .any (Rows.spanEarliestSpec.pre6 enc Try.prog Try.f9 Rows.spanEarliestRow.domain false) (Rows.spanEarliestSpec.post enc Try.prog Try.f9 false true false false) := by
  refine law_lifted6 (C := Try.checked) own laidOut os started H enc (by kernel_rfl) Try.func9 Try.underlying4 rfl spec (by kernel_rfl) #[.slice none 0 0, .int .i64 0, .int .i64 0] (by kernel_rfl) (by kernel_rfl) (by kernel_rfl) (by kernel_rfl) (by kernel_rfl) ?_
  intro W base args ds before hval0 hA0 hlt hwt0 
  have hval : ∀ (j : Nat) t v, Try.f9.params[j]? = some t → args[j]? = some v → Value.okWide Try.prog W .any base t v := hval0
  have hA : DataW.TrodAll enc Try.prog W 0 (fun _ => true) true Try.f9.params.toList args.toList ds before := hA0
  have hwt : (DataW.weightsEach Try.prog (Try.f9.params.toList ++ Rows.spanEarliestSpec.plain.varTypes Try.prog) (ds ++ [])).all (· ≤ reachBytes) = true := hwt0
  clear hval0 hA0 hwt0
  rw [Try.params9] at hA hval hwt
  obtain ⟨v0, v1, v2, d0, d1, d2, p0, p1, p2, rfl, rfl, rfl, t0, t1, t2⟩ := trodAll_three hA
  obtain ⟨pa, ca, a, rfl, ka, ma, Sa, Ba⟩ := open_spans (hval 0 22 v0 rfl rfl) t0
  obtain ⟨t, rfl, rfl, rfl, wt⟩ := open_int Try.underlying3 (hval 1 3 v1 rfl rfl) t1
  have ht := wf64 wt
  obtain ⟨n, rfl, rfl, rfl, wn⟩ := open_int Try.underlying3 (hval 2 3 v2 rfl rfl) t2
  have hn := wf64 wn
  exact earliest_law pa ca a (by omega) W Sa Ba t n ht hn

theorem row_holds : Rows.SpanEarliestSaid :=
  OpenClaim.holds_of_wide 9 Try.f9 rfl rfl rfl rfl rfl rfl rfl ⟨rfl, rfl, rfl, rfl, rfl⟩ rfl rfl rfl rfl rfl (by kernel_rfl) Try.func9 (by kernel_rfl)
    (of_decide_eq_true (by kernel_rfl)) (by unfold Func.isWrapper; first | (rw [if_pos (by decide +kernel)]; kernel_rfl) | (rw [if_neg (by decide +kernel)]; exact ⟨rfl, rfl⟩))
    (fun os started H enc _ => lifted os started H enc)

end EA
end Go.Proofs.Ytjocgipjmcnjfaa
