/- SpanSetsMatchReference returns true for every two lists of spans. Conditions: those of the given row, no others. -/
import Derived.Test.YtjocgipjmcnjfaaSpSM
import Derived.Test.YtjocgipjmcnjfaaSpOpen
import Derived.Test.YtjocgipjmcnjfaaLawKit
import Derived.ProofKit
namespace Go.Proofs.Ytjocgipjmcnjfaa
open Go.ChangeShapes Go.WideShapes Go.ChangeAt Go.WideMaps Go.WideElems Go.RowKit Go.ChangeMaps

namespace SM
theorem spec : LawSpec 2 Rows.spanSetsMatchReferenceSpec := ⟨rfl, fun H ds h => by
  match ds, h with
  | [_, _], _ => exact ⟨rfl, rfl, rfl⟩⟩

set_option maxRecDepth 100000 in
theorem lifted (os : Os) (started : os.Started) (H : Type) (enc : TypeId × Value → H) :
    ReturnsInHanded {} Try.checked os 4 .any (Rows.spanSetsMatchReferenceSpec.pre6 enc Try.prog Try.f4 Rows.spanSetsMatchReferenceRow.domain false) (Rows.spanSetsMatchReferenceSpec.post enc Try.prog Try.f4 false true false false) := by
  refine law_lifted6 (C := Try.checked) own laidOut os started H enc (by kernel_rfl) Try.func4 Try.underlying4 rfl spec (by kernel_rfl) #[.slice none 0 0, .slice none 0 0] (by kernel_rfl) (by kernel_rfl) (by kernel_rfl) (by kernel_rfl) (by kernel_rfl) ?_
  intro W base args ds before hval0 hA0 hlt hwt0 
  have hval : ∀ (j : Nat) t v, Try.f4.params[j]? = some t → args[j]? = some v → Value.okWide Try.prog W .any base t v := hval0
  have hA : DataW.TrodAll enc Try.prog W 0 (fun _ => true) true Try.f4.params.toList args.toList ds before := hA0
  have hwt : (DataW.weightsEach Try.prog (Try.f4.params.toList ++ Rows.spanSetsMatchReferenceSpec.plain.varTypes Try.prog) (ds ++ [])).all (· ≤ reachBytes) = true := hwt0
  clear hval0 hA0 hwt0
  rw [Try.params4] at hA hval hwt
  obtain ⟨v0, v1, d0, d1, p0, p1, rfl, rfl, rfl, t0, t1⟩ := trodAll_two hA
  obtain ⟨pa, ca, a, rfl, ka, ma, Sa, Ba⟩ := open_spans (hval 0 22 v0 rfl rfl) t0
  obtain ⟨pb, cb, b, rfl, kb, mb, Sb, Bb⟩ := open_spans (hval 1 22 v1 rfl rfl) t1
  exact sets_law pa ca a (by omega) ka ma pb cb b (by omega) kb mb W Sa Ba Sb Bb

theorem row_holds : Rows.SpanSetsMatchReferenceSaid :=
  OpenClaim.holds_of_wide 4 Try.f4 rfl rfl rfl rfl rfl rfl rfl ⟨rfl, rfl, rfl, rfl, rfl⟩ rfl rfl rfl rfl rfl (by kernel_rfl) Try.func4 (by kernel_rfl)
    (of_decide_eq_true (by kernel_rfl)) (by unfold Func.isWrapper; first | (rw [if_pos (by decide +kernel)]; kernel_rfl) | (rw [if_neg (by decide +kernel)]; exact ⟨rfl, rfl⟩))
    (fun os started H enc _ => lifted os started H enc)

end SM
end Go.Proofs.Ytjocgipjmcnjfaa
