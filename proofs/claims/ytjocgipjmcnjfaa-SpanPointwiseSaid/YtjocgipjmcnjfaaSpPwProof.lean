/- SpanPointwise returns true for every two lists of spans and every integer. Conditions: those of the given row, no others. -/
import Derived.Test.YtjocgipjmcnjfaaSpPw
import Derived.Test.YtjocgipjmcnjfaaSpOpen
import Derived.Test.YtjocgipjmcnjfaaLawKit
import Derived.ProofKit
namespace Go.Proofs.Ytjocgipjmcnjfaa
open Go.ChangeShapes Go.WideShapes Go.ChangeAt Go.WideMaps Go.WideElems Go.RowKit Go.ChangeMaps

namespace PW
theorem spec : LawSpec 3 Rows.spanPointwiseSpec := ⟨rfl, fun H ds h => by
  match ds, h with
  | [_, _, _], _ => exact ⟨rfl, rfl, rfl⟩⟩

set_option maxRecDepth 100000 in
theorem lifted (os : Os) (started : os.Started) (H : Type) (enc : TypeId × Value → H) :
    ReturnsInHanded {} Try.checked os 6 .any (Rows.spanPointwiseSpec.pre6 enc Try.prog Try.f6 Rows.spanPointwiseRow.domain false) (Rows.spanPointwiseSpec.post enc Try.prog Try.f6 false true false false) := by
  refine law_lifted6 (C := Try.checked) own laidOut os started H enc (by kernel_rfl) Try.func6 Try.underlying4 rfl spec (by kernel_rfl) #[.slice none 0 0, .slice none 0 0, .int .i64 0] (by kernel_rfl) (by kernel_rfl) (by kernel_rfl) (by kernel_rfl) (by kernel_rfl) ?_
  intro W base args ds before hval0 hA0 hlt hwt0 
  have hval : ∀ (j : Nat) t v, Try.f6.params[j]? = some t → args[j]? = some v → Value.okWide Try.prog W .any base t v := hval0
  have hA : DataW.TrodAll enc Try.prog W 0 (fun _ => true) true Try.f6.params.toList args.toList ds before := hA0
  have hwt : (DataW.weightsEach Try.prog (Try.f6.params.toList ++ Rows.spanPointwiseSpec.plain.varTypes Try.prog) (ds ++ [])).all (· ≤ reachBytes) = true := hwt0
  clear hval0 hA0 hwt0
  rw [Try.params6] at hA hval hwt
  obtain ⟨v0, v1, v2, d0, d1, d2, p0, p1, p2, rfl, rfl, rfl, t0, t1, t2⟩ := trodAll_three hA
  obtain ⟨pa, ca, a, rfl, ka, ma, Sa, Ba⟩ := open_spans (hval 0 22 v0 rfl rfl) t0
  obtain ⟨pb, cb, b, rfl, kb, mb, Sb, Bb⟩ := open_spans (hval 1 22 v1 rfl rfl) t1
  obtain ⟨x, rfl, rfl, rfl, wx⟩ := open_int Try.underlying3 (hval 2 3 v2 rfl rfl) t2
  have hx := wf64 wx
  exact pointwise_law pa ca a (by omega) ka ma pb cb b (by omega) kb mb W Sa Ba Sb Bb x

theorem row_holds : Rows.SpanPointwiseSaid :=
  OpenClaim.holds_of_wide 6 Try.f6 rfl rfl rfl rfl rfl rfl rfl ⟨rfl, rfl, rfl, rfl, rfl⟩ rfl rfl rfl rfl rfl (by kernel_rfl) Try.func6 (by kernel_rfl)
    (of_decide_eq_true (by kernel_rfl)) (by unfold Func.isWrapper; first | (rw [if_pos (by decide +kernel)]; kernel_rfl) | (rw [if_neg (by decide +kernel)]; exact ⟨rfl, rfl⟩))
    (fun os started H enc _ => lifted os started H enc)

end PW
end Go.Proofs.Ytjocgipjmcnjfaa
