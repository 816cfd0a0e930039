/- SpanCovers returns true for every list of spans and every span. Conditions: those of the given row, no others. -/
import Derived.Test.YtjocgipjmcnjfaaSpCov
import Derived.Test.YtjocgipjmcnjfaaSpOpen
import Derived.Test.YtjocgipjmcnjfaaLawKit
import Derived.ProofKit
namespace Go.Proofs.Ytjocgipjmcnjfaa
open Go.ChangeShapes Go.WideShapes Go.ChangeAt Go.WideMaps Go.WideElems Go.RowKit Go.ChangeMaps

namespace CV
theorem spec : LawSpec 2 Rows.spanCoversSpec := ⟨rfl, fun H ds h => by
  match ds, h with
  | [_, _], _ => exact ⟨rfl, rfl, rfl⟩⟩

set_option maxRecDepth 100000 in
theorem lifted (os : Os) (started : os.Started) (H : Type) (enc : TypeId × Value → H) :
    ReturnsInHanded {} Try.checked os 8 .any (Rows.spanCoversSpec.pre6 enc Try.prog Try.f8 Rows.spanCoversRow.domain false) (Rows.spanCoversSpec.post enc Try.prog Try.f8 false true false false) := by
  refine law_lifted6 (C := Try.checked) own laidOut os started H enc (by kernel_rfl) Try.func8 Try.underlying4 rfl spec (by kernel_rfl) #[.slice none 0 0, .agg #[.int .i64 0, .int .i64 0]] (by kernel_rfl) (by kernel_rfl) (by kernel_rfl) (by kernel_rfl) (by kernel_rfl) ?_
  intro W base args ds before hval0 hA0 hlt hwt0 
  have hval : ∀ (j : Nat) t v, Try.f8.params[j]? = some t → args[j]? = some v → Value.okWide Try.prog W .any base t v := hval0
  have hA : DataW.TrodAll enc Try.prog W 0 (fun _ => true) true Try.f8.params.toList args.toList ds before := hA0
  have hwt : (DataW.weightsEach Try.prog (Try.f8.params.toList ++ Rows.spanCoversSpec.plain.varTypes Try.prog) (ds ++ [])).all (· ≤ reachBytes) = true := hwt0
  clear hval0 hA0 hwt0
  rw [Try.params8] at hA hval hwt
  obtain ⟨v0, v1, d0, d1, p0, p1, rfl, rfl, rfl, t0, t1⟩ := trodAll_two hA
  obtain ⟨pa, ca, a, rfl, ka, ma, Sa, Ba⟩ := open_spans (hval 0 22 v0 rfl rfl) t0
  obtain ⟨x, y, rfl, wx, wy⟩ := open_span (hval 1 30 v1 rfl rfl) t1
  exact covers_law pa ca a (by omega) ka ma W Sa Ba x y (wf64 wx).1 (wf64 wx).2 (wf64 wy).1 (wf64 wy).2

theorem row_holds : Rows.SpanCoversSaid :=
  OpenClaim.holds_of_wide 8 Try.f8 rfl rfl rfl rfl rfl rfl rfl ⟨rfl, rfl, rfl, rfl, rfl⟩ rfl rfl rfl rfl rfl (by kernel_rfl) Try.func8 (by kernel_rfl)
    (of_decide_eq_true (by kernel_rfl)) (by unfold Func.isWrapper; first | (rw [if_pos (by decide +kernel)]; kernel_rfl) | (rw [if_neg (by decide +kernel)]; exact ⟨rfl, rfl⟩))
    (fun os started H enc _ => lifted os started H enc)

end CV
end Go.Proofs.Ytjocgipjmcnjfaa
