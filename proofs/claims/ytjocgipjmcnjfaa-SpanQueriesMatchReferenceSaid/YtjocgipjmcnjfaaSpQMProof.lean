/- SpanQueriesMatchReference returns true for every list of spans, every span and every two integers. Conditions: those of the given row, no others. -/
import Derived.Test.YtjocgipjmcnjfaaSpQM
import Derived.Test.YtjocgipjmcnjfaaSpOpen
import Derived.Test.YtjocgipjmcnjfaaLawKit
import Derived.ProofKit
namespace Go.Proofs.Ytjocgipjmcnjfaa
open Go.ChangeShapes Go.WideShapes Go.ChangeAt Go.WideMaps Go.WideElems Go.RowKit Go.ChangeMaps

namespace QM
theorem spec : LawSpec 4 Rows.spanQueriesMatchReferenceSpec := ⟨rfl, fun H ds h => by
  match ds, h with
  | [_, _, _, _], _ => exact ⟨rfl, rfl, rfl⟩⟩

set_option maxRecDepth 100000 in
theorem lifted (os : Os) (started : os.Started) (H : Type) (enc : TypeId × Value → H) :
    ReturnsInHanded {} Try.checked os 5 .any (Rows.spanQueriesMatchReferenceSpec.pre6 enc Try.prog Try.f5 Rows.spanQueriesMatchReferenceRow.domain false) (Rows.spanQueriesMatchReferenceSpec.post enc Try.prog Try.f5 false true false false) := by
  refine law_lifted6 (C := Try.checked) own laidOut os started H enc (by kernel_rfl) Try.func5 Try.underlying4 rfl spec (by kernel_rfl) #[.slice none 0 0, .agg #[.int .i64 0, .int .i64 0], .int .i64 0, .int .i64 0] (by kernel_rfl) (by kernel_rfl) (by kernel_rfl) (by kernel_rfl) (by kernel_rfl) ?_
  intro W base args ds before hval0 hA0 hlt hwt0 
  have hval : ∀ (j : Nat) t v, Try.f5.params[j]? = some t → args[j]? = some v → Value.okWide Try.prog W .any base t v := hval0
  have hA : DataW.TrodAll enc Try.prog W 0 (fun _ => true) true Try.f5.params.toList args.toList ds before := hA0
  have hwt : (DataW.weightsEach Try.prog (Try.f5.params.toList ++ Rows.spanQueriesMatchReferenceSpec.plain.varTypes Try.prog) (ds ++ [])).all (· ≤ reachBytes) = true := hwt0
  clear hval0 hA0 hwt0
  rw [Try.params5] at hA hval hwt
  obtain ⟨l, hl, rfl⟩ : ∃ l : List Value, args.toList = l ∧ args = l.toArray := ⟨args.toList, rfl, by simp⟩
  rw [hl] at hA
  obtain ⟨v0, l0, d0, e0, p0, q0, rfl, rfl, rfl, t0, hA⟩ := trodAll_cons hA
  obtain ⟨v1, l1, d1, e1, p1, q1, rfl, rfl, rfl, t1, hA⟩ := trodAll_cons hA
  obtain ⟨v2, l2, d2, e2, p2, q2, rfl, rfl, rfl, t2, hA⟩ := trodAll_cons hA
  obtain ⟨v3, l3, d3, e3, p3, q3, rfl, rfl, rfl, t3, hA⟩ := trodAll_cons hA
  obtain ⟨rfl, rfl, rfl⟩ := trodAll_nil hA
  clear hl
  obtain ⟨pa, ca, a, rfl, ka, ma, Sa, Ba⟩ := open_spans (hval 0 22 v0 rfl rfl) t0
  obtain ⟨x, y, rfl, wx, wy⟩ := open_span (hval 1 30 v1 rfl rfl) t1
  obtain ⟨t, rfl, rfl, rfl, wt⟩ := open_int Try.underlying3 (hval 2 3 v2 rfl rfl) t2
  have ht := wf64 wt
  obtain ⟨n, rfl, rfl, rfl, wn⟩ := open_int Try.underlying3 (hval 3 3 v3 rfl rfl) t3
  have hn := wf64 wn
  exact queries_law pa ca a (by omega) ka ma W Sa Ba x y t n ht.1 ht.2 hn.2

theorem row_holds : Rows.SpanQueriesMatchReferenceSaid :=
  OpenClaim.holds_of_wide 5 Try.f5 rfl rfl rfl rfl rfl rfl rfl ⟨rfl, rfl, rfl, rfl, rfl⟩ rfl rfl rfl rfl rfl (by kernel_rfl) Try.func5 (by kernel_rfl)
    (of_decide_eq_true (by kernel_rfl)) (by unfold Func.isWrapper; first | (rw [if_pos (by decide +kernel)]; kernel_rfl) | (rw [if_neg (by decide +kernel)]; exact ⟨rfl, rfl⟩))
    (fun os started H enc _ => lifted os started H enc)

end QM
end Go.Proofs.Ytjocgipjmcnjfaa
