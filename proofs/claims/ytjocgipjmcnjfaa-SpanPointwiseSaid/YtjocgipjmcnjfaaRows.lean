/-
  No cell of these rows narrows 'for every input' (looked for: loops, veiled, ifaces, maps, wideKeys, modest, calm, conditions, laid).
  DERIVED. THE GIVEN ROWS OF THIS SEAT. 8 by the template 'for every input the law returns true; each argument reads behind the call as it read before'; 0 by the template 'total and deterministic' (their statements: YtjocgipjmcnjfaaTotals.lean).
  GIVEN WITH THE SEED: the statements are not yours to turn. If you find one false, say at which input.
  Laid BY PROGRAM, IN A SANDBOX (cutbox-rows.mjs): the forced cells as the released guide's own fill.sh prints them over the translation 2bcdf03235c4f01b… (all of the seat's roots in one cut). By AI agents, Wed Nov 11 2026. No macro, syntax, notation, axiom, sorry.
-/
import Derived.Test.YtjocgipjmcnjfaaChecked
import GoSem.Claim
import GoSem.ClaimJoined
import GoSem.ClaimMapViews
import Derived.JoinedTies
import Derived.KernelRfl
namespace Go.Proofs.Ytjocgipjmcnjfaa
/- THE CELL 'sum', in the pinned program and in every row, IS THE sha256 OF THE DUMP (.gsa) THAT YtjocgipjmcnjfaaProg.lean LOADS. Nothing in Lean hashes anything: it is a label: what it is worth is what the hold of that sum in a sandbox is worth. -/
noncomputable def Try.pinned : Pinned := { name := "ytjocgipjmcnjfaa", sum := "2bcdf03235c4f01bbba156455a36c1fa5a9f699e8af0ee6ba48d7b48a7c8c327", checked := Try.checked }
namespace Rows
def none {H : Type} : Left H := { results := [], args := [] }

/-- 'onairlaw05.SpanNormalMatchesReference': WHATEVER THE INPUT: true; the input reads as it did. -/
def spanNormalMatchesReferenceSpec : ChangeSpec := { name := "spanNormalMatchesReference", fn := fun _ => fun
  | [d1, d2] => { results := [.lit (.bool true)], args := [d1, d2] }
  | _ => none }
def spanNormalMatchesReferenceRow : OpenClaim := { program := "ytjocgipjmcnjfaa", sum := "2bcdf03235c4f01bbba156455a36c1fa5a9f699e8af0ee6ba48d7b48a7c8c327", func := "onair/onairlaw05.SpanNormalMatchesReference", spec := "spanNormalMatchesReference", unfollowed := true, recurses := true, apart := false }
def SpanNormalMatchesReferenceSaid : Prop := spanNormalMatchesReferenceRow.holds Try.pinned (OpenSpec.ofChange spanNormalMatchesReferenceSpec)

/-- ITS FALSE NEIGHBOUR: 'it returns false'. Refute it at one input. -/
def spanNormalMatchesReferenceWrong : ChangeSpec := { name := "spanNormalMatchesReference", fn := fun _ => fun
  | [d1, d2] => { results := [.lit (.bool false)], args := [d1, d2] }
  | _ => none }
def SpanNormalMatchesReferenceWrongFalsely : Prop := spanNormalMatchesReferenceRow.holds Try.pinned (OpenSpec.ofChange spanNormalMatchesReferenceWrong)

/-- 'onairlaw05.SpanSetsMatchReference': WHATEVER THE INPUT: true; the input reads as it did. -/
def spanSetsMatchReferenceSpec : ChangeSpec := { name := "spanSetsMatchReference", fn := fun _ => fun
  | [d1, d2] => { results := [.lit (.bool true)], args := [d1, d2] }
  | _ => none }
def spanSetsMatchReferenceRow : OpenClaim := { program := "ytjocgipjmcnjfaa", sum := "2bcdf03235c4f01bbba156455a36c1fa5a9f699e8af0ee6ba48d7b48a7c8c327", func := "onair/onairlaw05.SpanSetsMatchReference", spec := "spanSetsMatchReference", unfollowed := true, recurses := true, apart := false }
def SpanSetsMatchReferenceSaid : Prop := spanSetsMatchReferenceRow.holds Try.pinned (OpenSpec.ofChange spanSetsMatchReferenceSpec)

/-- ITS FALSE NEIGHBOUR: 'it returns false'. Refute it at one input. -/
def spanSetsMatchReferenceWrong : ChangeSpec := { name := "spanSetsMatchReference", fn := fun _ => fun
  | [d1, d2] => { results := [.lit (.bool false)], args := [d1, d2] }
  | _ => none }
def SpanSetsMatchReferenceWrongFalsely : Prop := spanSetsMatchReferenceRow.holds Try.pinned (OpenSpec.ofChange spanSetsMatchReferenceWrong)

/-- 'onairlaw05.SpanQueriesMatchReference': WHATEVER THE INPUT: true; the input reads as it did. -/
def spanQueriesMatchReferenceSpec : ChangeSpec := { name := "spanQueriesMatchReference", fn := fun _ => fun
  | [d1, d2, d3, d4] => { results := [.lit (.bool true)], args := [d1, d2, d3, d4] }
  | _ => none }
def spanQueriesMatchReferenceRow : OpenClaim := { program := "ytjocgipjmcnjfaa", sum := "2bcdf03235c4f01bbba156455a36c1fa5a9f699e8af0ee6ba48d7b48a7c8c327", func := "onair/onairlaw05.SpanQueriesMatchReference", spec := "spanQueriesMatchReference", unfollowed := true, recurses := true, apart := false }
def SpanQueriesMatchReferenceSaid : Prop := spanQueriesMatchReferenceRow.holds Try.pinned (OpenSpec.ofChange spanQueriesMatchReferenceSpec)

/-- ITS FALSE NEIGHBOUR: 'it returns false'. Refute it at one input. -/
def spanQueriesMatchReferenceWrong : ChangeSpec := { name := "spanQueriesMatchReference", fn := fun _ => fun
  | [d1, d2, d3, d4] => { results := [.lit (.bool false)], args := [d1, d2, d3, d4] }
  | _ => none }
def SpanQueriesMatchReferenceWrongFalsely : Prop := spanQueriesMatchReferenceRow.holds Try.pinned (OpenSpec.ofChange spanQueriesMatchReferenceWrong)

/-- 'onairlaw05.SpanPointwise': WHATEVER THE INPUT: true; the input reads as it did. -/
def spanPointwiseSpec : ChangeSpec := { name := "spanPointwise", fn := fun _ => fun
  | [d1, d2, d3] => { results := [.lit (.bool true)], args := [d1, d2, d3] }
  | _ => none }
def spanPointwiseRow : OpenClaim := { program := "ytjocgipjmcnjfaa", sum := "2bcdf03235c4f01bbba156455a36c1fa5a9f699e8af0ee6ba48d7b48a7c8c327", func := "onair/onairlaw05.SpanPointwise", spec := "spanPointwise", unfollowed := true, recurses := true, apart := false }
def SpanPointwiseSaid : Prop := spanPointwiseRow.holds Try.pinned (OpenSpec.ofChange spanPointwiseSpec)

/-- ITS FALSE NEIGHBOUR: 'it returns false'. Refute it at one input. -/
def spanPointwiseWrong : ChangeSpec := { name := "spanPointwise", fn := fun _ => fun
  | [d1, d2, d3] => { results := [.lit (.bool false)], args := [d1, d2, d3] }
  | _ => none }
def SpanPointwiseWrongFalsely : Prop := spanPointwiseRow.holds Try.pinned (OpenSpec.ofChange spanPointwiseWrong)

/-- 'onairlaw05.SpanAlgebra': WHATEVER THE INPUT: true; the input reads as it did. -/
def spanAlgebraSpec : ChangeSpec := { name := "spanAlgebra", fn := fun _ => fun
  | [d1, d2, d3] => { results := [.lit (.bool true)], args := [d1, d2, d3] }
  | _ => none }
def spanAlgebraRow : OpenClaim := { program := "ytjocgipjmcnjfaa", sum := "2bcdf03235c4f01bbba156455a36c1fa5a9f699e8af0ee6ba48d7b48a7c8c327", func := "onair/onairlaw05.SpanAlgebra", spec := "spanAlgebra", unfollowed := true, recurses := true, apart := false }
def SpanAlgebraSaid : Prop := spanAlgebraRow.holds Try.pinned (OpenSpec.ofChange spanAlgebraSpec)

/-- ITS FALSE NEIGHBOUR: 'it returns false'. Refute it at one input. -/
def spanAlgebraWrong : ChangeSpec := { name := "spanAlgebra", fn := fun _ => fun
  | [d1, d2, d3] => { results := [.lit (.bool false)], args := [d1, d2, d3] }
  | _ => none }
def SpanAlgebraWrongFalsely : Prop := spanAlgebraRow.holds Try.pinned (OpenSpec.ofChange spanAlgebraWrong)

/-- 'onairlaw05.SpanCovers': WHATEVER THE INPUT: true; the input reads as it did. -/
def spanCoversSpec : ChangeSpec := { name := "spanCovers", fn := fun _ => fun
  | [d1, d2] => { results := [.lit (.bool true)], args := [d1, d2] }
  | _ => none }
def spanCoversRow : OpenClaim := { program := "ytjocgipjmcnjfaa", sum := "2bcdf03235c4f01bbba156455a36c1fa5a9f699e8af0ee6ba48d7b48a7c8c327", func := "onair/onairlaw05.SpanCovers", spec := "spanCovers", unfollowed := true, recurses := true, apart := false }
def SpanCoversSaid : Prop := spanCoversRow.holds Try.pinned (OpenSpec.ofChange spanCoversSpec)

/-- ITS FALSE NEIGHBOUR: 'it returns false'. Refute it at one input. -/
def spanCoversWrong : ChangeSpec := { name := "spanCovers", fn := fun _ => fun
  | [d1, d2] => { results := [.lit (.bool false)], args := [d1, d2] }
  | _ => none }
def SpanCoversWrongFalsely : Prop := spanCoversRow.holds Try.pinned (OpenSpec.ofChange spanCoversWrong)

/-- 'onairlaw05.SpanEarliest': WHATEVER THE INPUT: true; the input reads as it did. -/
def spanEarliestSpec : ChangeSpec := { name := "spanEarliest", fn := fun _ => fun
  | [d1, d2, d3] => { results := [.lit (.bool true)], args := [d1, d2, d3] }
  | _ => none }
def spanEarliestRow : OpenClaim := { program := "ytjocgipjmcnjfaa", sum := "2bcdf03235c4f01bbba156455a36c1fa5a9f699e8af0ee6ba48d7b48a7c8c327", func := "onair/onairlaw05.SpanEarliest", spec := "spanEarliest", unfollowed := true, recurses := true, apart := false }
def SpanEarliestSaid : Prop := spanEarliestRow.holds Try.pinned (OpenSpec.ofChange spanEarliestSpec)

/-- ITS FALSE NEIGHBOUR: 'it returns false'. Refute it at one input. -/
def spanEarliestWrong : ChangeSpec := { name := "spanEarliest", fn := fun _ => fun
  | [d1, d2, d3] => { results := [.lit (.bool false)], args := [d1, d2, d3] }
  | _ => none }
def SpanEarliestWrongFalsely : Prop := spanEarliestRow.holds Try.pinned (OpenSpec.ofChange spanEarliestWrong)

/-- 'onairlaw05.SpanTotal': WHATEVER THE INPUT: true; the input reads as it did. -/
def spanTotalSpec : ChangeSpec := { name := "spanTotal", fn := fun _ => fun
  | [d1, d2] => { results := [.lit (.bool true)], args := [d1, d2] }
  | _ => none }
def spanTotalRow : OpenClaim := { program := "ytjocgipjmcnjfaa", sum := "2bcdf03235c4f01bbba156455a36c1fa5a9f699e8af0ee6ba48d7b48a7c8c327", func := "onair/onairlaw05.SpanTotal", spec := "spanTotal", unfollowed := true, recurses := true, apart := false }
def SpanTotalSaid : Prop := spanTotalRow.holds Try.pinned (OpenSpec.ofChange spanTotalSpec)

/-- ITS FALSE NEIGHBOUR: 'it returns false'. Refute it at one input. -/
def spanTotalWrong : ChangeSpec := { name := "spanTotal", fn := fun _ => fun
  | [d1, d2] => { results := [.lit (.bool false)], args := [d1, d2] }
  | _ => none }
def SpanTotalWrongFalsely : Prop := spanTotalRow.holds Try.pinned (OpenSpec.ofChange spanTotalWrong)

/- THE SECOND FORM. 'bulk': how many values and letters a reading holds, each counted each time it is reached (what is shared counts as often as it is met; a slice's spare places count too). A statement '..UptoSaid' is the law's where the arguments, and the package variables that the reading takes, are together of bulk at most 1048576: NARROWER than '..Said'. Prove '..Said' where nothing that the law and all that it calls make is longer than what came in: it says more and counts as full. Else prove '..UptoSaid'. A law counts once. -/
mutual
def uptoBulk {H : Type} : DataW H → Nat
  | .lit (.string bytes) => bytes.length + 1
  | .lit _ => 1
  | .nil => 1
  | .ptr d => uptoBulk d + 1
  | .slice elems spare => uptoBulkAll elems + uptoBulkAll spare + 1
  | .agg parts => uptoBulkAll parts + 1
  | .iface _ d => uptoBulk d + 1
  | .map entries => uptoBulkEntries entries + 1
  | .held _ => 1
def uptoBulkAll {H : Type} : List (DataW H) → Nat
  | [] => 0
  | d :: r => uptoBulk d + uptoBulkAll r
def uptoBulkEntries {H : Type} : List (Lit × DataW H) → Nat
  | [] => 0
  | x :: r => uptoBulkEntry x + uptoBulkEntries r
def uptoBulkEntry {H : Type} : Lit × DataW H → Nat
  | (.string bytes, d) => bytes.length + uptoBulk d + 1
  | (_, d) => uptoBulk d + 1
 end
def uptoSmall : (H : Type) → List (DataW H) → Bool := fun _ ds => decide (uptoBulkAll ds ≤ 1048576)
def OpenSpec.upto (s : _root_.Go.ChangeSpec) : _root_.Go.OpenSpec := { _root_.Go.OpenSpec.ofChange s with cond := some uptoSmall }

/-- 'onairlaw05.SpanNormalMatchesReference', WHERE WHAT IT READS IS OF BULK AT MOST 1048576: true; the input reads as it did. -/
def spanNormalMatchesReferenceUptoRow : OpenClaim := { program := "ytjocgipjmcnjfaa", sum := "2bcdf03235c4f01bbba156455a36c1fa5a9f699e8af0ee6ba48d7b48a7c8c327", func := "onair/onairlaw05.SpanNormalMatchesReference", spec := "spanNormalMatchesReference", unfollowed := true, recurses := true, apart := false, narrowed := true }
def SpanNormalMatchesReferenceUptoSaid : Prop := spanNormalMatchesReferenceUptoRow.holds Try.pinned (OpenSpec.upto spanNormalMatchesReferenceSpec)

/-- 'onairlaw05.SpanSetsMatchReference', WHERE WHAT IT READS IS OF BULK AT MOST 1048576: true; the input reads as it did. -/
def spanSetsMatchReferenceUptoRow : OpenClaim := { program := "ytjocgipjmcnjfaa", sum := "2bcdf03235c4f01bbba156455a36c1fa5a9f699e8af0ee6ba48d7b48a7c8c327", func := "onair/onairlaw05.SpanSetsMatchReference", spec := "spanSetsMatchReference", unfollowed := true, recurses := true, apart := false, narrowed := true }
def SpanSetsMatchReferenceUptoSaid : Prop := spanSetsMatchReferenceUptoRow.holds Try.pinned (OpenSpec.upto spanSetsMatchReferenceSpec)

/-- 'onairlaw05.SpanQueriesMatchReference', WHERE WHAT IT READS IS OF BULK AT MOST 1048576: true; the input reads as it did. -/
def spanQueriesMatchReferenceUptoRow : OpenClaim := { program := "ytjocgipjmcnjfaa", sum := "2bcdf03235c4f01bbba156455a36c1fa5a9f699e8af0ee6ba48d7b48a7c8c327", func := "onair/onairlaw05.SpanQueriesMatchReference", spec := "spanQueriesMatchReference", unfollowed := true, recurses := true, apart := false, narrowed := true }
def SpanQueriesMatchReferenceUptoSaid : Prop := spanQueriesMatchReferenceUptoRow.holds Try.pinned (OpenSpec.upto spanQueriesMatchReferenceSpec)

/-- 'onairlaw05.SpanPointwise', WHERE WHAT IT READS IS OF BULK AT MOST 1048576: true; the input reads as it did. -/
def spanPointwiseUptoRow : OpenClaim := { program := "ytjocgipjmcnjfaa", sum := "2bcdf03235c4f01bbba156455a36c1fa5a9f699e8af0ee6ba48d7b48a7c8c327", func := "onair/onairlaw05.SpanPointwise", spec := "spanPointwise", unfollowed := true, recurses := true, apart := false, narrowed := true }
def SpanPointwiseUptoSaid : Prop := spanPointwiseUptoRow.holds Try.pinned (OpenSpec.upto spanPointwiseSpec)

/-- 'onairlaw05.SpanAlgebra', WHERE WHAT IT READS IS OF BULK AT MOST 1048576: true; the input reads as it did. -/
def spanAlgebraUptoRow : OpenClaim := { program := "ytjocgipjmcnjfaa", sum := "2bcdf03235c4f01bbba156455a36c1fa5a9f699e8af0ee6ba48d7b48a7c8c327", func := "onair/onairlaw05.SpanAlgebra", spec := "spanAlgebra", unfollowed := true, recurses := true, apart := false, narrowed := true }
def SpanAlgebraUptoSaid : Prop := spanAlgebraUptoRow.holds Try.pinned (OpenSpec.upto spanAlgebraSpec)

/-- 'onairlaw05.SpanCovers', WHERE WHAT IT READS IS OF BULK AT MOST 1048576: true; the input reads as it did. -/
def spanCoversUptoRow : OpenClaim := { program := "ytjocgipjmcnjfaa", sum := "2bcdf03235c4f01bbba156455a36c1fa5a9f699e8af0ee6ba48d7b48a7c8c327", func := "onair/onairlaw05.SpanCovers", spec := "spanCovers", unfollowed := true, recurses := true, apart := false, narrowed := true }
def SpanCoversUptoSaid : Prop := spanCoversUptoRow.holds Try.pinned (OpenSpec.upto spanCoversSpec)

/-- 'onairlaw05.SpanEarliest', WHERE WHAT IT READS IS OF BULK AT MOST 1048576: true; the input reads as it did. -/
def spanEarliestUptoRow : OpenClaim := { program := "ytjocgipjmcnjfaa", sum := "2bcdf03235c4f01bbba156455a36c1fa5a9f699e8af0ee6ba48d7b48a7c8c327", func := "onair/onairlaw05.SpanEarliest", spec := "spanEarliest", unfollowed := true, recurses := true, apart := false, narrowed := true }
def SpanEarliestUptoSaid : Prop := spanEarliestUptoRow.holds Try.pinned (OpenSpec.upto spanEarliestSpec)

/-- 'onairlaw05.SpanTotal', WHERE WHAT IT READS IS OF BULK AT MOST 1048576: true; the input reads as it did. -/
def spanTotalUptoRow : OpenClaim := { program := "ytjocgipjmcnjfaa", sum := "2bcdf03235c4f01bbba156455a36c1fa5a9f699e8af0ee6ba48d7b48a7c8c327", func := "onair/onairlaw05.SpanTotal", spec := "spanTotal", unfollowed := true, recurses := true, apart := false, narrowed := true }
def SpanTotalUptoSaid : Prop := spanTotalUptoRow.holds Try.pinned (OpenSpec.upto spanTotalSpec)

end Rows
end Go.Proofs.Ytjocgipjmcnjfaa
