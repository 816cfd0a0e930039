/-
  NARROWER THAN 'FOR EVERY INPUT', by the rows' own cells (each row's printed sentence says how): TimecodeMatchesReference: laid · TimecodeTextMatchesReference: laid · TimecodeRoundTrip: laid · TimecodeAscends: laid · TimecodeDropped: laid · TimecodeSeconds: laid · TimecodeClose: laid · TimecodeConverts: laid · TimecodeTicks: laid.
  DERIVED. THE GIVEN ROWS OF THIS SEAT. 9 by the template 'for every input the law returns true; each argument reads behind the call as it read before'; 0 by the template 'total and deterministic' (their statements: YtfpmmfoinjcclaaDoorTotals.lean).
  GIVEN WITH THE SEED: the statements are not yours to turn. If you find one false, say at which input.
  Laid BY PROGRAM, IN A SANDBOX (cutbox-rows.mjs): the forced cells as the released guide's own fill.sh prints them over the translation 7ad7741fe8ce6ae4… (all of the seat's roots in one cut). By AI agents, Wed Nov 11 2026. No macro, syntax, notation, axiom, sorry.
-/
import Derived.Test.YtfpmmfoinjcclaaDoorChecked
import GoSem.Claim
import GoSem.ClaimJoined
import GoSem.ClaimMapViews
import Derived.JoinedTies
import Derived.KernelRfl
namespace Go.Proofs.YtfpmmfoinjcclaaDoor
/- THE CELL 'sum', in the pinned program and in every row, IS THE sha256 OF THE DUMP (.gsa) THAT YtfpmmfoinjcclaaDoorProg.lean LOADS. Nothing in Lean hashes anything: it is a label: what it is worth is what the hold of that sum in a sandbox is worth. -/
noncomputable def Tryd.pinned : Pinned := { name := "ytfpmmfoinjcclaadoor", sum := "7ad7741fe8ce6ae477b813987244c596beb3375d6d2f61f98efc1fde58aa9527", checked := Tryd.checked }
namespace Rows
def none {H : Type} : Left H := { results := [], args := [] }

/- WHAT THE LISTED PACKAGE-LEVEL VARIABLES READ AS WHEN THE CALL BEGINS. Each datum BY PROGRAM (the guide's laid-datum.mjs) off the statement by which the dump's own 'gosem.cut.vars' lays the variable. In a bare row this is a premise. The card (YtfpmmfoinjcclaaDoorCards.lean) ties it to the program's text. -/
def laid_onair_timecode_formats {H : Type} : DataW H := .agg [.agg [.agg [.lit (.int .i64 24000), .lit (.int .i64 1001)], .lit (.int .i64 24), .lit (.int .i64 0)], .agg [.agg [.lit (.int .i64 24), .lit (.int .i64 1)], .lit (.int .i64 24), .lit (.int .i64 0)], .agg [.agg [.lit (.int .i64 25), .lit (.int .i64 1)], .lit (.int .i64 25), .lit (.int .i64 0)], .agg [.agg [.lit (.int .i64 30000), .lit (.int .i64 1001)], .lit (.int .i64 30), .lit (.int .i64 2)], .agg [.agg [.lit (.int .i64 30), .lit (.int .i64 1)], .lit (.int .i64 30), .lit (.int .i64 0)], .agg [.agg [.lit (.int .i64 50), .lit (.int .i64 1)], .lit (.int .i64 50), .lit (.int .i64 0)], .agg [.agg [.lit (.int .i64 60000), .lit (.int .i64 1001)], .lit (.int .i64 60), .lit (.int .i64 4)], .agg [.agg [.lit (.int .i64 60), .lit (.int .i64 1)], .lit (.int .i64 60), .lit (.int .i64 0)]]

/-- 'onairlaw03.TimecodeMatchesReference': WHATEVER THE INPUT: true; the input reads as it did. -/
def timecodeMatchesReferenceSpec : ChangeSpec := { name := "timecodeMatchesReference", fn := fun _ => fun
  | [d1, d2, d3, d4, d5] => { results := [.lit (.bool true)], args := [d1, d2, d3, d4, d5] }
  | _ => none }
def timecodeMatchesReferenceRow : OpenClaim := { program := "ytfpmmfoinjcclaadoor", sum := "7ad7741fe8ce6ae477b813987244c596beb3375d6d2f61f98efc1fde58aa9527", func := "onair/onairlaw03.TimecodeMatchesReference", spec := "timecodeMatchesReference", named := ["onair/timecode.formats"], apart := false, laid := [("onair/timecode.formats", laid_onair_timecode_formats)] }
def TimecodeMatchesReferenceSaid : Prop := timecodeMatchesReferenceRow.holds Tryd.pinned (OpenSpec.ofChange timecodeMatchesReferenceSpec)

/-- ITS FALSE NEIGHBOUR: 'it returns false'. Refute it at one input. -/
def timecodeMatchesReferenceWrong : ChangeSpec := { name := "timecodeMatchesReference", fn := fun _ => fun
  | [d1, d2, d3, d4, d5] => { results := [.lit (.bool false)], args := [d1, d2, d3, d4, d5] }
  | _ => none }
def TimecodeMatchesReferenceWrongFalsely : Prop := timecodeMatchesReferenceRow.holds Tryd.pinned (OpenSpec.ofChange timecodeMatchesReferenceWrong)

/-- 'onairlaw03.TimecodeTextMatchesReference': WHATEVER THE INPUT: true; the input reads as it did. -/
def timecodeTextMatchesReferenceSpec : ChangeSpec := { name := "timecodeTextMatchesReference", fn := fun _ => fun
  | [d1, d2, d3, d4] => { results := [.lit (.bool true)], args := [d1, d2, d3, d4] }
  | _ => none }
def timecodeTextMatchesReferenceRow : OpenClaim := { program := "ytfpmmfoinjcclaadoor", sum := "7ad7741fe8ce6ae477b813987244c596beb3375d6d2f61f98efc1fde58aa9527", func := "onair/onairlaw03.TimecodeTextMatchesReference", spec := "timecodeTextMatchesReference", named := ["onair/timecode.formats"], apart := false, laid := [("onair/timecode.formats", laid_onair_timecode_formats)] }
def TimecodeTextMatchesReferenceSaid : Prop := timecodeTextMatchesReferenceRow.holds Tryd.pinned (OpenSpec.ofChange timecodeTextMatchesReferenceSpec)

/-- ITS FALSE NEIGHBOUR: 'it returns false'. Refute it at one input. -/
def timecodeTextMatchesReferenceWrong : ChangeSpec := { name := "timecodeTextMatchesReference", fn := fun _ => fun
  | [d1, d2, d3, d4] => { results := [.lit (.bool false)], args := [d1, d2, d3, d4] }
  | _ => none }
def TimecodeTextMatchesReferenceWrongFalsely : Prop := timecodeTextMatchesReferenceRow.holds Tryd.pinned (OpenSpec.ofChange timecodeTextMatchesReferenceWrong)

/-- 'onairlaw03.TimecodeRoundTrip': WHATEVER THE INPUT: true; the input reads as it did. -/
def timecodeRoundTripSpec : ChangeSpec := { name := "timecodeRoundTrip", fn := fun _ => fun
  | [d1, d2, d3] => { results := [.lit (.bool true)], args := [d1, d2, d3] }
  | _ => none }
def timecodeRoundTripRow : OpenClaim := { program := "ytfpmmfoinjcclaadoor", sum := "7ad7741fe8ce6ae477b813987244c596beb3375d6d2f61f98efc1fde58aa9527", func := "onair/onairlaw03.TimecodeRoundTrip", spec := "timecodeRoundTrip", named := ["onair/timecode.formats"], apart := false, laid := [("onair/timecode.formats", laid_onair_timecode_formats)] }
def TimecodeRoundTripSaid : Prop := timecodeRoundTripRow.holds Tryd.pinned (OpenSpec.ofChange timecodeRoundTripSpec)

/-- ITS FALSE NEIGHBOUR: 'it returns false'. Refute it at one input. -/
def timecodeRoundTripWrong : ChangeSpec := { name := "timecodeRoundTrip", fn := fun _ => fun
  | [d1, d2, d3] => { results := [.lit (.bool false)], args := [d1, d2, d3] }
  | _ => none }
def TimecodeRoundTripWrongFalsely : Prop := timecodeRoundTripRow.holds Tryd.pinned (OpenSpec.ofChange timecodeRoundTripWrong)

/-- 'onairlaw03.TimecodeAscends': WHATEVER THE INPUT: true; the input reads as it did. -/
def timecodeAscendsSpec : ChangeSpec := { name := "timecodeAscends", fn := fun _ => fun
  | [d1, d2, d3] => { results := [.lit (.bool true)], args := [d1, d2, d3] }
  | _ => none }
def timecodeAscendsRow : OpenClaim := { program := "ytfpmmfoinjcclaadoor", sum := "7ad7741fe8ce6ae477b813987244c596beb3375d6d2f61f98efc1fde58aa9527", func := "onair/onairlaw03.TimecodeAscends", spec := "timecodeAscends", named := ["onair/timecode.formats"], apart := false, laid := [("onair/timecode.formats", laid_onair_timecode_formats)] }
def TimecodeAscendsSaid : Prop := timecodeAscendsRow.holds Tryd.pinned (OpenSpec.ofChange timecodeAscendsSpec)

/-- ITS FALSE NEIGHBOUR: 'it returns false'. Refute it at one input. -/
def timecodeAscendsWrong : ChangeSpec := { name := "timecodeAscends", fn := fun _ => fun
  | [d1, d2, d3] => { results := [.lit (.bool false)], args := [d1, d2, d3] }
  | _ => none }
def TimecodeAscendsWrongFalsely : Prop := timecodeAscendsRow.holds Tryd.pinned (OpenSpec.ofChange timecodeAscendsWrong)

/-- 'onairlaw03.TimecodeDropped': WHATEVER THE INPUT: true; the input reads as it did. -/
def timecodeDroppedSpec : ChangeSpec := { name := "timecodeDropped", fn := fun _ => fun
  | [d1, d2, d3] => { results := [.lit (.bool true)], args := [d1, d2, d3] }
  | _ => none }
def timecodeDroppedRow : OpenClaim := { program := "ytfpmmfoinjcclaadoor", sum := "7ad7741fe8ce6ae477b813987244c596beb3375d6d2f61f98efc1fde58aa9527", func := "onair/onairlaw03.TimecodeDropped", spec := "timecodeDropped", named := ["onair/timecode.formats"], apart := false, laid := [("onair/timecode.formats", laid_onair_timecode_formats)] }
def TimecodeDroppedSaid : Prop := timecodeDroppedRow.holds Tryd.pinned (OpenSpec.ofChange timecodeDroppedSpec)

/-- ITS FALSE NEIGHBOUR: 'it returns false'. Refute it at one input. -/
def timecodeDroppedWrong : ChangeSpec := { name := "timecodeDropped", fn := fun _ => fun
  | [d1, d2, d3] => { results := [.lit (.bool false)], args := [d1, d2, d3] }
  | _ => none }
def TimecodeDroppedWrongFalsely : Prop := timecodeDroppedRow.holds Tryd.pinned (OpenSpec.ofChange timecodeDroppedWrong)

/-- 'onairlaw03.TimecodeSeconds': WHATEVER THE INPUT: true; the input reads as it did. -/
def timecodeSecondsSpec : ChangeSpec := { name := "timecodeSeconds", fn := fun _ => fun
  | [d1, d2, d3] => { results := [.lit (.bool true)], args := [d1, d2, d3] }
  | _ => none }
def timecodeSecondsRow : OpenClaim := { program := "ytfpmmfoinjcclaadoor", sum := "7ad7741fe8ce6ae477b813987244c596beb3375d6d2f61f98efc1fde58aa9527", func := "onair/onairlaw03.TimecodeSeconds", spec := "timecodeSeconds", named := ["onair/timecode.formats"], apart := false, laid := [("onair/timecode.formats", laid_onair_timecode_formats)] }
def TimecodeSecondsSaid : Prop := timecodeSecondsRow.holds Tryd.pinned (OpenSpec.ofChange timecodeSecondsSpec)

/-- ITS FALSE NEIGHBOUR: 'it returns false'. Refute it at one input. -/
def timecodeSecondsWrong : ChangeSpec := { name := "timecodeSeconds", fn := fun _ => fun
  | [d1, d2, d3] => { results := [.lit (.bool false)], args := [d1, d2, d3] }
  | _ => none }
def TimecodeSecondsWrongFalsely : Prop := timecodeSecondsRow.holds Tryd.pinned (OpenSpec.ofChange timecodeSecondsWrong)

/-- 'onairlaw03.TimecodeClose': WHATEVER THE INPUT: true; the input reads as it did. -/
def timecodeCloseSpec : ChangeSpec := { name := "timecodeClose", fn := fun _ => fun
  | [d1, d2] => { results := [.lit (.bool true)], args := [d1, d2] }
  | _ => none }
def timecodeCloseRow : OpenClaim := { program := "ytfpmmfoinjcclaadoor", sum := "7ad7741fe8ce6ae477b813987244c596beb3375d6d2f61f98efc1fde58aa9527", func := "onair/onairlaw03.TimecodeClose", spec := "timecodeClose", named := ["onair/timecode.formats"], apart := false, laid := [("onair/timecode.formats", laid_onair_timecode_formats)] }
def TimecodeCloseSaid : Prop := timecodeCloseRow.holds Tryd.pinned (OpenSpec.ofChange timecodeCloseSpec)

/-- ITS FALSE NEIGHBOUR: 'it returns false'. Refute it at one input. -/
def timecodeCloseWrong : ChangeSpec := { name := "timecodeClose", fn := fun _ => fun
  | [d1, d2] => { results := [.lit (.bool false)], args := [d1, d2] }
  | _ => none }
def TimecodeCloseWrongFalsely : Prop := timecodeCloseRow.holds Tryd.pinned (OpenSpec.ofChange timecodeCloseWrong)

/-- 'onairlaw03.TimecodeConverts': WHATEVER THE INPUT: true; the input reads as it did. -/
def timecodeConvertsSpec : ChangeSpec := { name := "timecodeConverts", fn := fun _ => fun
  | [d1, d2, d3, d4] => { results := [.lit (.bool true)], args := [d1, d2, d3, d4] }
  | _ => none }
def timecodeConvertsRow : OpenClaim := { program := "ytfpmmfoinjcclaadoor", sum := "7ad7741fe8ce6ae477b813987244c596beb3375d6d2f61f98efc1fde58aa9527", func := "onair/onairlaw03.TimecodeConverts", spec := "timecodeConverts", named := ["onair/timecode.formats"], apart := false, laid := [("onair/timecode.formats", laid_onair_timecode_formats)] }
def TimecodeConvertsSaid : Prop := timecodeConvertsRow.holds Tryd.pinned (OpenSpec.ofChange timecodeConvertsSpec)

/-- ITS FALSE NEIGHBOUR: 'it returns false'. Refute it at one input. -/
def timecodeConvertsWrong : ChangeSpec := { name := "timecodeConverts", fn := fun _ => fun
  | [d1, d2, d3, d4] => { results := [.lit (.bool false)], args := [d1, d2, d3, d4] }
  | _ => none }
def TimecodeConvertsWrongFalsely : Prop := timecodeConvertsRow.holds Tryd.pinned (OpenSpec.ofChange timecodeConvertsWrong)

/-- 'onairlaw03.TimecodeTicks': WHATEVER THE INPUT: true; the input reads as it did. -/
def timecodeTicksSpec : ChangeSpec := { name := "timecodeTicks", fn := fun _ => fun
  | [d1, d2] => { results := [.lit (.bool true)], args := [d1, d2] }
  | _ => none }
def timecodeTicksRow : OpenClaim := { program := "ytfpmmfoinjcclaadoor", sum := "7ad7741fe8ce6ae477b813987244c596beb3375d6d2f61f98efc1fde58aa9527", func := "onair/onairlaw03.TimecodeTicks", spec := "timecodeTicks", named := ["onair/timecode.formats"], apart := false, laid := [("onair/timecode.formats", laid_onair_timecode_formats)] }
def TimecodeTicksSaid : Prop := timecodeTicksRow.holds Tryd.pinned (OpenSpec.ofChange timecodeTicksSpec)

/-- ITS FALSE NEIGHBOUR: 'it returns false'. Refute it at one input. -/
def timecodeTicksWrong : ChangeSpec := { name := "timecodeTicks", fn := fun _ => fun
  | [d1, d2] => { results := [.lit (.bool false)], args := [d1, d2] }
  | _ => none }
def TimecodeTicksWrongFalsely : Prop := timecodeTicksRow.holds Tryd.pinned (OpenSpec.ofChange timecodeTicksWrong)

/- THE SECOND FORM. 'bulk': how many values and letters a reading holds, each counted each time it is reached (what is shared counts as often as it is met; a slice's spare places count too). A statement '..UptoSaid' is the law's where the arguments, and the package variables that the reading takes, are together of bulk at most 1048576: NARROWER than '..Said'. Prove '..Said' where nothing that the law and all that it calls make is longer than what came in: it says more and counts as full. Else prove '..UptoSaid'. A law counts once. -/
mutual
def uptoBulk {H : Type} : DataW H → Nat
  | .lit (.string bytes) => bytes.length + 1
  | .lit _ => 1
  | .nil => 1
  | .ptr d => uptoBulk d + 1
  | .slice elems spare => uptoBulkAll elems + uptoBulkAll spare + 1
  | .agg parts => uptoBulkAll parts + 1
  | .iface _ d => uptoBulk d + 1
  | .map entries => uptoBulkEntries entries + 1
  | .held _ => 1
def uptoBulkAll {H : Type} : List (DataW H) → Nat
  | [] => 0
  | d :: r => uptoBulk d + uptoBulkAll r
def uptoBulkEntries {H : Type} : List (Lit × DataW H) → Nat
  | [] => 0
  | x :: r => uptoBulkEntry x + uptoBulkEntries r
def uptoBulkEntry {H : Type} : Lit × DataW H → Nat
  | (.string bytes, d) => bytes.length + uptoBulk d + 1
  | (_, d) => uptoBulk d + 1
 end
def uptoSmall : (H : Type) → List (DataW H) → Bool := fun _ ds => decide (uptoBulkAll ds ≤ 1048576)
def OpenSpec.upto (s : _root_.Go.ChangeSpec) : _root_.Go.OpenSpec := { _root_.Go.OpenSpec.ofChange s with cond := some uptoSmall }

/-- 'onairlaw03.TimecodeMatchesReference', WHERE WHAT IT READS IS OF BULK AT MOST 1048576: true; the input reads as it did. -/
def timecodeMatchesReferenceUptoRow : OpenClaim := { program := "ytfpmmfoinjcclaadoor", sum := "7ad7741fe8ce6ae477b813987244c596beb3375d6d2f61f98efc1fde58aa9527", func := "onair/onairlaw03.TimecodeMatchesReference", spec := "timecodeMatchesReference", named := ["onair/timecode.formats"], apart := false, laid := [("onair/timecode.formats", laid_onair_timecode_formats)], narrowed := true }
def TimecodeMatchesReferenceUptoSaid : Prop := timecodeMatchesReferenceUptoRow.holds Tryd.pinned (OpenSpec.upto timecodeMatchesReferenceSpec)

/-- 'onairlaw03.TimecodeTextMatchesReference', WHERE WHAT IT READS IS OF BULK AT MOST 1048576: true; the input reads as it did. -/
def timecodeTextMatchesReferenceUptoRow : OpenClaim := { program := "ytfpmmfoinjcclaadoor", sum := "7ad7741fe8ce6ae477b813987244c596beb3375d6d2f61f98efc1fde58aa9527", func := "onair/onairlaw03.TimecodeTextMatchesReference", spec := "timecodeTextMatchesReference", named := ["onair/timecode.formats"], apart := false, laid := [("onair/timecode.formats", laid_onair_timecode_formats)], narrowed := true }
def TimecodeTextMatchesReferenceUptoSaid : Prop := timecodeTextMatchesReferenceUptoRow.holds Tryd.pinned (OpenSpec.upto timecodeTextMatchesReferenceSpec)

/-- 'onairlaw03.TimecodeRoundTrip', WHERE WHAT IT READS IS OF BULK AT MOST 1048576: true; the input reads as it did. -/
def timecodeRoundTripUptoRow : OpenClaim := { program := "ytfpmmfoinjcclaadoor", sum := "7ad7741fe8ce6ae477b813987244c596beb3375d6d2f61f98efc1fde58aa9527", func := "onair/onairlaw03.TimecodeRoundTrip", spec := "timecodeRoundTrip", named := ["onair/timecode.formats"], apart := false, laid := [("onair/timecode.formats", laid_onair_timecode_formats)], narrowed := true }
def TimecodeRoundTripUptoSaid : Prop := timecodeRoundTripUptoRow.holds Tryd.pinned (OpenSpec.upto timecodeRoundTripSpec)

/-- 'onairlaw03.TimecodeAscends', WHERE WHAT IT READS IS OF BULK AT MOST 1048576: true; the input reads as it did. -/
def timecodeAscendsUptoRow : OpenClaim := { program := "ytfpmmfoinjcclaadoor", sum := "7ad7741fe8ce6ae477b813987244c596beb3375d6d2f61f98efc1fde58aa9527", func := "onair/onairlaw03.TimecodeAscends", spec := "timecodeAscends", named := ["onair/timecode.formats"], apart := false, laid := [("onair/timecode.formats", laid_onair_timecode_formats)], narrowed := true }
def TimecodeAscendsUptoSaid : Prop := timecodeAscendsUptoRow.holds Tryd.pinned (OpenSpec.upto timecodeAscendsSpec)

/-- 'onairlaw03.TimecodeDropped', WHERE WHAT IT READS IS OF BULK AT MOST 1048576: true; the input reads as it did. -/
def timecodeDroppedUptoRow : OpenClaim := { program := "ytfpmmfoinjcclaadoor", sum := "7ad7741fe8ce6ae477b813987244c596beb3375d6d2f61f98efc1fde58aa9527", func := "onair/onairlaw03.TimecodeDropped", spec := "timecodeDropped", named := ["onair/timecode.formats"], apart := false, laid := [("onair/timecode.formats", laid_onair_timecode_formats)], narrowed := true }
def TimecodeDroppedUptoSaid : Prop := timecodeDroppedUptoRow.holds Tryd.pinned (OpenSpec.upto timecodeDroppedSpec)

/-- 'onairlaw03.TimecodeSeconds', WHERE WHAT IT READS IS OF BULK AT MOST 1048576: true; the input reads as it did. -/
def timecodeSecondsUptoRow : OpenClaim := { program := "ytfpmmfoinjcclaadoor", sum := "7ad7741fe8ce6ae477b813987244c596beb3375d6d2f61f98efc1fde58aa9527", func := "onair/onairlaw03.TimecodeSeconds", spec := "timecodeSeconds", named := ["onair/timecode.formats"], apart := false, laid := [("onair/timecode.formats", laid_onair_timecode_formats)], narrowed := true }
def TimecodeSecondsUptoSaid : Prop := timecodeSecondsUptoRow.holds Tryd.pinned (OpenSpec.upto timecodeSecondsSpec)

/-- 'onairlaw03.TimecodeClose', WHERE WHAT IT READS IS OF BULK AT MOST 1048576: true; the input reads as it did. -/
def timecodeCloseUptoRow : OpenClaim := { program := "ytfpmmfoinjcclaadoor", sum := "7ad7741fe8ce6ae477b813987244c596beb3375d6d2f61f98efc1fde58aa9527", func := "onair/onairlaw03.TimecodeClose", spec := "timecodeClose", named := ["onair/timecode.formats"], apart := false, laid := [("onair/timecode.formats", laid_onair_timecode_formats)], narrowed := true }
def TimecodeCloseUptoSaid : Prop := timecodeCloseUptoRow.holds Tryd.pinned (OpenSpec.upto timecodeCloseSpec)

/-- 'onairlaw03.TimecodeConverts', WHERE WHAT IT READS IS OF BULK AT MOST 1048576: true; the input reads as it did. -/
def timecodeConvertsUptoRow : OpenClaim := { program := "ytfpmmfoinjcclaadoor", sum := "7ad7741fe8ce6ae477b813987244c596beb3375d6d2f61f98efc1fde58aa9527", func := "onair/onairlaw03.TimecodeConverts", spec := "timecodeConverts", named := ["onair/timecode.formats"], apart := false, laid := [("onair/timecode.formats", laid_onair_timecode_formats)], narrowed := true }
def TimecodeConvertsUptoSaid : Prop := timecodeConvertsUptoRow.holds Tryd.pinned (OpenSpec.upto timecodeConvertsSpec)

/-- 'onairlaw03.TimecodeTicks', WHERE WHAT IT READS IS OF BULK AT MOST 1048576: true; the input reads as it did. -/
def timecodeTicksUptoRow : OpenClaim := { program := "ytfpmmfoinjcclaadoor", sum := "7ad7741fe8ce6ae477b813987244c596beb3375d6d2f61f98efc1fde58aa9527", func := "onair/onairlaw03.TimecodeTicks", spec := "timecodeTicks", named := ["onair/timecode.formats"], apart := false, laid := [("onair/timecode.formats", laid_onair_timecode_formats)], narrowed := true }
def TimecodeTicksUptoSaid : Prop := timecodeTicksUptoRow.holds Tryd.pinned (OpenSpec.upto timecodeTicksSpec)

end Rows
end Go.Proofs.YtfpmmfoinjcclaaDoor
