/-
  NARROWER THAN 'FOR EVERY INPUT', by the rows' own cells (each row's printed sentence says how): PermitMatchesReference: laid · PermitCatchup: laid · PermitAppends: laid · PermitRating: laid · PermitFrames: laid · PermitRights: laid · PermitFill: laid.
  DERIVED. THE GIVEN ROWS OF THIS SEAT. 7 by the template 'for every input the law returns true; each argument reads behind the call as it read before'; 0 by the template 'total and deterministic' (their statements: YtfannkpnmaeljaaGreatDoorTotals.lean).
  GIVEN WITH THE SEED: the statements are not yours to turn. If you find one false, say at which input.
  Laid BY PROGRAM, IN A SANDBOX (cutbox-rows.mjs): the forced cells as the released guide's own fill.sh prints them over the translation 1c3161af88aee669… (all of the seat's roots in one cut). By AI agents, Wed Nov 11 2026. No macro, syntax, notation, axiom, sorry.
-/
import Derived.Test.YtfannkpnmaeljaaGreatDoorChecked
import GoSem.Claim
import GoSem.ClaimJoined
import GoSem.ClaimMapViews
import Derived.JoinedTies
import Derived.KernelRfl
namespace Go.Proofs.YtfannkpnmaeljaaGreatDoor
/- THE CELL 'sum', in the pinned program and in every row, IS THE sha256 OF THE DUMP (.gsa) THAT YtfannkpnmaeljaaGreatDoorProg.lean LOADS. Nothing in Lean hashes anything: it is a label: what it is worth is what the hold of that sum in a sandbox is worth. -/
noncomputable def Tryz.pinned : Pinned := { name := "ytfannkpnmaeljaagreatdoor", sum := "1c3161af88aee669e445a4ea9ba68a3ed58b09ba19b93530a6bcf2c7b9f5186c", checked := Tryz.checked }
namespace Rows
def none {H : Type} : Left H := { results := [], args := [] }

/- WHAT THE LISTED PACKAGE-LEVEL VARIABLES READ AS WHEN THE CALL BEGINS. Each datum BY PROGRAM (the guide's laid-datum.mjs) off the statement by which the dump's own 'gosem.cut.vars' lays the variable. In a bare row this is a premise. The card (YtfannkpnmaeljaaGreatDoorCards.lean) ties it to the program's text. -/
def laid_onair_timecode_formats {H : Type} : DataW H := .agg [.agg [.agg [.lit (.int .i64 24000), .lit (.int .i64 1001)], .lit (.int .i64 24), .lit (.int .i64 0)], .agg [.agg [.lit (.int .i64 24), .lit (.int .i64 1)], .lit (.int .i64 24), .lit (.int .i64 0)], .agg [.agg [.lit (.int .i64 25), .lit (.int .i64 1)], .lit (.int .i64 25), .lit (.int .i64 0)], .agg [.agg [.lit (.int .i64 30000), .lit (.int .i64 1001)], .lit (.int .i64 30), .lit (.int .i64 2)], .agg [.agg [.lit (.int .i64 30), .lit (.int .i64 1)], .lit (.int .i64 30), .lit (.int .i64 0)], .agg [.agg [.lit (.int .i64 50), .lit (.int .i64 1)], .lit (.int .i64 50), .lit (.int .i64 0)], .agg [.agg [.lit (.int .i64 60000), .lit (.int .i64 1001)], .lit (.int .i64 60), .lit (.int .i64 4)], .agg [.agg [.lit (.int .i64 60), .lit (.int .i64 1)], .lit (.int .i64 60), .lit (.int .i64 0)]]

/-- 'onairlaw07.PermitMatchesReference': WHATEVER THE INPUT: true; the input reads as it did. -/
def permitMatchesReferenceSpec : ChangeSpec := { name := "permitMatchesReference", fn := fun _ => fun
  | [d1, d2, d3, d4] => { results := [.lit (.bool true)], args := [d1, d2, d3, d4] }
  | _ => none }
def permitMatchesReferenceRow : OpenClaim := { program := "ytfannkpnmaeljaagreatdoor", sum := "1c3161af88aee669e445a4ea9ba68a3ed58b09ba19b93530a6bcf2c7b9f5186c", func := "onair/onairlaw07.PermitMatchesReference", spec := "permitMatchesReference", inPlace := ["slices.overlaps[onair/api.Span]"], unfollowed := true, recurses := true, named := ["onair/timecode.formats"], apart := false, laid := [("onair/timecode.formats", laid_onair_timecode_formats)] }
def PermitMatchesReferenceSaid : Prop := permitMatchesReferenceRow.holds Tryz.pinned (OpenSpec.ofChange permitMatchesReferenceSpec)

/-- ITS FALSE NEIGHBOUR: 'it returns false'. Refute it at one input. -/
def permitMatchesReferenceWrong : ChangeSpec := { name := "permitMatchesReference", fn := fun _ => fun
  | [d1, d2, d3, d4] => { results := [.lit (.bool false)], args := [d1, d2, d3, d4] }
  | _ => none }
def PermitMatchesReferenceWrongFalsely : Prop := permitMatchesReferenceRow.holds Tryz.pinned (OpenSpec.ofChange permitMatchesReferenceWrong)

/-- 'onairlaw07.PermitCatchup': WHATEVER THE INPUT: true; the input reads as it did. -/
def permitCatchupSpec : ChangeSpec := { name := "permitCatchup", fn := fun _ => fun
  | [d1, d2] => { results := [.lit (.bool true)], args := [d1, d2] }
  | _ => none }
def permitCatchupRow : OpenClaim := { program := "ytfannkpnmaeljaagreatdoor", sum := "1c3161af88aee669e445a4ea9ba68a3ed58b09ba19b93530a6bcf2c7b9f5186c", func := "onair/onairlaw07.PermitCatchup", spec := "permitCatchup", inPlace := ["slices.overlaps[onair/api.Span]"], unfollowed := true, recurses := true, named := ["onair/timecode.formats"], apart := false, laid := [("onair/timecode.formats", laid_onair_timecode_formats)] }
def PermitCatchupSaid : Prop := permitCatchupRow.holds Tryz.pinned (OpenSpec.ofChange permitCatchupSpec)

/-- ITS FALSE NEIGHBOUR: 'it returns false'. Refute it at one input. -/
def permitCatchupWrong : ChangeSpec := { name := "permitCatchup", fn := fun _ => fun
  | [d1, d2] => { results := [.lit (.bool false)], args := [d1, d2] }
  | _ => none }
def PermitCatchupWrongFalsely : Prop := permitCatchupRow.holds Tryz.pinned (OpenSpec.ofChange permitCatchupWrong)

/-- 'onairlaw07.PermitAppends': WHATEVER THE INPUT: true; the input reads as it did. -/
def permitAppendsSpec : ChangeSpec := { name := "permitAppends", fn := fun _ => fun
  | [d1, d2, d3, d4, d5, d6, d7] => { results := [.lit (.bool true)], args := [d1, d2, d3, d4, d5, d6, d7] }
  | _ => none }
def permitAppendsRow : OpenClaim := { program := "ytfannkpnmaeljaagreatdoor", sum := "1c3161af88aee669e445a4ea9ba68a3ed58b09ba19b93530a6bcf2c7b9f5186c", func := "onair/onairlaw07.PermitAppends", spec := "permitAppends", inPlace := ["slices.overlaps[onair/api.Span]"], unfollowed := true, recurses := true, named := ["onair/timecode.formats"], apart := false, laid := [("onair/timecode.formats", laid_onair_timecode_formats)] }
def PermitAppendsSaid : Prop := permitAppendsRow.holds Tryz.pinned (OpenSpec.ofChange permitAppendsSpec)

/-- ITS FALSE NEIGHBOUR: 'it returns false'. Refute it at one input. -/
def permitAppendsWrong : ChangeSpec := { name := "permitAppends", fn := fun _ => fun
  | [d1, d2, d3, d4, d5, d6, d7] => { results := [.lit (.bool false)], args := [d1, d2, d3, d4, d5, d6, d7] }
  | _ => none }
def PermitAppendsWrongFalsely : Prop := permitAppendsRow.holds Tryz.pinned (OpenSpec.ofChange permitAppendsWrong)

/-- 'onairlaw07.PermitRating': WHATEVER THE INPUT: true; the input reads as it did. -/
def permitRatingSpec : ChangeSpec := { name := "permitRating", fn := fun _ => fun
  | [d1, d2, d3, d4, d5, d6] => { results := [.lit (.bool true)], args := [d1, d2, d3, d4, d5, d6] }
  | _ => none }
def permitRatingRow : OpenClaim := { program := "ytfannkpnmaeljaagreatdoor", sum := "1c3161af88aee669e445a4ea9ba68a3ed58b09ba19b93530a6bcf2c7b9f5186c", func := "onair/onairlaw07.PermitRating", spec := "permitRating", inPlace := ["slices.overlaps[onair/api.Span]"], unfollowed := true, recurses := true, named := ["onair/timecode.formats"], apart := false, laid := [("onair/timecode.formats", laid_onair_timecode_formats)] }
def PermitRatingSaid : Prop := permitRatingRow.holds Tryz.pinned (OpenSpec.ofChange permitRatingSpec)

/-- ITS FALSE NEIGHBOUR: 'it returns false'. Refute it at one input. -/
def permitRatingWrong : ChangeSpec := { name := "permitRating", fn := fun _ => fun
  | [d1, d2, d3, d4, d5, d6] => { results := [.lit (.bool false)], args := [d1, d2, d3, d4, d5, d6] }
  | _ => none }
def PermitRatingWrongFalsely : Prop := permitRatingRow.holds Tryz.pinned (OpenSpec.ofChange permitRatingWrong)

/-- 'onairlaw07.PermitFrames': WHATEVER THE INPUT: true; the input reads as it did. -/
def permitFramesSpec : ChangeSpec := { name := "permitFrames", fn := fun _ => fun
  | [d1, d2, d3, d4, d5, d6, d7] => { results := [.lit (.bool true)], args := [d1, d2, d3, d4, d5, d6, d7] }
  | _ => none }
def permitFramesRow : OpenClaim := { program := "ytfannkpnmaeljaagreatdoor", sum := "1c3161af88aee669e445a4ea9ba68a3ed58b09ba19b93530a6bcf2c7b9f5186c", func := "onair/onairlaw07.PermitFrames", spec := "permitFrames", inPlace := ["slices.overlaps[onair/api.Span]"], unfollowed := true, recurses := true, named := ["onair/timecode.formats"], apart := false, laid := [("onair/timecode.formats", laid_onair_timecode_formats)] }
def PermitFramesSaid : Prop := permitFramesRow.holds Tryz.pinned (OpenSpec.ofChange permitFramesSpec)

/-- ITS FALSE NEIGHBOUR: 'it returns false'. Refute it at one input. -/
def permitFramesWrong : ChangeSpec := { name := "permitFrames", fn := fun _ => fun
  | [d1, d2, d3, d4, d5, d6, d7] => { results := [.lit (.bool false)], args := [d1, d2, d3, d4, d5, d6, d7] }
  | _ => none }
def PermitFramesWrongFalsely : Prop := permitFramesRow.holds Tryz.pinned (OpenSpec.ofChange permitFramesWrong)

/-- 'onairlaw07.PermitRights': WHATEVER THE INPUT: true; the input reads as it did. -/
def permitRightsSpec : ChangeSpec := { name := "permitRights", fn := fun _ => fun
  | [d1, d2, d3, d4, d5, d6] => { results := [.lit (.bool true)], args := [d1, d2, d3, d4, d5, d6] }
  | _ => none }
def permitRightsRow : OpenClaim := { program := "ytfannkpnmaeljaagreatdoor", sum := "1c3161af88aee669e445a4ea9ba68a3ed58b09ba19b93530a6bcf2c7b9f5186c", func := "onair/onairlaw07.PermitRights", spec := "permitRights", inPlace := ["slices.overlaps[onair/api.Span]"], unfollowed := true, recurses := true, named := ["onair/timecode.formats"], apart := false, laid := [("onair/timecode.formats", laid_onair_timecode_formats)] }
def PermitRightsSaid : Prop := permitRightsRow.holds Tryz.pinned (OpenSpec.ofChange permitRightsSpec)

/-- ITS FALSE NEIGHBOUR: 'it returns false'. Refute it at one input. -/
def permitRightsWrong : ChangeSpec := { name := "permitRights", fn := fun _ => fun
  | [d1, d2, d3, d4, d5, d6] => { results := [.lit (.bool false)], args := [d1, d2, d3, d4, d5, d6] }
  | _ => none }
def PermitRightsWrongFalsely : Prop := permitRightsRow.holds Tryz.pinned (OpenSpec.ofChange permitRightsWrong)

/-- 'onairlaw07.PermitFill': WHATEVER THE INPUT: true; the input reads as it did. -/
def permitFillSpec : ChangeSpec := { name := "permitFill", fn := fun _ => fun
  | [d1, d2, d3, d4, d5] => { results := [.lit (.bool true)], args := [d1, d2, d3, d4, d5] }
  | _ => none }
def permitFillRow : OpenClaim := { program := "ytfannkpnmaeljaagreatdoor", sum := "1c3161af88aee669e445a4ea9ba68a3ed58b09ba19b93530a6bcf2c7b9f5186c", func := "onair/onairlaw07.PermitFill", spec := "permitFill", inPlace := ["slices.overlaps[onair/api.Span]"], unfollowed := true, recurses := true, named := ["onair/timecode.formats"], apart := false, laid := [("onair/timecode.formats", laid_onair_timecode_formats)] }
def PermitFillSaid : Prop := permitFillRow.holds Tryz.pinned (OpenSpec.ofChange permitFillSpec)

/-- ITS FALSE NEIGHBOUR: 'it returns false'. Refute it at one input. -/
def permitFillWrong : ChangeSpec := { name := "permitFill", fn := fun _ => fun
  | [d1, d2, d3, d4, d5] => { results := [.lit (.bool false)], args := [d1, d2, d3, d4, d5] }
  | _ => none }
def PermitFillWrongFalsely : Prop := permitFillRow.holds Tryz.pinned (OpenSpec.ofChange permitFillWrong)

/- THE SECOND FORM. 'bulk': how many values and letters a reading holds, each counted each time it is reached (what is shared counts as often as it is met; a slice's spare places count too). A statement '..UptoSaid' is the law's where the arguments, and the package variables that the reading takes, are together of bulk at most 1048576: NARROWER than '..Said'. Prove '..Said' where nothing that the law and all that it calls make is longer than what came in: it says more and counts as full. Else prove '..UptoSaid'. A law counts once. -/
mutual
def uptoBulk {H : Type} : DataW H → Nat
  | .lit (.string bytes) => bytes.length + 1
  | .lit _ => 1
  | .nil => 1
  | .ptr d => uptoBulk d + 1
  | .slice elems spare => uptoBulkAll elems + uptoBulkAll spare + 1
  | .agg parts => uptoBulkAll parts + 1
  | .iface _ d => uptoBulk d + 1
  | .map entries => uptoBulkEntries entries + 1
  | .held _ => 1
def uptoBulkAll {H : Type} : List (DataW H) → Nat
  | [] => 0
  | d :: r => uptoBulk d + uptoBulkAll r
def uptoBulkEntries {H : Type} : List (Lit × DataW H) → Nat
  | [] => 0
  | x :: r => uptoBulkEntry x + uptoBulkEntries r
def uptoBulkEntry {H : Type} : Lit × DataW H → Nat
  | (.string bytes, d) => bytes.length + uptoBulk d + 1
  | (_, d) => uptoBulk d + 1
 end
def uptoSmall : (H : Type) → List (DataW H) → Bool := fun _ ds => decide (uptoBulkAll ds ≤ 1048576)
def OpenSpec.upto (s : _root_.Go.ChangeSpec) : _root_.Go.OpenSpec := { _root_.Go.OpenSpec.ofChange s with cond := some uptoSmall }

/-- 'onairlaw07.PermitMatchesReference', WHERE WHAT IT READS IS OF BULK AT MOST 1048576: true; the input reads as it did. -/
def permitMatchesReferenceUptoRow : OpenClaim := { program := "ytfannkpnmaeljaagreatdoor", sum := "1c3161af88aee669e445a4ea9ba68a3ed58b09ba19b93530a6bcf2c7b9f5186c", func := "onair/onairlaw07.PermitMatchesReference", spec := "permitMatchesReference", inPlace := ["slices.overlaps[onair/api.Span]"], unfollowed := true, recurses := true, named := ["onair/timecode.formats"], apart := false, laid := [("onair/timecode.formats", laid_onair_timecode_formats)], narrowed := true }
def PermitMatchesReferenceUptoSaid : Prop := permitMatchesReferenceUptoRow.holds Tryz.pinned (OpenSpec.upto permitMatchesReferenceSpec)

/-- 'onairlaw07.PermitCatchup', WHERE WHAT IT READS IS OF BULK AT MOST 1048576: true; the input reads as it did. -/
def permitCatchupUptoRow : OpenClaim := { program := "ytfannkpnmaeljaagreatdoor", sum := "1c3161af88aee669e445a4ea9ba68a3ed58b09ba19b93530a6bcf2c7b9f5186c", func := "onair/onairlaw07.PermitCatchup", spec := "permitCatchup", inPlace := ["slices.overlaps[onair/api.Span]"], unfollowed := true, recurses := true, named := ["onair/timecode.formats"], apart := false, laid := [("onair/timecode.formats", laid_onair_timecode_formats)], narrowed := true }
def PermitCatchupUptoSaid : Prop := permitCatchupUptoRow.holds Tryz.pinned (OpenSpec.upto permitCatchupSpec)

/-- 'onairlaw07.PermitAppends', WHERE WHAT IT READS IS OF BULK AT MOST 1048576: true; the input reads as it did. -/
def permitAppendsUptoRow : OpenClaim := { program := "ytfannkpnmaeljaagreatdoor", sum := "1c3161af88aee669e445a4ea9ba68a3ed58b09ba19b93530a6bcf2c7b9f5186c", func := "onair/onairlaw07.PermitAppends", spec := "permitAppends", inPlace := ["slices.overlaps[onair/api.Span]"], unfollowed := true, recurses := true, named := ["onair/timecode.formats"], apart := false, laid := [("onair/timecode.formats", laid_onair_timecode_formats)], narrowed := true }
def PermitAppendsUptoSaid : Prop := permitAppendsUptoRow.holds Tryz.pinned (OpenSpec.upto permitAppendsSpec)

/-- 'onairlaw07.PermitRating', WHERE WHAT IT READS IS OF BULK AT MOST 1048576: true; the input reads as it did. -/
def permitRatingUptoRow : OpenClaim := { program := "ytfannkpnmaeljaagreatdoor", sum := "1c3161af88aee669e445a4ea9ba68a3ed58b09ba19b93530a6bcf2c7b9f5186c", func := "onair/onairlaw07.PermitRating", spec := "permitRating", inPlace := ["slices.overlaps[onair/api.Span]"], unfollowed := true, recurses := true, named := ["onair/timecode.formats"], apart := false, laid := [("onair/timecode.formats", laid_onair_timecode_formats)], narrowed := true }
def PermitRatingUptoSaid : Prop := permitRatingUptoRow.holds Tryz.pinned (OpenSpec.upto permitRatingSpec)

/-- 'onairlaw07.PermitFrames', WHERE WHAT IT READS IS OF BULK AT MOST 1048576: true; the input reads as it did. -/
def permitFramesUptoRow : OpenClaim := { program := "ytfannkpnmaeljaagreatdoor", sum := "1c3161af88aee669e445a4ea9ba68a3ed58b09ba19b93530a6bcf2c7b9f5186c", func := "onair/onairlaw07.PermitFrames", spec := "permitFrames", inPlace := ["slices.overlaps[onair/api.Span]"], unfollowed := true, recurses := true, named := ["onair/timecode.formats"], apart := false, laid := [("onair/timecode.formats", laid_onair_timecode_formats)], narrowed := true }
def PermitFramesUptoSaid : Prop := permitFramesUptoRow.holds Tryz.pinned (OpenSpec.upto permitFramesSpec)

/-- 'onairlaw07.PermitRights', WHERE WHAT IT READS IS OF BULK AT MOST 1048576: true; the input reads as it did. -/
def permitRightsUptoRow : OpenClaim := { program := "ytfannkpnmaeljaagreatdoor", sum := "1c3161af88aee669e445a4ea9ba68a3ed58b09ba19b93530a6bcf2c7b9f5186c", func := "onair/onairlaw07.PermitRights", spec := "permitRights", inPlace := ["slices.overlaps[onair/api.Span]"], unfollowed := true, recurses := true, named := ["onair/timecode.formats"], apart := false, laid := [("onair/timecode.formats", laid_onair_timecode_formats)], narrowed := true }
def PermitRightsUptoSaid : Prop := permitRightsUptoRow.holds Tryz.pinned (OpenSpec.upto permitRightsSpec)

/-- 'onairlaw07.PermitFill', WHERE WHAT IT READS IS OF BULK AT MOST 1048576: true; the input reads as it did. -/
def permitFillUptoRow : OpenClaim := { program := "ytfannkpnmaeljaagreatdoor", sum := "1c3161af88aee669e445a4ea9ba68a3ed58b09ba19b93530a6bcf2c7b9f5186c", func := "onair/onairlaw07.PermitFill", spec := "permitFill", inPlace := ["slices.overlaps[onair/api.Span]"], unfollowed := true, recurses := true, named := ["onair/timecode.formats"], apart := false, laid := [("onair/timecode.formats", laid_onair_timecode_formats)], narrowed := true }
def PermitFillUptoSaid : Prop := permitFillUptoRow.holds Tryz.pinned (OpenSpec.upto permitFillSpec)

end Rows
end Go.Proofs.YtfannkpnmaeljaaGreatDoor
