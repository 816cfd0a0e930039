/-
  No cell of these rows narrows 'for every input' (looked for: loops, veiled, ifaces, maps, wideKeys, modest, calm, conditions, laid).
  DERIVED. THE GIVEN ROWS OF THIS SEAT. 6 by the template 'for every input the law returns true; each argument reads behind the call as it read before'; 0 by the template 'total and deterministic' (their statements: YtejohdmbnnlhjaaTotals.lean).
  GIVEN WITH THE SEED: the statements are not yours to turn. If you find one false, say at which input.
  Laid BY PROGRAM, IN A SANDBOX (cutbox-rows.mjs): the forced cells as the released guide's own fill.sh prints them over the translation 98cfb25be8a89cad… (all of the seat's roots in one cut). By AI agents, Wed Nov 11 2026. No macro, syntax, notation, axiom, sorry.
-/
import Derived.Test.YtejohdmbnnlhjaaChecked
import GoSem.Claim
import GoSem.ClaimJoined
import GoSem.ClaimMapViews
import Derived.JoinedTies
import Derived.KernelRfl
namespace Go.Proofs.Ytejohdmbnnlhjaa
/- THE CELL 'sum', in the pinned program and in every row, IS THE sha256 OF THE DUMP (.gsa) THAT YtejohdmbnnlhjaaProg.lean LOADS. Nothing in Lean hashes anything: it is a label: what it is worth is what the hold of that sum in a sandbox is worth. -/
noncomputable def Try.pinned : Pinned := { name := "ytejohdmbnnlhjaa", sum := "98cfb25be8a89cad940e0d4c9417e1e68b80eb315b3dc023257f4b4535a91402", checked := Try.checked }
namespace Rows
def none {H : Type} : Left H := { results := [], args := [] }

/-- 'onairlaw04.CalendarMatchesReference': WHATEVER THE INPUT: true; the input reads as it did. -/
def calendarMatchesReferenceSpec : ChangeSpec := { name := "calendarMatchesReference", fn := fun _ => fun
  | [d1, d2, d3, d4] => { results := [.lit (.bool true)], args := [d1, d2, d3, d4] }
  | _ => none }
def calendarMatchesReferenceRow : OpenClaim := { program := "ytejohdmbnnlhjaa", sum := "98cfb25be8a89cad940e0d4c9417e1e68b80eb315b3dc023257f4b4535a91402", func := "onair/onairlaw04.CalendarMatchesReference", spec := "calendarMatchesReference", unfollowed := true, recurses := true, apart := false }
def CalendarMatchesReferenceSaid : Prop := calendarMatchesReferenceRow.holds Try.pinned (OpenSpec.ofChange calendarMatchesReferenceSpec)

/-- ITS FALSE NEIGHBOUR: 'it returns false'. Refute it at one input. -/
def calendarMatchesReferenceWrong : ChangeSpec := { name := "calendarMatchesReference", fn := fun _ => fun
  | [d1, d2, d3, d4] => { results := [.lit (.bool false)], args := [d1, d2, d3, d4] }
  | _ => none }
def CalendarMatchesReferenceWrongFalsely : Prop := calendarMatchesReferenceRow.holds Try.pinned (OpenSpec.ofChange calendarMatchesReferenceWrong)

/-- 'onairlaw04.CalendarInverse': WHATEVER THE INPUT: true; the input reads as it did. -/
def calendarInverseSpec : ChangeSpec := { name := "calendarInverse", fn := fun _ => fun
  | [d1, d2, d3, d4, d5] => { results := [.lit (.bool true)], args := [d1, d2, d3, d4, d5] }
  | _ => none }
def calendarInverseRow : OpenClaim := { program := "ytejohdmbnnlhjaa", sum := "98cfb25be8a89cad940e0d4c9417e1e68b80eb315b3dc023257f4b4535a91402", func := "onair/onairlaw04.CalendarInverse", spec := "calendarInverse", unfollowed := true, recurses := true, apart := false }
def CalendarInverseSaid : Prop := calendarInverseRow.holds Try.pinned (OpenSpec.ofChange calendarInverseSpec)

/-- ITS FALSE NEIGHBOUR: 'it returns false'. Refute it at one input. -/
def calendarInverseWrong : ChangeSpec := { name := "calendarInverse", fn := fun _ => fun
  | [d1, d2, d3, d4, d5] => { results := [.lit (.bool false)], args := [d1, d2, d3, d4, d5] }
  | _ => none }
def CalendarInverseWrongFalsely : Prop := calendarInverseRow.holds Try.pinned (OpenSpec.ofChange calendarInverseWrong)

/-- 'onairlaw04.CalendarDays': WHATEVER THE INPUT: true; the input reads as it did. -/
def calendarDaysSpec : ChangeSpec := { name := "calendarDays", fn := fun _ => fun
  | [d1, d2, d3, d4] => { results := [.lit (.bool true)], args := [d1, d2, d3, d4] }
  | _ => none }
def calendarDaysRow : OpenClaim := { program := "ytejohdmbnnlhjaa", sum := "98cfb25be8a89cad940e0d4c9417e1e68b80eb315b3dc023257f4b4535a91402", func := "onair/onairlaw04.CalendarDays", spec := "calendarDays", unfollowed := true, recurses := true, apart := false }
def CalendarDaysSaid : Prop := calendarDaysRow.holds Try.pinned (OpenSpec.ofChange calendarDaysSpec)

/-- ITS FALSE NEIGHBOUR: 'it returns false'. Refute it at one input. -/
def calendarDaysWrong : ChangeSpec := { name := "calendarDays", fn := fun _ => fun
  | [d1, d2, d3, d4] => { results := [.lit (.bool false)], args := [d1, d2, d3, d4] }
  | _ => none }
def CalendarDaysWrongFalsely : Prop := calendarDaysRow.holds Try.pinned (OpenSpec.ofChange calendarDaysWrong)

/-- 'onairlaw04.CalendarSteady': WHATEVER THE INPUT: true; the input reads as it did. -/
def calendarSteadySpec : ChangeSpec := { name := "calendarSteady", fn := fun _ => fun
  | [d1, d2, d3, d4] => { results := [.lit (.bool true)], args := [d1, d2, d3, d4] }
  | _ => none }
def calendarSteadyRow : OpenClaim := { program := "ytejohdmbnnlhjaa", sum := "98cfb25be8a89cad940e0d4c9417e1e68b80eb315b3dc023257f4b4535a91402", func := "onair/onairlaw04.CalendarSteady", spec := "calendarSteady", unfollowed := true, recurses := true, apart := false }
def CalendarSteadySaid : Prop := calendarSteadyRow.holds Try.pinned (OpenSpec.ofChange calendarSteadySpec)

/-- ITS FALSE NEIGHBOUR: 'it returns false'. Refute it at one input. -/
def calendarSteadyWrong : ChangeSpec := { name := "calendarSteady", fn := fun _ => fun
  | [d1, d2, d3, d4] => { results := [.lit (.bool false)], args := [d1, d2, d3, d4] }
  | _ => none }
def CalendarSteadyWrongFalsely : Prop := calendarSteadyRow.holds Try.pinned (OpenSpec.ofChange calendarSteadyWrong)

/-- 'onairlaw04.CalendarPlain': WHATEVER THE INPUT: true; the input reads as it did. -/
def calendarPlainSpec : ChangeSpec := { name := "calendarPlain", fn := fun _ => fun
  | [d1, d2] => { results := [.lit (.bool true)], args := [d1, d2] }
  | _ => none }
def calendarPlainRow : OpenClaim := { program := "ytejohdmbnnlhjaa", sum := "98cfb25be8a89cad940e0d4c9417e1e68b80eb315b3dc023257f4b4535a91402", func := "onair/onairlaw04.CalendarPlain", spec := "calendarPlain", unfollowed := true, recurses := true, apart := false }
def CalendarPlainSaid : Prop := calendarPlainRow.holds Try.pinned (OpenSpec.ofChange calendarPlainSpec)

/-- ITS FALSE NEIGHBOUR: 'it returns false'. Refute it at one input. -/
def calendarPlainWrong : ChangeSpec := { name := "calendarPlain", fn := fun _ => fun
  | [d1, d2] => { results := [.lit (.bool false)], args := [d1, d2] }
  | _ => none }
def CalendarPlainWrongFalsely : Prop := calendarPlainRow.holds Try.pinned (OpenSpec.ofChange calendarPlainWrong)

/-- 'onairlaw04.CalendarWindows': WHATEVER THE INPUT: true; the input reads as it did. -/
def calendarWindowsSpec : ChangeSpec := { name := "calendarWindows", fn := fun _ => fun
  | [d1, d2, d3, d4, d5, d6] => { results := [.lit (.bool true)], args := [d1, d2, d3, d4, d5, d6] }
  | _ => none }
def calendarWindowsRow : OpenClaim := { program := "ytejohdmbnnlhjaa", sum := "98cfb25be8a89cad940e0d4c9417e1e68b80eb315b3dc023257f4b4535a91402", func := "onair/onairlaw04.CalendarWindows", spec := "calendarWindows", unfollowed := true, recurses := true, apart := false }
def CalendarWindowsSaid : Prop := calendarWindowsRow.holds Try.pinned (OpenSpec.ofChange calendarWindowsSpec)

/-- ITS FALSE NEIGHBOUR: 'it returns false'. Refute it at one input. -/
def calendarWindowsWrong : ChangeSpec := { name := "calendarWindows", fn := fun _ => fun
  | [d1, d2, d3, d4, d5, d6] => { results := [.lit (.bool false)], args := [d1, d2, d3, d4, d5, d6] }
  | _ => none }
def CalendarWindowsWrongFalsely : Prop := calendarWindowsRow.holds Try.pinned (OpenSpec.ofChange calendarWindowsWrong)

/- THE SECOND FORM. 'bulk': how many values and letters a reading holds, each counted each time it is reached (what is shared counts as often as it is met; a slice's spare places count too). A statement '..UptoSaid' is the law's where the arguments, and the package variables that the reading takes, are together of bulk at most 1048576: NARROWER than '..Said'. Prove '..Said' where nothing that the law and all that it calls make is longer than what came in: it says more and counts as full. Else prove '..UptoSaid'. A law counts once. -/
mutual
def uptoBulk {H : Type} : DataW H → Nat
  | .lit (.string bytes) => bytes.length + 1
  | .lit _ => 1
  | .nil => 1
  | .ptr d => uptoBulk d + 1
  | .slice elems spare => uptoBulkAll elems + uptoBulkAll spare + 1
  | .agg parts => uptoBulkAll parts + 1
  | .iface _ d => uptoBulk d + 1
  | .map entries => uptoBulkEntries entries + 1
  | .held _ => 1
def uptoBulkAll {H : Type} : List (DataW H) → Nat
  | [] => 0
  | d :: r => uptoBulk d + uptoBulkAll r
def uptoBulkEntries {H : Type} : List (Lit × DataW H) → Nat
  | [] => 0
  | x :: r => uptoBulkEntry x + uptoBulkEntries r
def uptoBulkEntry {H : Type} : Lit × DataW H → Nat
  | (.string bytes, d) => bytes.length + uptoBulk d + 1
  | (_, d) => uptoBulk d + 1
 end
def uptoSmall : (H : Type) → List (DataW H) → Bool := fun _ ds => decide (uptoBulkAll ds ≤ 1048576)
def OpenSpec.upto (s : _root_.Go.ChangeSpec) : _root_.Go.OpenSpec := { _root_.Go.OpenSpec.ofChange s with cond := some uptoSmall }

/-- 'onairlaw04.CalendarMatchesReference', WHERE WHAT IT READS IS OF BULK AT MOST 1048576: true; the input reads as it did. -/
def calendarMatchesReferenceUptoRow : OpenClaim := { program := "ytejohdmbnnlhjaa", sum := "98cfb25be8a89cad940e0d4c9417e1e68b80eb315b3dc023257f4b4535a91402", func := "onair/onairlaw04.CalendarMatchesReference", spec := "calendarMatchesReference", unfollowed := true, recurses := true, apart := false, narrowed := true }
def CalendarMatchesReferenceUptoSaid : Prop := calendarMatchesReferenceUptoRow.holds Try.pinned (OpenSpec.upto calendarMatchesReferenceSpec)

/-- 'onairlaw04.CalendarInverse', WHERE WHAT IT READS IS OF BULK AT MOST 1048576: true; the input reads as it did. -/
def calendarInverseUptoRow : OpenClaim := { program := "ytejohdmbnnlhjaa", sum := "98cfb25be8a89cad940e0d4c9417e1e68b80eb315b3dc023257f4b4535a91402", func := "onair/onairlaw04.CalendarInverse", spec := "calendarInverse", unfollowed := true, recurses := true, apart := false, narrowed := true }
def CalendarInverseUptoSaid : Prop := calendarInverseUptoRow.holds Try.pinned (OpenSpec.upto calendarInverseSpec)

/-- 'onairlaw04.CalendarDays', WHERE WHAT IT READS IS OF BULK AT MOST 1048576: true; the input reads as it did. -/
def calendarDaysUptoRow : OpenClaim := { program := "ytejohdmbnnlhjaa", sum := "98cfb25be8a89cad940e0d4c9417e1e68b80eb315b3dc023257f4b4535a91402", func := "onair/onairlaw04.CalendarDays", spec := "calendarDays", unfollowed := true, recurses := true, apart := false, narrowed := true }
def CalendarDaysUptoSaid : Prop := calendarDaysUptoRow.holds Try.pinned (OpenSpec.upto calendarDaysSpec)

/-- 'onairlaw04.CalendarSteady', WHERE WHAT IT READS IS OF BULK AT MOST 1048576: true; the input reads as it did. -/
def calendarSteadyUptoRow : OpenClaim := { program := "ytejohdmbnnlhjaa", sum := "98cfb25be8a89cad940e0d4c9417e1e68b80eb315b3dc023257f4b4535a91402", func := "onair/onairlaw04.CalendarSteady", spec := "calendarSteady", unfollowed := true, recurses := true, apart := false, narrowed := true }
def CalendarSteadyUptoSaid : Prop := calendarSteadyUptoRow.holds Try.pinned (OpenSpec.upto calendarSteadySpec)

/-- 'onairlaw04.CalendarPlain', WHERE WHAT IT READS IS OF BULK AT MOST 1048576: true; the input reads as it did. -/
def calendarPlainUptoRow : OpenClaim := { program := "ytejohdmbnnlhjaa", sum := "98cfb25be8a89cad940e0d4c9417e1e68b80eb315b3dc023257f4b4535a91402", func := "onair/onairlaw04.CalendarPlain", spec := "calendarPlain", unfollowed := true, recurses := true, apart := false, narrowed := true }
def CalendarPlainUptoSaid : Prop := calendarPlainUptoRow.holds Try.pinned (OpenSpec.upto calendarPlainSpec)

/-- 'onairlaw04.CalendarWindows', WHERE WHAT IT READS IS OF BULK AT MOST 1048576: true; the input reads as it did. -/
def calendarWindowsUptoRow : OpenClaim := { program := "ytejohdmbnnlhjaa", sum := "98cfb25be8a89cad940e0d4c9417e1e68b80eb315b3dc023257f4b4535a91402", func := "onair/onairlaw04.CalendarWindows", spec := "calendarWindows", unfollowed := true, recurses := true, apart := false, narrowed := true }
def CalendarWindowsUptoSaid : Prop := calendarWindowsUptoRow.holds Try.pinned (OpenSpec.upto calendarWindowsSpec)

end Rows
end Go.Proofs.Ytejohdmbnnlhjaa
