/-
  DERIVED. GIVEN WITH THE SEED: THE CARDS: each row of YtfannkpnmaeljaaGreatDoorRows.lean that lists a variable, with what it lists TIED to the program's text (the seventh form; the later family's looks); each row that meets fmt, with fmt's text TOLD by the authors' own Lean function (tested against real Go, not proved from fmt's source: count such statements apart). THE CARD IS WHAT COUNTS. Prove the row's statement (the work); the ties are given (YtfannkpnmaeljaaGreatDoorTie.lean); close each card by the builder's one call (the guide's Derived/Test/ToyasCard.lean, 'card_holds'). Laid BY PROGRAM, IN A SANDBOX (cutbox-door.mjs). By AI agents, Wed Nov 11 2026. No macro, syntax, notation, axiom, sorry.
-/
import Derived.Test.YtfannkpnmaeljaaGreatDoorRows
import GoSem.ClaimSeven
namespace Go.Proofs.YtfannkpnmaeljaaGreatDoor
namespace Rows

/-- THE TIED CARD OF 'onairlaw07.PermitMatchesReference'. -/
def permitMatchesReferenceCard : Claim7 := { stood := { row := permitMatchesReferenceRow, standIns := [], harness := (true, "813a72bc4b5edaf329828076040de6ff50f2b4ff9e4416b6547ba2fee1e07aa1"), looks := false }, kinds := [], alts := [], laidByText := true, laidKinds := [.data], laidTests := true, laidLooks := .later }
def PermitMatchesReferenceCardSaid : Prop := Claim7.holds Tryz.pinned (.plain (OpenSpec.ofChange permitMatchesReferenceSpec)) permitMatchesReferenceCard

/-- THE TIED CARD OF 'onairlaw07.PermitCatchup'. -/
def permitCatchupCard : Claim7 := { stood := { row := permitCatchupRow, standIns := [], harness := (true, "813a72bc4b5edaf329828076040de6ff50f2b4ff9e4416b6547ba2fee1e07aa1"), looks := false }, kinds := [], alts := [], laidByText := true, laidKinds := [.data], laidTests := true, laidLooks := .later }
def PermitCatchupCardSaid : Prop := Claim7.holds Tryz.pinned (.plain (OpenSpec.ofChange permitCatchupSpec)) permitCatchupCard

/-- THE TIED CARD OF 'onairlaw07.PermitAppends'. -/
def permitAppendsCard : Claim7 := { stood := { row := permitAppendsRow, standIns := [], harness := (true, "813a72bc4b5edaf329828076040de6ff50f2b4ff9e4416b6547ba2fee1e07aa1"), looks := false }, kinds := [], alts := [], laidByText := true, laidKinds := [.data], laidTests := true, laidLooks := .later }
def PermitAppendsCardSaid : Prop := Claim7.holds Tryz.pinned (.plain (OpenSpec.ofChange permitAppendsSpec)) permitAppendsCard

/-- THE TIED CARD OF 'onairlaw07.PermitRating'. -/
def permitRatingCard : Claim7 := { stood := { row := permitRatingRow, standIns := [], harness := (true, "813a72bc4b5edaf329828076040de6ff50f2b4ff9e4416b6547ba2fee1e07aa1"), looks := false }, kinds := [], alts := [], laidByText := true, laidKinds := [.data], laidTests := true, laidLooks := .later }
def PermitRatingCardSaid : Prop := Claim7.holds Tryz.pinned (.plain (OpenSpec.ofChange permitRatingSpec)) permitRatingCard

/-- THE TIED CARD OF 'onairlaw07.PermitFrames'. -/
def permitFramesCard : Claim7 := { stood := { row := permitFramesRow, standIns := [], harness := (true, "813a72bc4b5edaf329828076040de6ff50f2b4ff9e4416b6547ba2fee1e07aa1"), looks := false }, kinds := [], alts := [], laidByText := true, laidKinds := [.data], laidTests := true, laidLooks := .later }
def PermitFramesCardSaid : Prop := Claim7.holds Tryz.pinned (.plain (OpenSpec.ofChange permitFramesSpec)) permitFramesCard

/-- THE TIED CARD OF 'onairlaw07.PermitRights'. -/
def permitRightsCard : Claim7 := { stood := { row := permitRightsRow, standIns := [], harness := (true, "813a72bc4b5edaf329828076040de6ff50f2b4ff9e4416b6547ba2fee1e07aa1"), looks := false }, kinds := [], alts := [], laidByText := true, laidKinds := [.data], laidTests := true, laidLooks := .later }
def PermitRightsCardSaid : Prop := Claim7.holds Tryz.pinned (.plain (OpenSpec.ofChange permitRightsSpec)) permitRightsCard

/-- THE TIED CARD OF 'onairlaw07.PermitFill'. -/
def permitFillCard : Claim7 := { stood := { row := permitFillRow, standIns := [], harness := (true, "813a72bc4b5edaf329828076040de6ff50f2b4ff9e4416b6547ba2fee1e07aa1"), looks := false }, kinds := [], alts := [], laidByText := true, laidKinds := [.data], laidTests := true, laidLooks := .later }
def PermitFillCardSaid : Prop := Claim7.holds Tryz.pinned (.plain (OpenSpec.ofChange permitFillSpec)) permitFillCard

/-- THE SECOND FORM's CARD OF 'onairlaw07.PermitMatchesReference'. -/
def permitMatchesReferenceUptoCard : Claim7 := { stood := { row := permitMatchesReferenceUptoRow, standIns := [], harness := (true, "813a72bc4b5edaf329828076040de6ff50f2b4ff9e4416b6547ba2fee1e07aa1"), looks := false }, kinds := [], alts := [], laidByText := true, laidKinds := [.data], laidTests := true, laidLooks := .later }
def PermitMatchesReferenceUptoCardSaid : Prop := Claim7.holds Tryz.pinned (.plain (OpenSpec.upto permitMatchesReferenceSpec)) permitMatchesReferenceUptoCard

/-- THE SECOND FORM's CARD OF 'onairlaw07.PermitCatchup'. -/
def permitCatchupUptoCard : Claim7 := { stood := { row := permitCatchupUptoRow, standIns := [], harness := (true, "813a72bc4b5edaf329828076040de6ff50f2b4ff9e4416b6547ba2fee1e07aa1"), looks := false }, kinds := [], alts := [], laidByText := true, laidKinds := [.data], laidTests := true, laidLooks := .later }
def PermitCatchupUptoCardSaid : Prop := Claim7.holds Tryz.pinned (.plain (OpenSpec.upto permitCatchupSpec)) permitCatchupUptoCard

/-- THE SECOND FORM's CARD OF 'onairlaw07.PermitAppends'. -/
def permitAppendsUptoCard : Claim7 := { stood := { row := permitAppendsUptoRow, standIns := [], harness := (true, "813a72bc4b5edaf329828076040de6ff50f2b4ff9e4416b6547ba2fee1e07aa1"), looks := false }, kinds := [], alts := [], laidByText := true, laidKinds := [.data], laidTests := true, laidLooks := .later }
def PermitAppendsUptoCardSaid : Prop := Claim7.holds Tryz.pinned (.plain (OpenSpec.upto permitAppendsSpec)) permitAppendsUptoCard

/-- THE SECOND FORM's CARD OF 'onairlaw07.PermitRating'. -/
def permitRatingUptoCard : Claim7 := { stood := { row := permitRatingUptoRow, standIns := [], harness := (true, "813a72bc4b5edaf329828076040de6ff50f2b4ff9e4416b6547ba2fee1e07aa1"), looks := false }, kinds := [], alts := [], laidByText := true, laidKinds := [.data], laidTests := true, laidLooks := .later }
def PermitRatingUptoCardSaid : Prop := Claim7.holds Tryz.pinned (.plain (OpenSpec.upto permitRatingSpec)) permitRatingUptoCard

/-- THE SECOND FORM's CARD OF 'onairlaw07.PermitFrames'. -/
def permitFramesUptoCard : Claim7 := { stood := { row := permitFramesUptoRow, standIns := [], harness := (true, "813a72bc4b5edaf329828076040de6ff50f2b4ff9e4416b6547ba2fee1e07aa1"), looks := false }, kinds := [], alts := [], laidByText := true, laidKinds := [.data], laidTests := true, laidLooks := .later }
def PermitFramesUptoCardSaid : Prop := Claim7.holds Tryz.pinned (.plain (OpenSpec.upto permitFramesSpec)) permitFramesUptoCard

/-- THE SECOND FORM's CARD OF 'onairlaw07.PermitRights'. -/
def permitRightsUptoCard : Claim7 := { stood := { row := permitRightsUptoRow, standIns := [], harness := (true, "813a72bc4b5edaf329828076040de6ff50f2b4ff9e4416b6547ba2fee1e07aa1"), looks := false }, kinds := [], alts := [], laidByText := true, laidKinds := [.data], laidTests := true, laidLooks := .later }
def PermitRightsUptoCardSaid : Prop := Claim7.holds Tryz.pinned (.plain (OpenSpec.upto permitRightsSpec)) permitRightsUptoCard

/-- THE SECOND FORM's CARD OF 'onairlaw07.PermitFill'. -/
def permitFillUptoCard : Claim7 := { stood := { row := permitFillUptoRow, standIns := [], harness := (true, "813a72bc4b5edaf329828076040de6ff50f2b4ff9e4416b6547ba2fee1e07aa1"), looks := false }, kinds := [], alts := [], laidByText := true, laidKinds := [.data], laidTests := true, laidLooks := .later }
def PermitFillUptoCardSaid : Prop := Claim7.holds Tryz.pinned (.plain (OpenSpec.upto permitFillSpec)) permitFillUptoCard
end Rows
end Go.Proofs.YtfannkpnmaeljaaGreatDoor
