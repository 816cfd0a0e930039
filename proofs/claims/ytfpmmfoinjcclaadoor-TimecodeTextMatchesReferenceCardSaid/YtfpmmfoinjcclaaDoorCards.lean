/-
  DERIVED. GIVEN WITH THE SEED: THE CARDS: each row of YtfpmmfoinjcclaaDoorRows.lean that lists a variable, with what it lists TIED to the program's text (the seventh form; the later family's looks); each row that meets fmt, with fmt's text TOLD by the authors' own Lean function (tested against real Go, not proved from fmt's source: count such statements apart). THE CARD IS WHAT COUNTS. Prove the row's statement (the work); the ties are given (YtfpmmfoinjcclaaDoorTie.lean); close each card by the builder's one call (the guide's Derived/Test/ToyasCard.lean, 'card_holds'). Laid BY PROGRAM, IN A SANDBOX (cutbox-door.mjs). By AI agents, Wed Nov 11 2026. No macro, syntax, notation, axiom, sorry.
-/
import Derived.Test.YtfpmmfoinjcclaaDoorRows
import GoSem.ClaimSeven
namespace Go.Proofs.YtfpmmfoinjcclaaDoor
namespace Rows

/-- THE TIED CARD OF 'onairlaw03.TimecodeMatchesReference'. -/
def timecodeMatchesReferenceCard : Claim7 := { stood := { row := timecodeMatchesReferenceRow, standIns := [], harness := (true, "fbb0c8c8061fd3ffae88d516a6fcf7f8543c590bd135b45b49ea93da40a2ba91"), looks := false }, kinds := [], alts := [], laidByText := true, laidKinds := [.data], laidTests := true, laidLooks := .later }
def TimecodeMatchesReferenceCardSaid : Prop := Claim7.holds Tryd.pinned (.plain (OpenSpec.ofChange timecodeMatchesReferenceSpec)) timecodeMatchesReferenceCard

/-- THE TIED CARD OF 'onairlaw03.TimecodeTextMatchesReference'. -/
def timecodeTextMatchesReferenceCard : Claim7 := { stood := { row := timecodeTextMatchesReferenceRow, standIns := [], harness := (true, "fbb0c8c8061fd3ffae88d516a6fcf7f8543c590bd135b45b49ea93da40a2ba91"), looks := false }, kinds := [], alts := [], laidByText := true, laidKinds := [.data], laidTests := true, laidLooks := .later }
def TimecodeTextMatchesReferenceCardSaid : Prop := Claim7.holds Tryd.pinned (.plain (OpenSpec.ofChange timecodeTextMatchesReferenceSpec)) timecodeTextMatchesReferenceCard

/-- THE TIED CARD OF 'onairlaw03.TimecodeRoundTrip'. -/
def timecodeRoundTripCard : Claim7 := { stood := { row := timecodeRoundTripRow, standIns := [], harness := (true, "fbb0c8c8061fd3ffae88d516a6fcf7f8543c590bd135b45b49ea93da40a2ba91"), looks := false }, kinds := [], alts := [], laidByText := true, laidKinds := [.data], laidTests := true, laidLooks := .later }
def TimecodeRoundTripCardSaid : Prop := Claim7.holds Tryd.pinned (.plain (OpenSpec.ofChange timecodeRoundTripSpec)) timecodeRoundTripCard

/-- THE TIED CARD OF 'onairlaw03.TimecodeAscends'. -/
def timecodeAscendsCard : Claim7 := { stood := { row := timecodeAscendsRow, standIns := [], harness := (true, "fbb0c8c8061fd3ffae88d516a6fcf7f8543c590bd135b45b49ea93da40a2ba91"), looks := false }, kinds := [], alts := [], laidByText := true, laidKinds := [.data], laidTests := true, laidLooks := .later }
def TimecodeAscendsCardSaid : Prop := Claim7.holds Tryd.pinned (.plain (OpenSpec.ofChange timecodeAscendsSpec)) timecodeAscendsCard

/-- THE TIED CARD OF 'onairlaw03.TimecodeDropped'. -/
def timecodeDroppedCard : Claim7 := { stood := { row := timecodeDroppedRow, standIns := [], harness := (true, "fbb0c8c8061fd3ffae88d516a6fcf7f8543c590bd135b45b49ea93da40a2ba91"), looks := false }, kinds := [], alts := [], laidByText := true, laidKinds := [.data], laidTests := true, laidLooks := .later }
def TimecodeDroppedCardSaid : Prop := Claim7.holds Tryd.pinned (.plain (OpenSpec.ofChange timecodeDroppedSpec)) timecodeDroppedCard

/-- THE TIED CARD OF 'onairlaw03.TimecodeSeconds'. -/
def timecodeSecondsCard : Claim7 := { stood := { row := timecodeSecondsRow, standIns := [], harness := (true, "fbb0c8c8061fd3ffae88d516a6fcf7f8543c590bd135b45b49ea93da40a2ba91"), looks := false }, kinds := [], alts := [], laidByText := true, laidKinds := [.data], laidTests := true, laidLooks := .later }
def TimecodeSecondsCardSaid : Prop := Claim7.holds Tryd.pinned (.plain (OpenSpec.ofChange timecodeSecondsSpec)) timecodeSecondsCard

/-- THE TIED CARD OF 'onairlaw03.TimecodeClose'. -/
def timecodeCloseCard : Claim7 := { stood := { row := timecodeCloseRow, standIns := [], harness := (true, "fbb0c8c8061fd3ffae88d516a6fcf7f8543c590bd135b45b49ea93da40a2ba91"), looks := false }, kinds := [], alts := [], laidByText := true, laidKinds := [.data], laidTests := true, laidLooks := .later }
def TimecodeCloseCardSaid : Prop := Claim7.holds Tryd.pinned (.plain (OpenSpec.ofChange timecodeCloseSpec)) timecodeCloseCard

/-- THE TIED CARD OF 'onairlaw03.TimecodeConverts'. -/
def timecodeConvertsCard : Claim7 := { stood := { row := timecodeConvertsRow, standIns := [], harness := (true, "fbb0c8c8061fd3ffae88d516a6fcf7f8543c590bd135b45b49ea93da40a2ba91"), looks := false }, kinds := [], alts := [], laidByText := true, laidKinds := [.data], laidTests := true, laidLooks := .later }
def TimecodeConvertsCardSaid : Prop := Claim7.holds Tryd.pinned (.plain (OpenSpec.ofChange timecodeConvertsSpec)) timecodeConvertsCard

/-- THE TIED CARD OF 'onairlaw03.TimecodeTicks'. -/
def timecodeTicksCard : Claim7 := { stood := { row := timecodeTicksRow, standIns := [], harness := (true, "fbb0c8c8061fd3ffae88d516a6fcf7f8543c590bd135b45b49ea93da40a2ba91"), looks := false }, kinds := [], alts := [], laidByText := true, laidKinds := [.data], laidTests := true, laidLooks := .later }
def TimecodeTicksCardSaid : Prop := Claim7.holds Tryd.pinned (.plain (OpenSpec.ofChange timecodeTicksSpec)) timecodeTicksCard

/-- THE SECOND FORM's CARD OF 'onairlaw03.TimecodeMatchesReference'. -/
def timecodeMatchesReferenceUptoCard : Claim7 := { stood := { row := timecodeMatchesReferenceUptoRow, standIns := [], harness := (true, "fbb0c8c8061fd3ffae88d516a6fcf7f8543c590bd135b45b49ea93da40a2ba91"), looks := false }, kinds := [], alts := [], laidByText := true, laidKinds := [.data], laidTests := true, laidLooks := .later }
def TimecodeMatchesReferenceUptoCardSaid : Prop := Claim7.holds Tryd.pinned (.plain (OpenSpec.upto timecodeMatchesReferenceSpec)) timecodeMatchesReferenceUptoCard

/-- THE SECOND FORM's CARD OF 'onairlaw03.TimecodeTextMatchesReference'. -/
def timecodeTextMatchesReferenceUptoCard : Claim7 := { stood := { row := timecodeTextMatchesReferenceUptoRow, standIns := [], harness := (true, "fbb0c8c8061fd3ffae88d516a6fcf7f8543c590bd135b45b49ea93da40a2ba91"), looks := false }, kinds := [], alts := [], laidByText := true, laidKinds := [.data], laidTests := true, laidLooks := .later }
def TimecodeTextMatchesReferenceUptoCardSaid : Prop := Claim7.holds Tryd.pinned (.plain (OpenSpec.upto timecodeTextMatchesReferenceSpec)) timecodeTextMatchesReferenceUptoCard

/-- THE SECOND FORM's CARD OF 'onairlaw03.TimecodeRoundTrip'. -/
def timecodeRoundTripUptoCard : Claim7 := { stood := { row := timecodeRoundTripUptoRow, standIns := [], harness := (true, "fbb0c8c8061fd3ffae88d516a6fcf7f8543c590bd135b45b49ea93da40a2ba91"), looks := false }, kinds := [], alts := [], laidByText := true, laidKinds := [.data], laidTests := true, laidLooks := .later }
def TimecodeRoundTripUptoCardSaid : Prop := Claim7.holds Tryd.pinned (.plain (OpenSpec.upto timecodeRoundTripSpec)) timecodeRoundTripUptoCard

/-- THE SECOND FORM's CARD OF 'onairlaw03.TimecodeAscends'. -/
def timecodeAscendsUptoCard : Claim7 := { stood := { row := timecodeAscendsUptoRow, standIns := [], harness := (true, "fbb0c8c8061fd3ffae88d516a6fcf7f8543c590bd135b45b49ea93da40a2ba91"), looks := false }, kinds := [], alts := [], laidByText := true, laidKinds := [.data], laidTests := true, laidLooks := .later }
def TimecodeAscendsUptoCardSaid : Prop := Claim7.holds Tryd.pinned (.plain (OpenSpec.upto timecodeAscendsSpec)) timecodeAscendsUptoCard

/-- THE SECOND FORM's CARD OF 'onairlaw03.TimecodeDropped'. -/
def timecodeDroppedUptoCard : Claim7 := { stood := { row := timecodeDroppedUptoRow, standIns := [], harness := (true, "fbb0c8c8061fd3ffae88d516a6fcf7f8543c590bd135b45b49ea93da40a2ba91"), looks := false }, kinds := [], alts := [], laidByText := true, laidKinds := [.data], laidTests := true, laidLooks := .later }
def TimecodeDroppedUptoCardSaid : Prop := Claim7.holds Tryd.pinned (.plain (OpenSpec.upto timecodeDroppedSpec)) timecodeDroppedUptoCard

/-- THE SECOND FORM's CARD OF 'onairlaw03.TimecodeSeconds'. -/
def timecodeSecondsUptoCard : Claim7 := { stood := { row := timecodeSecondsUptoRow, standIns := [], harness := (true, "fbb0c8c8061fd3ffae88d516a6fcf7f8543c590bd135b45b49ea93da40a2ba91"), looks := false }, kinds := [], alts := [], laidByText := true, laidKinds := [.data], laidTests := true, laidLooks := .later }
def TimecodeSecondsUptoCardSaid : Prop := Claim7.holds Tryd.pinned (.plain (OpenSpec.upto timecodeSecondsSpec)) timecodeSecondsUptoCard

/-- THE SECOND FORM's CARD OF 'onairlaw03.TimecodeClose'. -/
def timecodeCloseUptoCard : Claim7 := { stood := { row := timecodeCloseUptoRow, standIns := [], harness := (true, "fbb0c8c8061fd3ffae88d516a6fcf7f8543c590bd135b45b49ea93da40a2ba91"), looks := false }, kinds := [], alts := [], laidByText := true, laidKinds := [.data], laidTests := true, laidLooks := .later }
def TimecodeCloseUptoCardSaid : Prop := Claim7.holds Tryd.pinned (.plain (OpenSpec.upto timecodeCloseSpec)) timecodeCloseUptoCard

/-- THE SECOND FORM's CARD OF 'onairlaw03.TimecodeConverts'. -/
def timecodeConvertsUptoCard : Claim7 := { stood := { row := timecodeConvertsUptoRow, standIns := [], harness := (true, "fbb0c8c8061fd3ffae88d516a6fcf7f8543c590bd135b45b49ea93da40a2ba91"), looks := false }, kinds := [], alts := [], laidByText := true, laidKinds := [.data], laidTests := true, laidLooks := .later }
def TimecodeConvertsUptoCardSaid : Prop := Claim7.holds Tryd.pinned (.plain (OpenSpec.upto timecodeConvertsSpec)) timecodeConvertsUptoCard

/-- THE SECOND FORM's CARD OF 'onairlaw03.TimecodeTicks'. -/
def timecodeTicksUptoCard : Claim7 := { stood := { row := timecodeTicksUptoRow, standIns := [], harness := (true, "fbb0c8c8061fd3ffae88d516a6fcf7f8543c590bd135b45b49ea93da40a2ba91"), looks := false }, kinds := [], alts := [], laidByText := true, laidKinds := [.data], laidTests := true, laidLooks := .later }
def TimecodeTicksUptoCardSaid : Prop := Claim7.holds Tryd.pinned (.plain (OpenSpec.upto timecodeTicksSpec)) timecodeTicksUptoCard
end Rows
end Go.Proofs.YtfpmmfoinjcclaaDoor
