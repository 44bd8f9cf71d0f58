/-
  DERIVED. GIVEN WITH THE SEED: THE CARDS: each row of YtklnjollalaehaaGreatDoorRows.lean that lists a variable, with what it lists TIED to the program's text (the seventh form; the later family's looks); each row that meets fmt, with fmt's text TOLD by the authors' own Lean function (tested against real Go, not proved from fmt's source: count such statements apart). THE CARD IS WHAT COUNTS. Prove the row's statement (the work); the ties are given (YtklnjollalaehaaGreatDoorTie.lean); close each card by the builder's one call (the guide's Derived/Test/ToyasCard.lean, 'card_holds'). Laid BY PROGRAM, IN A SANDBOX (cutbox-door.mjs). By AI agents, Wed Nov 11 2026. No macro, syntax, notation, axiom, sorry.
-/
import Derived.Test.YtklnjollalaehaaGreatDoorRows
import GoSem.ClaimSeven
namespace Go.Proofs.YtklnjollalaehaaGreatDoor
namespace Rows

/-- THE TIED CARD OF 'spillwaylaw06.HeadersLines'. -/
def headersLinesCard : Claim7 := { stood := { row := headersLinesRow, standIns := [], harness := (true, "88da9303b6e70ca783fc836bbbfbbd48d92c70cdb3522d767b9e4270c82c049e"), looks := true }, kinds := [], alts := [], laidByText := true, laidKinds := [.data, .pinned], laidTests := true, laidLooks := .later }
def HeadersLinesCardSaid : Prop := Claim7.holds Tryz.pinned (.plain (OpenSpec.ofChange headersLinesSpec)) headersLinesCard

/-- THE TIED CARD OF 'spillwaylaw06.HeadersStreams'. -/
def headersStreamsCard : Claim7 := { stood := { row := headersStreamsRow, standIns := [], harness := (true, "88da9303b6e70ca783fc836bbbfbbd48d92c70cdb3522d767b9e4270c82c049e"), looks := true }, kinds := [], alts := [], laidByText := true, laidKinds := [.data, .pinned], laidTests := true, laidLooks := .later }
def HeadersStreamsCardSaid : Prop := Claim7.holds Tryz.pinned (.plain (OpenSpec.ofChange headersStreamsSpec)) headersStreamsCard

/-- THE TIED CARD OF 'spillwaylaw06.HeadersChanges'. -/
def headersChangesCard : Claim7 := { stood := { row := headersChangesRow, standIns := [], harness := (true, "88da9303b6e70ca783fc836bbbfbbd48d92c70cdb3522d767b9e4270c82c049e"), looks := true }, kinds := [], alts := [], laidByText := true, laidKinds := [.data, .pinned], laidTests := true, laidLooks := .later }
def HeadersChangesCardSaid : Prop := Claim7.holds Tryz.pinned (.plain (OpenSpec.ofChange headersChangesSpec)) headersChangesCard

/-- THE TIED CARD OF 'spillwaylaw07.RequestTargets'. -/
def requestTargetsCard : Claim7 := { stood := { row := requestTargetsRow, standIns := [], harness := (true, "88da9303b6e70ca783fc836bbbfbbd48d92c70cdb3522d767b9e4270c82c049e"), looks := true }, kinds := [], alts := [], laidByText := true, laidKinds := [.data, .data, .data, .data, .sentinel, .sentinel, .data, .data, .pinned, .pinned], laidTests := true, laidLooks := .later }
def RequestTargetsCardSaid : Prop := Claim7.holds Tryz.pinned (.plain (OpenSpec.ofChange requestTargetsSpec)) requestTargetsCard

/-- THE TIED CARD OF 'spillwaylaw07.RequestChecks'. -/
def requestChecksCard : Claim7 := { stood := { row := requestChecksRow, standIns := [], harness := (true, "88da9303b6e70ca783fc836bbbfbbd48d92c70cdb3522d767b9e4270c82c049e"), looks := true }, kinds := [], alts := [], laidByText := true, laidKinds := [.data, .data, .data, .data, .sentinel, .sentinel, .data, .data, .pinned, .pinned], laidTests := true, laidLooks := .later }
def RequestChecksCardSaid : Prop := Claim7.holds Tryz.pinned (.plain (OpenSpec.ofChange requestChecksSpec)) requestChecksCard

/-- THE TIED CARD OF 'spillwaylaw07.RequestCleans'. -/
def requestCleansCard : Claim7 := { stood := { row := requestCleansRow, standIns := [], harness := (true, "88da9303b6e70ca783fc836bbbfbbd48d92c70cdb3522d767b9e4270c82c049e"), looks := true }, kinds := [], alts := [], laidByText := true, laidKinds := [.data, .data, .data, .data, .sentinel, .sentinel, .data, .data, .pinned, .pinned], laidTests := true, laidLooks := .later }
def RequestCleansCardSaid : Prop := Claim7.holds Tryz.pinned (.plain (OpenSpec.ofChange requestCleansSpec)) requestCleansCard

/-- THE TIED CARD OF 'spillwaylaw08.ChunksKnown'. -/
def chunksKnownCard : Claim7 := { stood := { row := chunksKnownRow, standIns := [], harness := (true, "88da9303b6e70ca783fc836bbbfbbd48d92c70cdb3522d767b9e4270c82c049e"), looks := true }, kinds := [], alts := [], laidByText := true, laidKinds := [.data, .data, .data, .data, .sentinel, .sentinel, .pinned], laidTests := true, laidLooks := .later }
def ChunksKnownCardSaid : Prop := Claim7.holds Tryz.pinned (.plain (OpenSpec.ofChange chunksKnownSpec)) chunksKnownCard

/-- THE SECOND FORM's CARD OF 'spillwaylaw06.HeadersLines'. -/
def headersLinesUptoCard : Claim7 := { stood := { row := headersLinesUptoRow, standIns := [], harness := (true, "88da9303b6e70ca783fc836bbbfbbd48d92c70cdb3522d767b9e4270c82c049e"), looks := true }, kinds := [], alts := [], laidByText := true, laidKinds := [.data, .pinned], laidTests := true, laidLooks := .later }
def HeadersLinesUptoCardSaid : Prop := Claim7.holds Tryz.pinned (.plain (OpenSpec.upto headersLinesSpec)) headersLinesUptoCard

/-- THE SECOND FORM's CARD OF 'spillwaylaw06.HeadersStreams'. -/
def headersStreamsUptoCard : Claim7 := { stood := { row := headersStreamsUptoRow, standIns := [], harness := (true, "88da9303b6e70ca783fc836bbbfbbd48d92c70cdb3522d767b9e4270c82c049e"), looks := true }, kinds := [], alts := [], laidByText := true, laidKinds := [.data, .pinned], laidTests := true, laidLooks := .later }
def HeadersStreamsUptoCardSaid : Prop := Claim7.holds Tryz.pinned (.plain (OpenSpec.upto headersStreamsSpec)) headersStreamsUptoCard

/-- THE SECOND FORM's CARD OF 'spillwaylaw06.HeadersChanges'. -/
def headersChangesUptoCard : Claim7 := { stood := { row := headersChangesUptoRow, standIns := [], harness := (true, "88da9303b6e70ca783fc836bbbfbbd48d92c70cdb3522d767b9e4270c82c049e"), looks := true }, kinds := [], alts := [], laidByText := true, laidKinds := [.data, .pinned], laidTests := true, laidLooks := .later }
def HeadersChangesUptoCardSaid : Prop := Claim7.holds Tryz.pinned (.plain (OpenSpec.upto headersChangesSpec)) headersChangesUptoCard

/-- THE SECOND FORM's CARD OF 'spillwaylaw07.RequestTargets'. -/
def requestTargetsUptoCard : Claim7 := { stood := { row := requestTargetsUptoRow, standIns := [], harness := (true, "88da9303b6e70ca783fc836bbbfbbd48d92c70cdb3522d767b9e4270c82c049e"), looks := true }, kinds := [], alts := [], laidByText := true, laidKinds := [.data, .data, .data, .data, .sentinel, .sentinel, .data, .data, .pinned, .pinned], laidTests := true, laidLooks := .later }
def RequestTargetsUptoCardSaid : Prop := Claim7.holds Tryz.pinned (.plain (OpenSpec.upto requestTargetsSpec)) requestTargetsUptoCard

/-- THE SECOND FORM's CARD OF 'spillwaylaw07.RequestChecks'. -/
def requestChecksUptoCard : Claim7 := { stood := { row := requestChecksUptoRow, standIns := [], harness := (true, "88da9303b6e70ca783fc836bbbfbbd48d92c70cdb3522d767b9e4270c82c049e"), looks := true }, kinds := [], alts := [], laidByText := true, laidKinds := [.data, .data, .data, .data, .sentinel, .sentinel, .data, .data, .pinned, .pinned], laidTests := true, laidLooks := .later }
def RequestChecksUptoCardSaid : Prop := Claim7.holds Tryz.pinned (.plain (OpenSpec.upto requestChecksSpec)) requestChecksUptoCard

/-- THE SECOND FORM's CARD OF 'spillwaylaw07.RequestCleans'. -/
def requestCleansUptoCard : Claim7 := { stood := { row := requestCleansUptoRow, standIns := [], harness := (true, "88da9303b6e70ca783fc836bbbfbbd48d92c70cdb3522d767b9e4270c82c049e"), looks := true }, kinds := [], alts := [], laidByText := true, laidKinds := [.data, .data, .data, .data, .sentinel, .sentinel, .data, .data, .pinned, .pinned], laidTests := true, laidLooks := .later }
def RequestCleansUptoCardSaid : Prop := Claim7.holds Tryz.pinned (.plain (OpenSpec.upto requestCleansSpec)) requestCleansUptoCard

/-- THE SECOND FORM's CARD OF 'spillwaylaw08.ChunksKnown'. -/
def chunksKnownUptoCard : Claim7 := { stood := { row := chunksKnownUptoRow, standIns := [], harness := (true, "88da9303b6e70ca783fc836bbbfbbd48d92c70cdb3522d767b9e4270c82c049e"), looks := true }, kinds := [], alts := [], laidByText := true, laidKinds := [.data, .data, .data, .data, .sentinel, .sentinel, .pinned], laidTests := true, laidLooks := .later }
def ChunksKnownUptoCardSaid : Prop := Claim7.holds Tryz.pinned (.plain (OpenSpec.upto chunksKnownSpec)) chunksKnownUptoCard
end Rows
end Go.Proofs.YtklnjollalaehaaGreatDoor
