/-
  DERIVED. GIVEN WITH THE SEED: THE CARDS: each row of YtibnongfdafoeaaGreatDoorRows.lean that lists a variable, with what it lists TIED to the program's text (the seventh form; the later family's looks); each row that meets fmt, with fmt's text TOLD by the authors' own Lean function (tested against real Go, not proved from fmt's source: count such statements apart). THE CARD IS WHAT COUNTS. Prove the row's statement (the work); the ties are given (YtibnongfdafoeaaGreatDoorTie.lean); close each card by the builder's one call (the guide's Derived/Test/ToyasCard.lean, 'card_holds'). Laid BY PROGRAM, IN A SANDBOX (cutbox-door.mjs). By AI agents, Wed Nov 11 2026. No macro, syntax, notation, axiom, sorry.
-/
import Derived.Test.YtibnongfdafoeaaGreatDoorRows
import GoSem.ClaimSeven
namespace Go.Proofs.YtibnongfdafoeaaGreatDoor
namespace Rows

/-- THE TIED CARD OF 'spillwaylaw05.TokensItems'. -/
def tokensItemsCard : Claim7 := { stood := { row := tokensItemsRow, standIns := [], harness := (true, "6f8cd4ed3baaefea5ccd6dc1cd644995a99d970b3f53a13529d7e179f41cf36f"), looks := true }, kinds := [], alts := [], laidByText := true, laidKinds := [.data, .data, .data, .data, .sentinel, .sentinel, .pinned], laidTests := true, laidLooks := .later }
def TokensItemsCardSaid : Prop := Claim7.holds Tryz.pinned (.plain (OpenSpec.ofChange tokensItemsSpec)) tokensItemsCard

/-- THE TIED CARD OF 'spillwaylaw05.TokensPrints'. -/
def tokensPrintsCard : Claim7 := { stood := { row := tokensPrintsRow, standIns := [], harness := (true, "6f8cd4ed3baaefea5ccd6dc1cd644995a99d970b3f53a13529d7e179f41cf36f"), looks := true }, kinds := [], alts := [], laidByText := true, laidKinds := [.data, .data, .data, .data, .sentinel, .sentinel, .pinned], laidTests := true, laidLooks := .later }
def TokensPrintsCardSaid : Prop := Claim7.holds Tryz.pinned (.plain (OpenSpec.ofChange tokensPrintsSpec)) tokensPrintsCard

/-- THE TIED CARD OF 'spillwaylaw05.TokensJoined'. -/
def tokensJoinedCard : Claim7 := { stood := { row := tokensJoinedRow, standIns := [], harness := (true, "6f8cd4ed3baaefea5ccd6dc1cd644995a99d970b3f53a13529d7e179f41cf36f"), looks := true }, kinds := [], alts := [], laidByText := true, laidKinds := [.data, .data, .data, .data, .sentinel, .sentinel, .pinned], laidTests := true, laidLooks := .later }
def TokensJoinedCardSaid : Prop := Claim7.holds Tryz.pinned (.plain (OpenSpec.ofChange tokensJoinedSpec)) tokensJoinedCard

/-- THE TIED CARD OF 'spillwaylaw05.TokensOrder'. -/
def tokensOrderCard : Claim7 := { stood := { row := tokensOrderRow, standIns := [], harness := (true, "6f8cd4ed3baaefea5ccd6dc1cd644995a99d970b3f53a13529d7e179f41cf36f"), looks := true }, kinds := [], alts := [], laidByText := true, laidKinds := [.data, .data, .data, .data, .sentinel, .sentinel, .pinned], laidTests := true, laidLooks := .later }
def TokensOrderCardSaid : Prop := Claim7.holds Tryz.pinned (.plain (OpenSpec.ofChange tokensOrderSpec)) tokensOrderCard

/-- THE TIED CARD OF 'spillwaylaw05.TokensCase'. -/
def tokensCaseCard : Claim7 := { stood := { row := tokensCaseRow, standIns := [], harness := (true, "6f8cd4ed3baaefea5ccd6dc1cd644995a99d970b3f53a13529d7e179f41cf36f"), looks := true }, kinds := [], alts := [], laidByText := true, laidKinds := [.data, .data, .data, .data, .sentinel, .sentinel, .pinned], laidTests := true, laidLooks := .later }
def TokensCaseCardSaid : Prop := Claim7.holds Tryz.pinned (.plain (OpenSpec.ofChange tokensCaseSpec)) tokensCaseCard

/-- THE TIED CARD OF 'spillwaylaw06.HeadersChecks'. -/
def headersChecksCard : Claim7 := { stood := { row := headersChecksRow, standIns := [], harness := (true, "6f8cd4ed3baaefea5ccd6dc1cd644995a99d970b3f53a13529d7e179f41cf36f"), looks := true }, kinds := [], alts := [], laidByText := true, laidKinds := [.data, .pinned], laidTests := true, laidLooks := .later }
def HeadersChecksCardSaid : Prop := Claim7.holds Tryz.pinned (.plain (OpenSpec.ofChange headersChecksSpec)) headersChecksCard

/-- THE TIED CARD OF 'spillwaylaw06.HeadersChanges'. -/
def headersChangesCard : Claim7 := { stood := { row := headersChangesRow, standIns := [], harness := (true, "6f8cd4ed3baaefea5ccd6dc1cd644995a99d970b3f53a13529d7e179f41cf36f"), looks := true }, kinds := [], alts := [], laidByText := true, laidKinds := [.data, .pinned], laidTests := true, laidLooks := .later }
def HeadersChangesCardSaid : Prop := Claim7.holds Tryz.pinned (.plain (OpenSpec.ofChange headersChangesSpec)) headersChangesCard

/-- THE TIED CARD OF 'spillwaylaw06.HeadersLines'. -/
def headersLinesCard : Claim7 := { stood := { row := headersLinesRow, standIns := [], harness := (true, "6f8cd4ed3baaefea5ccd6dc1cd644995a99d970b3f53a13529d7e179f41cf36f"), looks := true }, kinds := [], alts := [], laidByText := true, laidKinds := [.data, .pinned], laidTests := true, laidLooks := .later }
def HeadersLinesCardSaid : Prop := Claim7.holds Tryz.pinned (.plain (OpenSpec.ofChange headersLinesSpec)) headersLinesCard

/-- THE TIED CARD OF 'spillwaylaw06.HeadersHops'. -/
def headersHopsCard : Claim7 := { stood := { row := headersHopsRow, standIns := [], harness := (true, "6f8cd4ed3baaefea5ccd6dc1cd644995a99d970b3f53a13529d7e179f41cf36f"), looks := true }, kinds := [], alts := [], laidByText := true, laidKinds := [.data, .pinned], laidTests := true, laidLooks := .later }
def HeadersHopsCardSaid : Prop := Claim7.holds Tryz.pinned (.plain (OpenSpec.ofChange headersHopsSpec)) headersHopsCard

/-- THE TIED CARD OF 'spillwaylaw06.HeadersStreams'. -/
def headersStreamsCard : Claim7 := { stood := { row := headersStreamsRow, standIns := [], harness := (true, "6f8cd4ed3baaefea5ccd6dc1cd644995a99d970b3f53a13529d7e179f41cf36f"), looks := true }, kinds := [], alts := [], laidByText := true, laidKinds := [.data, .pinned], laidTests := true, laidLooks := .later }
def HeadersStreamsCardSaid : Prop := Claim7.holds Tryz.pinned (.plain (OpenSpec.ofChange headersStreamsSpec)) headersStreamsCard

/-- THE TIED CARD OF 'spillwaylaw06.HeadersSets'. -/
def headersSetsCard : Claim7 := { stood := { row := headersSetsRow, standIns := [], harness := (true, "6f8cd4ed3baaefea5ccd6dc1cd644995a99d970b3f53a13529d7e179f41cf36f"), looks := true }, kinds := [], alts := [], laidByText := true, laidKinds := [.data, .pinned], laidTests := true, laidLooks := .later }
def HeadersSetsCardSaid : Prop := Claim7.holds Tryz.pinned (.plain (OpenSpec.ofChange headersSetsSpec)) headersSetsCard

/-- THE TIED CARD OF 'spillwaylaw06.HeadersCase'. -/
def headersCaseCard : Claim7 := { stood := { row := headersCaseRow, standIns := [], harness := (true, "6f8cd4ed3baaefea5ccd6dc1cd644995a99d970b3f53a13529d7e179f41cf36f"), looks := true }, kinds := [], alts := [], laidByText := true, laidKinds := [.data, .pinned], laidTests := true, laidLooks := .later }
def HeadersCaseCardSaid : Prop := Claim7.holds Tryz.pinned (.plain (OpenSpec.ofChange headersCaseSpec)) headersCaseCard

/-- THE SECOND FORM's CARD OF 'spillwaylaw05.TokensItems'. -/
def tokensItemsUptoCard : Claim7 := { stood := { row := tokensItemsUptoRow, standIns := [], harness := (true, "6f8cd4ed3baaefea5ccd6dc1cd644995a99d970b3f53a13529d7e179f41cf36f"), looks := true }, kinds := [], alts := [], laidByText := true, laidKinds := [.data, .data, .data, .data, .sentinel, .sentinel, .pinned], laidTests := true, laidLooks := .later }
def TokensItemsUptoCardSaid : Prop := Claim7.holds Tryz.pinned (.plain (OpenSpec.upto tokensItemsSpec)) tokensItemsUptoCard

/-- THE SECOND FORM's CARD OF 'spillwaylaw05.TokensPrints'. -/
def tokensPrintsUptoCard : Claim7 := { stood := { row := tokensPrintsUptoRow, standIns := [], harness := (true, "6f8cd4ed3baaefea5ccd6dc1cd644995a99d970b3f53a13529d7e179f41cf36f"), looks := true }, kinds := [], alts := [], laidByText := true, laidKinds := [.data, .data, .data, .data, .sentinel, .sentinel, .pinned], laidTests := true, laidLooks := .later }
def TokensPrintsUptoCardSaid : Prop := Claim7.holds Tryz.pinned (.plain (OpenSpec.upto tokensPrintsSpec)) tokensPrintsUptoCard

/-- THE SECOND FORM's CARD OF 'spillwaylaw05.TokensJoined'. -/
def tokensJoinedUptoCard : Claim7 := { stood := { row := tokensJoinedUptoRow, standIns := [], harness := (true, "6f8cd4ed3baaefea5ccd6dc1cd644995a99d970b3f53a13529d7e179f41cf36f"), looks := true }, kinds := [], alts := [], laidByText := true, laidKinds := [.data, .data, .data, .data, .sentinel, .sentinel, .pinned], laidTests := true, laidLooks := .later }
def TokensJoinedUptoCardSaid : Prop := Claim7.holds Tryz.pinned (.plain (OpenSpec.upto tokensJoinedSpec)) tokensJoinedUptoCard

/-- THE SECOND FORM's CARD OF 'spillwaylaw05.TokensOrder'. -/
def tokensOrderUptoCard : Claim7 := { stood := { row := tokensOrderUptoRow, standIns := [], harness := (true, "6f8cd4ed3baaefea5ccd6dc1cd644995a99d970b3f53a13529d7e179f41cf36f"), looks := true }, kinds := [], alts := [], laidByText := true, laidKinds := [.data, .data, .data, .data, .sentinel, .sentinel, .pinned], laidTests := true, laidLooks := .later }
def TokensOrderUptoCardSaid : Prop := Claim7.holds Tryz.pinned (.plain (OpenSpec.upto tokensOrderSpec)) tokensOrderUptoCard

/-- THE SECOND FORM's CARD OF 'spillwaylaw05.TokensCase'. -/
def tokensCaseUptoCard : Claim7 := { stood := { row := tokensCaseUptoRow, standIns := [], harness := (true, "6f8cd4ed3baaefea5ccd6dc1cd644995a99d970b3f53a13529d7e179f41cf36f"), looks := true }, kinds := [], alts := [], laidByText := true, laidKinds := [.data, .data, .data, .data, .sentinel, .sentinel, .pinned], laidTests := true, laidLooks := .later }
def TokensCaseUptoCardSaid : Prop := Claim7.holds Tryz.pinned (.plain (OpenSpec.upto tokensCaseSpec)) tokensCaseUptoCard

/-- THE SECOND FORM's CARD OF 'spillwaylaw06.HeadersChecks'. -/
def headersChecksUptoCard : Claim7 := { stood := { row := headersChecksUptoRow, standIns := [], harness := (true, "6f8cd4ed3baaefea5ccd6dc1cd644995a99d970b3f53a13529d7e179f41cf36f"), looks := true }, kinds := [], alts := [], laidByText := true, laidKinds := [.data, .pinned], laidTests := true, laidLooks := .later }
def HeadersChecksUptoCardSaid : Prop := Claim7.holds Tryz.pinned (.plain (OpenSpec.upto headersChecksSpec)) headersChecksUptoCard

/-- THE SECOND FORM's CARD OF 'spillwaylaw06.HeadersChanges'. -/
def headersChangesUptoCard : Claim7 := { stood := { row := headersChangesUptoRow, standIns := [], harness := (true, "6f8cd4ed3baaefea5ccd6dc1cd644995a99d970b3f53a13529d7e179f41cf36f"), looks := true }, kinds := [], alts := [], laidByText := true, laidKinds := [.data, .pinned], laidTests := true, laidLooks := .later }
def HeadersChangesUptoCardSaid : Prop := Claim7.holds Tryz.pinned (.plain (OpenSpec.upto headersChangesSpec)) headersChangesUptoCard

/-- THE SECOND FORM's CARD OF 'spillwaylaw06.HeadersLines'. -/
def headersLinesUptoCard : Claim7 := { stood := { row := headersLinesUptoRow, standIns := [], harness := (true, "6f8cd4ed3baaefea5ccd6dc1cd644995a99d970b3f53a13529d7e179f41cf36f"), looks := true }, kinds := [], alts := [], laidByText := true, laidKinds := [.data, .pinned], laidTests := true, laidLooks := .later }
def HeadersLinesUptoCardSaid : Prop := Claim7.holds Tryz.pinned (.plain (OpenSpec.upto headersLinesSpec)) headersLinesUptoCard

/-- THE SECOND FORM's CARD OF 'spillwaylaw06.HeadersHops'. -/
def headersHopsUptoCard : Claim7 := { stood := { row := headersHopsUptoRow, standIns := [], harness := (true, "6f8cd4ed3baaefea5ccd6dc1cd644995a99d970b3f53a13529d7e179f41cf36f"), looks := true }, kinds := [], alts := [], laidByText := true, laidKinds := [.data, .pinned], laidTests := true, laidLooks := .later }
def HeadersHopsUptoCardSaid : Prop := Claim7.holds Tryz.pinned (.plain (OpenSpec.upto headersHopsSpec)) headersHopsUptoCard

/-- THE SECOND FORM's CARD OF 'spillwaylaw06.HeadersStreams'. -/
def headersStreamsUptoCard : Claim7 := { stood := { row := headersStreamsUptoRow, standIns := [], harness := (true, "6f8cd4ed3baaefea5ccd6dc1cd644995a99d970b3f53a13529d7e179f41cf36f"), looks := true }, kinds := [], alts := [], laidByText := true, laidKinds := [.data, .pinned], laidTests := true, laidLooks := .later }
def HeadersStreamsUptoCardSaid : Prop := Claim7.holds Tryz.pinned (.plain (OpenSpec.upto headersStreamsSpec)) headersStreamsUptoCard

/-- THE SECOND FORM's CARD OF 'spillwaylaw06.HeadersSets'. -/
def headersSetsUptoCard : Claim7 := { stood := { row := headersSetsUptoRow, standIns := [], harness := (true, "6f8cd4ed3baaefea5ccd6dc1cd644995a99d970b3f53a13529d7e179f41cf36f"), looks := true }, kinds := [], alts := [], laidByText := true, laidKinds := [.data, .pinned], laidTests := true, laidLooks := .later }
def HeadersSetsUptoCardSaid : Prop := Claim7.holds Tryz.pinned (.plain (OpenSpec.upto headersSetsSpec)) headersSetsUptoCard

/-- THE SECOND FORM's CARD OF 'spillwaylaw06.HeadersCase'. -/
def headersCaseUptoCard : Claim7 := { stood := { row := headersCaseUptoRow, standIns := [], harness := (true, "6f8cd4ed3baaefea5ccd6dc1cd644995a99d970b3f53a13529d7e179f41cf36f"), looks := true }, kinds := [], alts := [], laidByText := true, laidKinds := [.data, .pinned], laidTests := true, laidLooks := .later }
def HeadersCaseUptoCardSaid : Prop := Claim7.holds Tryz.pinned (.plain (OpenSpec.upto headersCaseSpec)) headersCaseUptoCard
end Rows
end Go.Proofs.YtibnongfdafoeaaGreatDoor
