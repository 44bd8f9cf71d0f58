/-
  DERIVED. GIVEN WITH THE SEED: THE CARDS: each row of YtjjlnehilcnheaaGreatDoorRows.lean that lists a variable, with what it lists TIED to the program's text (the seventh form; the later family's looks); each row that meets fmt, with fmt's text TOLD by the authors' own Lean function (tested against real Go, not proved from fmt's source: count such statements apart). THE CARD IS WHAT COUNTS. Prove the row's statement (the work); the ties are given (YtjjlnehilcnheaaGreatDoorTie.lean); close each card by the builder's one call (the guide's Derived/Test/ToyasCard.lean, 'card_holds'). Laid BY PROGRAM, IN A SANDBOX (cutbox-door.mjs). By AI agents, Wed Nov 11 2026. No macro, syntax, notation, axiom, sorry.
-/
import Derived.Test.YtjjlnehilcnheaaGreatDoorRows
import GoSem.ClaimSeven
namespace Go.Proofs.YtjjlnehilcnheaaGreatDoor
namespace Rows

/-- THE TIED CARD OF 'spillwaylaw07.RequestChecks'. -/
def requestChecksCard : Claim7 := { stood := { row := requestChecksRow, standIns := [], harness := (true, "6d7a625334907d4a0395652b2463dbade3ca510f2408d6457135bf693e60b542"), looks := true }, kinds := [], alts := [], laidByText := true, laidKinds := [.data, .data, .data, .data, .sentinel, .sentinel, .data, .data, .pinned, .pinned], laidTests := true, laidLooks := .later }
def RequestChecksCardSaid : Prop := Claim7.holds Tryz.pinned (.plain (OpenSpec.ofChange requestChecksSpec)) requestChecksCard

/-- THE TIED CARD OF 'spillwaylaw07.RequestCleans'. -/
def requestCleansCard : Claim7 := { stood := { row := requestCleansRow, standIns := [], harness := (true, "6d7a625334907d4a0395652b2463dbade3ca510f2408d6457135bf693e60b542"), looks := true }, kinds := [], alts := [], laidByText := true, laidKinds := [.data, .data, .data, .data, .sentinel, .sentinel, .data, .data, .pinned, .pinned], laidTests := true, laidLooks := .later }
def RequestCleansCardSaid : Prop := Claim7.holds Tryz.pinned (.plain (OpenSpec.ofChange requestCleansSpec)) requestCleansCard

/-- THE TIED CARD OF 'spillwaylaw08.ChunksEncodes'. -/
def chunksEncodesCard : Claim7 := { stood := { row := chunksEncodesRow, standIns := [], harness := (true, "6d7a625334907d4a0395652b2463dbade3ca510f2408d6457135bf693e60b542"), looks := true }, kinds := [], alts := [], laidByText := true, laidKinds := [.data, .data, .data, .data, .sentinel, .sentinel, .pinned], laidTests := true, laidLooks := .later }
def ChunksEncodesCardSaid : Prop := Claim7.holds Tryz.pinned (.plain (OpenSpec.ofChange chunksEncodesSpec)) chunksEncodesCard

/-- THE TIED CARD OF 'spillwaylaw09.ResponseKnown'. -/
def responseKnownCard : Claim7 := { stood := { row := responseKnownRow, standIns := [], harness := (true, "6d7a625334907d4a0395652b2463dbade3ca510f2408d6457135bf693e60b542"), looks := true }, kinds := [], alts := [], laidByText := true, laidKinds := [.data, .data, .data, .data, .sentinel, .sentinel, .pinned], laidTests := true, laidLooks := .later }
def ResponseKnownCardSaid : Prop := Claim7.holds Tryz.pinned (.plain (OpenSpec.ofChange responseKnownSpec)) responseKnownCard

/-- THE SECOND FORM's CARD OF 'spillwaylaw07.RequestChecks'. -/
def requestChecksUptoCard : Claim7 := { stood := { row := requestChecksUptoRow, standIns := [], harness := (true, "6d7a625334907d4a0395652b2463dbade3ca510f2408d6457135bf693e60b542"), looks := true }, kinds := [], alts := [], laidByText := true, laidKinds := [.data, .data, .data, .data, .sentinel, .sentinel, .data, .data, .pinned, .pinned], laidTests := true, laidLooks := .later }
def RequestChecksUptoCardSaid : Prop := Claim7.holds Tryz.pinned (.plain (OpenSpec.upto requestChecksSpec)) requestChecksUptoCard

/-- THE SECOND FORM's CARD OF 'spillwaylaw07.RequestCleans'. -/
def requestCleansUptoCard : Claim7 := { stood := { row := requestCleansUptoRow, standIns := [], harness := (true, "6d7a625334907d4a0395652b2463dbade3ca510f2408d6457135bf693e60b542"), looks := true }, kinds := [], alts := [], laidByText := true, laidKinds := [.data, .data, .data, .data, .sentinel, .sentinel, .data, .data, .pinned, .pinned], laidTests := true, laidLooks := .later }
def RequestCleansUptoCardSaid : Prop := Claim7.holds Tryz.pinned (.plain (OpenSpec.upto requestCleansSpec)) requestCleansUptoCard

/-- THE SECOND FORM's CARD OF 'spillwaylaw08.ChunksEncodes'. -/
def chunksEncodesUptoCard : Claim7 := { stood := { row := chunksEncodesUptoRow, standIns := [], harness := (true, "6d7a625334907d4a0395652b2463dbade3ca510f2408d6457135bf693e60b542"), looks := true }, kinds := [], alts := [], laidByText := true, laidKinds := [.data, .data, .data, .data, .sentinel, .sentinel, .pinned], laidTests := true, laidLooks := .later }
def ChunksEncodesUptoCardSaid : Prop := Claim7.holds Tryz.pinned (.plain (OpenSpec.upto chunksEncodesSpec)) chunksEncodesUptoCard

/-- THE SECOND FORM's CARD OF 'spillwaylaw09.ResponseKnown'. -/
def responseKnownUptoCard : Claim7 := { stood := { row := responseKnownUptoRow, standIns := [], harness := (true, "6d7a625334907d4a0395652b2463dbade3ca510f2408d6457135bf693e60b542"), looks := true }, kinds := [], alts := [], laidByText := true, laidKinds := [.data, .data, .data, .data, .sentinel, .sentinel, .pinned], laidTests := true, laidLooks := .later }
def ResponseKnownUptoCardSaid : Prop := Claim7.holds Tryz.pinned (.plain (OpenSpec.upto responseKnownSpec)) responseKnownUptoCard
end Rows
end Go.Proofs.YtjjlnehilcnheaaGreatDoor
