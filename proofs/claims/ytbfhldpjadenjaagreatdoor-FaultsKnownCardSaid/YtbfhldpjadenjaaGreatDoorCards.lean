/-
  DERIVED. GIVEN WITH THE SEED: THE CARDS: each row of YtbfhldpjadenjaaGreatDoorRows.lean that lists a variable, with what it lists TIED to the program's text (the seventh form; the later family's looks); each row that meets fmt, with fmt's text TOLD by the authors' own Lean function (tested against real Go, not proved from fmt's source: count such statements apart). THE CARD IS WHAT COUNTS. Prove the row's statement (the work); the ties are given (YtbfhldpjadenjaaGreatDoorTie.lean); close each card by the builder's one call (the guide's Derived/Test/ToyasCard.lean, 'card_holds'). Laid BY PROGRAM, IN A SANDBOX (cutbox-door.mjs). By AI agents, Wed Nov 11 2026. No macro, syntax, notation, axiom, sorry.
-/
import Derived.Test.YtbfhldpjadenjaaGreatDoorRows
import GoSem.ClaimSeven
namespace Go.Proofs.YtbfhldpjadenjaaGreatDoor
namespace Rows

/-- THE TIED CARD OF 'spillwaylaw03.FaultsKnown'. -/
def faultsKnownCard : Claim7 := { stood := { row := faultsKnownRow, standIns := [], harness := (true, "3df4be81ae1e09aa6dbf5360b9c73ead100727ef6e6fe132d337d5188e65a6bf"), looks := true }, kinds := [], alts := [], laidByText := true, laidKinds := [.data, .data, .data, .data, .handle, .sentinel, .sentinel, .data, .pinned], laidTests := true, laidLooks := .later }
def FaultsKnownCardSaid : Prop := Claim7.holds Tryz.pinned (.plain (OpenSpec.ofChange faultsKnownSpec)) faultsKnownCard

/-- THE SECOND FORM's CARD OF 'spillwaylaw03.FaultsKnown'. -/
def faultsKnownUptoCard : Claim7 := { stood := { row := faultsKnownUptoRow, standIns := [], harness := (true, "3df4be81ae1e09aa6dbf5360b9c73ead100727ef6e6fe132d337d5188e65a6bf"), looks := true }, kinds := [], alts := [], laidByText := true, laidKinds := [.data, .data, .data, .data, .handle, .sentinel, .sentinel, .data, .pinned], laidTests := true, laidLooks := .later }
def FaultsKnownUptoCardSaid : Prop := Claim7.holds Tryz.pinned (.plain (OpenSpec.upto faultsKnownSpec)) faultsKnownUptoCard
end Rows
end Go.Proofs.YtbfhldpjadenjaaGreatDoor
