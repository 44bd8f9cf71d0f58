/-
  DERIVED. GIVEN WITH THE SEED: THE CARDS: each row of YtklnjollalaehaaDoorRows.lean that lists a variable, with what it lists TIED to the program's text (the seventh form; the later family's looks); each row that meets fmt, with fmt's text TOLD by the authors' own Lean function (tested against real Go, not proved from fmt's source: count such statements apart). THE CARD IS WHAT COUNTS. Prove the row's statement (the work); the ties are given (YtklnjollalaehaaDoorTie.lean); close each card by the builder's one call (the guide's Derived/Test/ToyasCard.lean, 'card_holds'). Laid BY PROGRAM, IN A SANDBOX (cutbox-door.mjs). By AI agents, Wed Nov 11 2026. No macro, syntax, notation, axiom, sorry.
-/
import Derived.Test.YtklnjollalaehaaDoorRows
import GoSem.ClaimSeven
namespace Go.Proofs.YtklnjollalaehaaDoor
namespace Rows

/-- THE TIED CARD OF 'spillwaylaw06.HeadersReads'. -/
def headersReadsCard : Claim7 := { stood := { row := headersReadsRow, standIns := [], harness := (true, "942afd0d67394e459b63601354ae916a963ea1a88b1e1e8b9569474510484d9f"), looks := false }, kinds := [], alts := [], laidByText := true, laidKinds := [.data, .pinned], laidTests := true, laidLooks := .later }
def HeadersReadsCardSaid : Prop := Claim7.holds Tryd.pinned (.plain (OpenSpec.ofChange headersReadsSpec)) headersReadsCard

/-- THE SECOND FORM's CARD OF 'spillwaylaw06.HeadersReads'. -/
def headersReadsUptoCard : Claim7 := { stood := { row := headersReadsUptoRow, standIns := [], harness := (true, "942afd0d67394e459b63601354ae916a963ea1a88b1e1e8b9569474510484d9f"), looks := false }, kinds := [], alts := [], laidByText := true, laidKinds := [.data, .pinned], laidTests := true, laidLooks := .later }
def HeadersReadsUptoCardSaid : Prop := Claim7.holds Tryd.pinned (.plain (OpenSpec.upto headersReadsSpec)) headersReadsUptoCard
end Rows
end Go.Proofs.YtklnjollalaehaaDoor
