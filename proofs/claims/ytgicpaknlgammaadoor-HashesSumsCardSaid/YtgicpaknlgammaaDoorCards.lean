/-
  DERIVED. GIVEN WITH THE SEED: THE CARDS: each row of YtgicpaknlgammaaDoorRows.lean that lists a variable, with what it lists TIED to the program's text (the seventh form; the later family's looks); each row that meets fmt, with fmt's text TOLD by the authors' own Lean function (tested against real Go, not proved from fmt's source: count such statements apart). THE CARD IS WHAT COUNTS. Prove the row's statement (the work); the ties are given (YtgicpaknlgammaaDoorTie.lean); close each card by the builder's one call (the guide's Derived/Test/ToyasCard.lean, 'card_holds'). Laid BY PROGRAM, IN A SANDBOX (cutbox-door.mjs). By AI agents, Wed Nov 11 2026. No macro, syntax, notation, axiom, sorry.
-/
import Derived.Test.YtgicpaknlgammaaDoorRows
import GoSem.ClaimSeven
namespace Go.Proofs.YtgicpaknlgammaaDoor
namespace Rows

/-- THE TIED CARD OF 'spillwaylaw11.HashesSums'. -/
def hashesSumsCard : Claim7 := { stood := { row := hashesSumsRow, standIns := [], harness := (true, "2066522543a192f156e8efa50b32ab074dd27dfc3b56f665fac26b2ad6d0de33"), looks := false }, kinds := [], alts := [], laidByText := true, laidKinds := [.data, .data, .data], laidTests := true, laidLooks := .later }
def HashesSumsCardSaid : Prop := Claim7.holds Tryd.pinned (.plain (OpenSpec.ofChange hashesSumsSpec)) hashesSumsCard

/-- THE TIED CARD OF 'spillwaylaw11.HashesIdle'. -/
def hashesIdleCard : Claim7 := { stood := { row := hashesIdleRow, standIns := [], harness := (true, "2066522543a192f156e8efa50b32ab074dd27dfc3b56f665fac26b2ad6d0de33"), looks := false }, kinds := [], alts := [], laidByText := true, laidKinds := [.data, .data, .data], laidTests := true, laidLooks := .later }
def HashesIdleCardSaid : Prop := Claim7.holds Tryd.pinned (.plain (OpenSpec.ofChange hashesIdleSpec)) hashesIdleCard

/-- THE SECOND FORM's CARD OF 'spillwaylaw11.HashesSums'. -/
def hashesSumsUptoCard : Claim7 := { stood := { row := hashesSumsUptoRow, standIns := [], harness := (true, "2066522543a192f156e8efa50b32ab074dd27dfc3b56f665fac26b2ad6d0de33"), looks := false }, kinds := [], alts := [], laidByText := true, laidKinds := [.data, .data, .data], laidTests := true, laidLooks := .later }
def HashesSumsUptoCardSaid : Prop := Claim7.holds Tryd.pinned (.plain (OpenSpec.upto hashesSumsSpec)) hashesSumsUptoCard

/-- THE SECOND FORM's CARD OF 'spillwaylaw11.HashesIdle'. -/
def hashesIdleUptoCard : Claim7 := { stood := { row := hashesIdleUptoRow, standIns := [], harness := (true, "2066522543a192f156e8efa50b32ab074dd27dfc3b56f665fac26b2ad6d0de33"), looks := false }, kinds := [], alts := [], laidByText := true, laidKinds := [.data, .data, .data], laidTests := true, laidLooks := .later }
def HashesIdleUptoCardSaid : Prop := Claim7.holds Tryd.pinned (.plain (OpenSpec.upto hashesIdleSpec)) hashesIdleUptoCard
end Rows
end Go.Proofs.YtgicpaknlgammaaDoor
