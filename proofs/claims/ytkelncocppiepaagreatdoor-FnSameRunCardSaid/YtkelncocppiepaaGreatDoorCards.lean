/-
  DERIVED. GIVEN WITH THE SEED: THE CARDS: each row of YtkelncocppiepaaGreatDoorRows.lean that lists a variable, with what it lists TIED to the program's text (the seventh form; the later family's looks); each row that meets fmt, with fmt's text TOLD by the authors' own Lean function (tested against real Go, not proved from fmt's source: count such statements apart). THE CARD IS WHAT COUNTS. Prove the row's statement (the work); the ties are given (YtkelncocppiepaaGreatDoorTie.lean); close each card by the builder's one call (the guide's Derived/Test/ToyasCard.lean, 'card_holds'). Laid BY PROGRAM, IN A SANDBOX (cutbox-door.mjs). By AI agents, Wed Nov 11 2026. No macro, syntax, notation, axiom, sorry.
-/
import Derived.Test.YtkelncocppiepaaGreatDoorRows
import GoSem.ClaimSeven
namespace Go.Proofs.YtkelncocppiepaaGreatDoor
namespace Rows

/-- THE TIED CARD OF 'laws.FnSameRun'. -/
def fnSameRunCard : Claim7 := { stood := { row := fnSameRunRow, standIns := [], harness := (true, "50f18ecf5aa837715277867d06b4e92b782df39ae1e27736e5043812be8aaff3"), looks := true }, kinds := [], alts := [], laidByText := true, laidKinds := [.handle], laidTests := true, laidLooks := .later }
def FnSameRunCardSaid : Prop := Claim7.holds Tryz.pinned (.plain (OpenSpec.ofChange fnSameRunSpec)) fnSameRunCard

/-- THE SECOND FORM's CARD OF 'laws.FnSameRun'. -/
def fnSameRunUptoCard : Claim7 := { stood := { row := fnSameRunUptoRow, standIns := [], harness := (true, "50f18ecf5aa837715277867d06b4e92b782df39ae1e27736e5043812be8aaff3"), looks := true }, kinds := [], alts := [], laidByText := true, laidKinds := [.handle], laidTests := true, laidLooks := .later }
def FnSameRunUptoCardSaid : Prop := Claim7.holds Tryz.pinned (.plain (OpenSpec.upto fnSameRunSpec)) fnSameRunUptoCard
end Rows
end Go.Proofs.YtkelncocppiepaaGreatDoor
