/-
  DERIVED. GIVEN WITH THE SEED: THE CARDS: each row of YtkhdghbjififnaaDoorRows.lean that lists a variable, with what it lists TIED to the program's text (the seventh form; the later family's looks); each row that meets fmt, with fmt's text TOLD by the authors' own Lean function (tested against real Go, not proved from fmt's source: count such statements apart). THE CARD IS WHAT COUNTS. Prove the row's statement (the work); the ties are given (YtkhdghbjififnaaDoorTie.lean); close each card by the builder's one call (the guide's Derived/Test/ToyasCard.lean, 'card_holds'). Laid BY PROGRAM, IN A SANDBOX (cutbox-door.mjs). By AI agents, Wed Nov 11 2026. No macro, syntax, notation, axiom, sorry.
-/
import Derived.Test.YtkhdghbjififnaaDoorRows
import GoSem.ClaimSeven
namespace Go.Proofs.YtkhdghbjififnaaDoor
namespace Rows

/-- THE TIED CARD OF 'laws.FnExactNameless'. -/
def fnExactNamelessCard : Claim7 := { stood := { row := fnExactNamelessRow, standIns := [], harness := (true, "7c328d8cd18cef966bd875e634946a5c037bb007dbdce4aafbb1ea7330fa9742"), looks := true }, kinds := [], alts := [], laidByText := true, laidKinds := [.data, .data, .data], laidTests := true, laidLooks := .later }
def FnExactNamelessCardSaid : Prop := Claim7.holds Tryd.pinned (.plain (OpenSpec.ofChange fnExactNamelessSpec)) fnExactNamelessCard

/-- THE SECOND FORM's CARD OF 'laws.FnExactNameless'. -/
def fnExactNamelessUptoCard : Claim7 := { stood := { row := fnExactNamelessUptoRow, standIns := [], harness := (true, "7c328d8cd18cef966bd875e634946a5c037bb007dbdce4aafbb1ea7330fa9742"), looks := true }, kinds := [], alts := [], laidByText := true, laidKinds := [.data, .data, .data], laidTests := true, laidLooks := .later }
def FnExactNamelessUptoCardSaid : Prop := Claim7.holds Tryd.pinned (.plain (OpenSpec.upto fnExactNamelessSpec)) fnExactNamelessUptoCard
end Rows
end Go.Proofs.YtkhdghbjififnaaDoor
