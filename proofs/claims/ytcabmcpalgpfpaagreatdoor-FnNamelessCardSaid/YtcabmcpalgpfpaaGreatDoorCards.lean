/-
  DERIVED. GIVEN WITH THE SEED: THE CARDS: each row of YtcabmcpalgpfpaaGreatDoorRows.lean that lists a variable, with what it lists TIED to the program's text (the seventh form; the later family's looks); each row that meets fmt, with fmt's text TOLD by the authors' own Lean function (tested against real Go, not proved from fmt's source: count such statements apart). THE CARD IS WHAT COUNTS. Prove the row's statement (the work); the ties are given (YtcabmcpalgpfpaaGreatDoorTie.lean); close each card by the builder's one call (the guide's Derived/Test/ToyasCard.lean, 'card_holds'). Laid BY PROGRAM, IN A SANDBOX (cutbox-door.mjs). By AI agents, Wed Nov 11 2026. No macro, syntax, notation, axiom, sorry.
-/
import Derived.Test.YtcabmcpalgpfpaaGreatDoorRows
import GoSem.ClaimSeven
namespace Go.Proofs.YtcabmcpalgpfpaaGreatDoor
namespace Rows

/-- THE TIED CARD OF 'laws.FnNameless'. -/
def fnNamelessCard : Claim7 := { stood := { row := fnNamelessRow, standIns := [], harness := (true, "577c540f3b852b04949574110ae16babe44ee3872b462881c1c9a3929d0abb90"), looks := true }, kinds := [], alts := [], laidByText := true, laidKinds := [.data, .data, .data], laidTests := true, laidLooks := .later }
def FnNamelessCardSaid : Prop := Claim7.holds Tryz.pinned (.plain (OpenSpec.ofChange fnNamelessSpec)) fnNamelessCard

/-- THE SECOND FORM's CARD OF 'laws.FnNameless'. -/
def fnNamelessUptoCard : Claim7 := { stood := { row := fnNamelessUptoRow, standIns := [], harness := (true, "577c540f3b852b04949574110ae16babe44ee3872b462881c1c9a3929d0abb90"), looks := true }, kinds := [], alts := [], laidByText := true, laidKinds := [.data, .data, .data], laidTests := true, laidLooks := .later }
def FnNamelessUptoCardSaid : Prop := Claim7.holds Tryz.pinned (.plain (OpenSpec.upto fnNamelessSpec)) fnNamelessUptoCard
end Rows
end Go.Proofs.YtcabmcpalgpfpaaGreatDoor
