/-
  DERIVED. GIVEN WITH THE SEED: THE CARDS: each row of YthjhpfcilaghgaaGreatDoorRows.lean that lists a variable, with what it lists TIED to the program's text (the seventh form; the later family's looks); each row that meets fmt, with fmt's text TOLD by the authors' own Lean function (tested against real Go, not proved from fmt's source: count such statements apart). THE CARD IS WHAT COUNTS. Prove the row's statement (the work); the ties are given (YthjhpfcilaghgaaGreatDoorTie.lean); close each card by the builder's one call (the guide's Derived/Test/ToyasCard.lean, 'card_holds'). Laid BY PROGRAM, IN A SANDBOX (cutbox-door.mjs). By AI agents, Wed Nov 11 2026. No macro, syntax, notation, axiom, sorry.
-/
import Derived.Test.YthjhpfcilaghgaaGreatDoorRows
import GoSem.ClaimSeven
namespace Go.Proofs.YthjhpfcilaghgaaGreatDoor
namespace Rows

/-- THE TIED CARD OF 'laws.FnExactRunTerm'. -/
def fnExactRunTermCard : Claim7 := { stood := { row := fnExactRunTermRow, standIns := [], harness := (true, "766b9393653d1c6b09c42753e845d83e450bd44efbcdaefeb221de00770fee0d"), looks := true }, kinds := [], alts := [], laidByText := true, laidKinds := [.handle], laidTests := true, laidLooks := .later }
def FnExactRunTermCardSaid : Prop := Claim7.holds Tryz.pinned (.plain (OpenSpec.ofChange fnExactRunTermSpec)) fnExactRunTermCard

/-- THE TIED CARD OF 'laws.FnExactCountTerm'. -/
def fnExactCountTermCard : Claim7 := { stood := { row := fnExactCountTermRow, standIns := [], harness := (true, "766b9393653d1c6b09c42753e845d83e450bd44efbcdaefeb221de00770fee0d"), looks := true }, kinds := [], alts := [], laidByText := true, laidKinds := [.handle], laidTests := true, laidLooks := .later }
def FnExactCountTermCardSaid : Prop := Claim7.holds Tryz.pinned (.plain (OpenSpec.ofChange fnExactCountTermSpec)) fnExactCountTermCard

/-- THE TIED CARD OF 'laws.FnExactRunWith'. -/
def fnExactRunWithCard : Claim7 := { stood := { row := fnExactRunWithRow, standIns := [], harness := (true, "766b9393653d1c6b09c42753e845d83e450bd44efbcdaefeb221de00770fee0d"), looks := true }, kinds := [], alts := [], laidByText := true, laidKinds := [.handle], laidTests := true, laidLooks := .later }
def FnExactRunWithCardSaid : Prop := Claim7.holds Tryz.pinned (.plain (OpenSpec.ofChange fnExactRunWithSpec)) fnExactRunWithCard

/-- THE TIED CARD OF 'laws.FnExactSameRun'. -/
def fnExactSameRunCard : Claim7 := { stood := { row := fnExactSameRunRow, standIns := [], harness := (true, "766b9393653d1c6b09c42753e845d83e450bd44efbcdaefeb221de00770fee0d"), looks := true }, kinds := [], alts := [], laidByText := true, laidKinds := [.handle], laidTests := true, laidLooks := .later }
def FnExactSameRunCardSaid : Prop := Claim7.holds Tryz.pinned (.plain (OpenSpec.ofChange fnExactSameRunSpec)) fnExactSameRunCard

/-- THE TIED CARD OF 'laws.FnExactCallsIn'. -/
def fnExactCallsInCard : Claim7 := { stood := { row := fnExactCallsInRow, standIns := [], harness := (true, "766b9393653d1c6b09c42753e845d83e450bd44efbcdaefeb221de00770fee0d"), looks := true }, kinds := [], alts := [], laidByText := true, laidKinds := [.handle], laidTests := true, laidLooks := .later }
def FnExactCallsInCardSaid : Prop := Claim7.holds Tryz.pinned (.plain (OpenSpec.ofChange fnExactCallsInSpec)) fnExactCallsInCard

/-- THE TIED CARD OF 'laws.FnExactIsUsed'. -/
def fnExactIsUsedCard : Claim7 := { stood := { row := fnExactIsUsedRow, standIns := [], harness := (true, "766b9393653d1c6b09c42753e845d83e450bd44efbcdaefeb221de00770fee0d"), looks := true }, kinds := [], alts := [], laidByText := true, laidKinds := [.handle], laidTests := true, laidLooks := .later }
def FnExactIsUsedCardSaid : Prop := Claim7.holds Tryz.pinned (.plain (OpenSpec.ofChange fnExactIsUsedSpec)) fnExactIsUsedCard

/-- THE SECOND FORM's CARD OF 'laws.FnExactRunTerm'. -/
def fnExactRunTermUptoCard : Claim7 := { stood := { row := fnExactRunTermUptoRow, standIns := [], harness := (true, "766b9393653d1c6b09c42753e845d83e450bd44efbcdaefeb221de00770fee0d"), looks := true }, kinds := [], alts := [], laidByText := true, laidKinds := [.handle], laidTests := true, laidLooks := .later }
def FnExactRunTermUptoCardSaid : Prop := Claim7.holds Tryz.pinned (.plain (OpenSpec.upto fnExactRunTermSpec)) fnExactRunTermUptoCard

/-- THE SECOND FORM's CARD OF 'laws.FnExactCountTerm'. -/
def fnExactCountTermUptoCard : Claim7 := { stood := { row := fnExactCountTermUptoRow, standIns := [], harness := (true, "766b9393653d1c6b09c42753e845d83e450bd44efbcdaefeb221de00770fee0d"), looks := true }, kinds := [], alts := [], laidByText := true, laidKinds := [.handle], laidTests := true, laidLooks := .later }
def FnExactCountTermUptoCardSaid : Prop := Claim7.holds Tryz.pinned (.plain (OpenSpec.upto fnExactCountTermSpec)) fnExactCountTermUptoCard

/-- THE SECOND FORM's CARD OF 'laws.FnExactRunWith'. -/
def fnExactRunWithUptoCard : Claim7 := { stood := { row := fnExactRunWithUptoRow, standIns := [], harness := (true, "766b9393653d1c6b09c42753e845d83e450bd44efbcdaefeb221de00770fee0d"), looks := true }, kinds := [], alts := [], laidByText := true, laidKinds := [.handle], laidTests := true, laidLooks := .later }
def FnExactRunWithUptoCardSaid : Prop := Claim7.holds Tryz.pinned (.plain (OpenSpec.upto fnExactRunWithSpec)) fnExactRunWithUptoCard

/-- THE SECOND FORM's CARD OF 'laws.FnExactSameRun'. -/
def fnExactSameRunUptoCard : Claim7 := { stood := { row := fnExactSameRunUptoRow, standIns := [], harness := (true, "766b9393653d1c6b09c42753e845d83e450bd44efbcdaefeb221de00770fee0d"), looks := true }, kinds := [], alts := [], laidByText := true, laidKinds := [.handle], laidTests := true, laidLooks := .later }
def FnExactSameRunUptoCardSaid : Prop := Claim7.holds Tryz.pinned (.plain (OpenSpec.upto fnExactSameRunSpec)) fnExactSameRunUptoCard

/-- THE SECOND FORM's CARD OF 'laws.FnExactCallsIn'. -/
def fnExactCallsInUptoCard : Claim7 := { stood := { row := fnExactCallsInUptoRow, standIns := [], harness := (true, "766b9393653d1c6b09c42753e845d83e450bd44efbcdaefeb221de00770fee0d"), looks := true }, kinds := [], alts := [], laidByText := true, laidKinds := [.handle], laidTests := true, laidLooks := .later }
def FnExactCallsInUptoCardSaid : Prop := Claim7.holds Tryz.pinned (.plain (OpenSpec.upto fnExactCallsInSpec)) fnExactCallsInUptoCard

/-- THE SECOND FORM's CARD OF 'laws.FnExactIsUsed'. -/
def fnExactIsUsedUptoCard : Claim7 := { stood := { row := fnExactIsUsedUptoRow, standIns := [], harness := (true, "766b9393653d1c6b09c42753e845d83e450bd44efbcdaefeb221de00770fee0d"), looks := true }, kinds := [], alts := [], laidByText := true, laidKinds := [.handle], laidTests := true, laidLooks := .later }
def FnExactIsUsedUptoCardSaid : Prop := Claim7.holds Tryz.pinned (.plain (OpenSpec.upto fnExactIsUsedSpec)) fnExactIsUsedUptoCard
end Rows
end Go.Proofs.YthjhpfcilaghgaaGreatDoor
