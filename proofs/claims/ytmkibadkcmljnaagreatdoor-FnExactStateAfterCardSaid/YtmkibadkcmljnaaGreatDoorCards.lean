/-
  DERIVED. GIVEN WITH THE SEED: THE CARDS: each row of YtmkibadkcmljnaaGreatDoorRows.lean that lists a variable, with what it lists TIED to the program's text (the seventh form; the later family's looks); each row that meets fmt, with fmt's text TOLD by the authors' own Lean function (tested against real Go, not proved from fmt's source: count such statements apart). THE CARD IS WHAT COUNTS. Prove the row's statement (the work); the ties are given (YtmkibadkcmljnaaGreatDoorTie.lean); close each card by the builder's one call (the guide's Derived/Test/ToyasCard.lean, 'card_holds'). Laid BY PROGRAM, IN A SANDBOX (cutbox-door.mjs). By AI agents, Wed Nov 11 2026. No macro, syntax, notation, axiom, sorry.
-/
import Derived.Test.YtmkibadkcmljnaaGreatDoorRows
import GoSem.ClaimSeven
namespace Go.Proofs.YtmkibadkcmljnaaGreatDoor
namespace Rows

/-- THE TIED CARD OF 'laws.FnExactStepOf'. -/
def fnExactStepOfCard : Claim7 := { stood := { row := fnExactStepOfRow, standIns := [], harness := (true, "96cc8aef5233346cb1e4597119346a829c5b005df54231d06747f0e831928492"), looks := true }, kinds := [], alts := [], laidByText := true, laidKinds := [.data, .data, .data], laidTests := true, laidLooks := .later }
def FnExactStepOfCardSaid : Prop := Claim7.holds Tryz.pinned (.plain (OpenSpec.ofChange fnExactStepOfSpec)) fnExactStepOfCard

/-- THE TIED CARD OF 'laws.FnExactStateAfter'. -/
def fnExactStateAfterCard : Claim7 := { stood := { row := fnExactStateAfterRow, standIns := [], harness := (true, "96cc8aef5233346cb1e4597119346a829c5b005df54231d06747f0e831928492"), looks := true }, kinds := [], alts := [], laidByText := true, laidKinds := [.data, .data, .data], laidTests := true, laidLooks := .later }
def FnExactStateAfterCardSaid : Prop := Claim7.holds Tryz.pinned (.plain (OpenSpec.ofChange fnExactStateAfterSpec)) fnExactStateAfterCard

/-- THE TIED CARD OF 'laws.FnExactRunByPutting'. -/
def fnExactRunByPuttingCard : Claim7 := { stood := { row := fnExactRunByPuttingRow, standIns := [], harness := (true, "96cc8aef5233346cb1e4597119346a829c5b005df54231d06747f0e831928492"), looks := true }, kinds := [], alts := [], laidByText := true, laidKinds := [.data, .data, .data], laidTests := true, laidLooks := .later }
def FnExactRunByPuttingCardSaid : Prop := Claim7.holds Tryz.pinned (.plain (OpenSpec.ofChange fnExactRunByPuttingSpec)) fnExactRunByPuttingCard

/-- THE TIED CARD OF 'laws.FnExactCountPuts'. -/
def fnExactCountPutsCard : Claim7 := { stood := { row := fnExactCountPutsRow, standIns := [], harness := (true, "96cc8aef5233346cb1e4597119346a829c5b005df54231d06747f0e831928492"), looks := true }, kinds := [], alts := [], laidByText := true, laidKinds := [.data, .data, .data], laidTests := true, laidLooks := .later }
def FnExactCountPutsCardSaid : Prop := Claim7.holds Tryz.pinned (.plain (OpenSpec.ofChange fnExactCountPutsSpec)) fnExactCountPutsCard

/-- THE TIED CARD OF 'laws.FnExactLastState'. -/
def fnExactLastStateCard : Claim7 := { stood := { row := fnExactLastStateRow, standIns := [], harness := (true, "96cc8aef5233346cb1e4597119346a829c5b005df54231d06747f0e831928492"), looks := true }, kinds := [], alts := [], laidByText := true, laidKinds := [.data, .data, .data], laidTests := true, laidLooks := .later }
def FnExactLastStateCardSaid : Prop := Claim7.holds Tryz.pinned (.plain (OpenSpec.ofChange fnExactLastStateSpec)) fnExactLastStateCard

/-- THE SECOND FORM's CARD OF 'laws.FnExactStepOf'. -/
def fnExactStepOfUptoCard : Claim7 := { stood := { row := fnExactStepOfUptoRow, standIns := [], harness := (true, "96cc8aef5233346cb1e4597119346a829c5b005df54231d06747f0e831928492"), looks := true }, kinds := [], alts := [], laidByText := true, laidKinds := [.data, .data, .data], laidTests := true, laidLooks := .later }
def FnExactStepOfUptoCardSaid : Prop := Claim7.holds Tryz.pinned (.plain (OpenSpec.upto fnExactStepOfSpec)) fnExactStepOfUptoCard

/-- THE SECOND FORM's CARD OF 'laws.FnExactStateAfter'. -/
def fnExactStateAfterUptoCard : Claim7 := { stood := { row := fnExactStateAfterUptoRow, standIns := [], harness := (true, "96cc8aef5233346cb1e4597119346a829c5b005df54231d06747f0e831928492"), looks := true }, kinds := [], alts := [], laidByText := true, laidKinds := [.data, .data, .data], laidTests := true, laidLooks := .later }
def FnExactStateAfterUptoCardSaid : Prop := Claim7.holds Tryz.pinned (.plain (OpenSpec.upto fnExactStateAfterSpec)) fnExactStateAfterUptoCard

/-- THE SECOND FORM's CARD OF 'laws.FnExactRunByPutting'. -/
def fnExactRunByPuttingUptoCard : Claim7 := { stood := { row := fnExactRunByPuttingUptoRow, standIns := [], harness := (true, "96cc8aef5233346cb1e4597119346a829c5b005df54231d06747f0e831928492"), looks := true }, kinds := [], alts := [], laidByText := true, laidKinds := [.data, .data, .data], laidTests := true, laidLooks := .later }
def FnExactRunByPuttingUptoCardSaid : Prop := Claim7.holds Tryz.pinned (.plain (OpenSpec.upto fnExactRunByPuttingSpec)) fnExactRunByPuttingUptoCard

/-- THE SECOND FORM's CARD OF 'laws.FnExactCountPuts'. -/
def fnExactCountPutsUptoCard : Claim7 := { stood := { row := fnExactCountPutsUptoRow, standIns := [], harness := (true, "96cc8aef5233346cb1e4597119346a829c5b005df54231d06747f0e831928492"), looks := true }, kinds := [], alts := [], laidByText := true, laidKinds := [.data, .data, .data], laidTests := true, laidLooks := .later }
def FnExactCountPutsUptoCardSaid : Prop := Claim7.holds Tryz.pinned (.plain (OpenSpec.upto fnExactCountPutsSpec)) fnExactCountPutsUptoCard

/-- THE SECOND FORM's CARD OF 'laws.FnExactLastState'. -/
def fnExactLastStateUptoCard : Claim7 := { stood := { row := fnExactLastStateUptoRow, standIns := [], harness := (true, "96cc8aef5233346cb1e4597119346a829c5b005df54231d06747f0e831928492"), looks := true }, kinds := [], alts := [], laidByText := true, laidKinds := [.data, .data, .data], laidTests := true, laidLooks := .later }
def FnExactLastStateUptoCardSaid : Prop := Claim7.holds Tryz.pinned (.plain (OpenSpec.upto fnExactLastStateSpec)) fnExactLastStateUptoCard
end Rows
end Go.Proofs.YtmkibadkcmljnaaGreatDoor
