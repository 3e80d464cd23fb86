/-
  DERIVED. GIVEN WITH THE SEED: THE CARDS: each row of YtefmmgccdpfnaaaGreatDoorRows.lean that lists a variable, with what it lists TIED to the program's text (the seventh form; the later family's looks); each row that meets fmt, with fmt's text TOLD by the authors' own Lean function (tested against real Go, not proved from fmt's source: count such statements apart). THE CARD IS WHAT COUNTS. Prove the row's statement (the work); the ties are given (YtefmmgccdpfnaaaGreatDoorTie.lean); close each card by the builder's one call (the guide's Derived/Test/ToyasCard.lean, 'card_holds'). Laid BY PROGRAM, IN A SANDBOX (cutbox-door.mjs). By AI agents, Wed Nov 11 2026. No macro, syntax, notation, axiom, sorry.
-/
import Derived.Test.YtefmmgccdpfnaaaGreatDoorRows
import GoSem.ClaimSeven
namespace Go.Proofs.YtefmmgccdpfnaaaGreatDoor
namespace Rows

/-- THE TIED CARD OF 'laws.FnStep'. -/
def fnStepCard : Claim7 := { stood := { row := fnStepRow, standIns := [], harness := (true, "03faec6fa8087f1d4e536b8d2167c75d562f3fbf03599c55cbfe7fb0f3ba55a3"), looks := true }, kinds := [], alts := [], laidByText := true, laidKinds := [.data, .data, .data], laidTests := true, laidLooks := .later }
def FnStepCardSaid : Prop := Claim7.holds Tryz.pinned (.plain (OpenSpec.ofChange fnStepSpec)) fnStepCard

/-- THE TIED CARD OF 'laws.FnStateAfter'. -/
def fnStateAfterCard : Claim7 := { stood := { row := fnStateAfterRow, standIns := [], harness := (true, "03faec6fa8087f1d4e536b8d2167c75d562f3fbf03599c55cbfe7fb0f3ba55a3"), looks := true }, kinds := [], alts := [], laidByText := true, laidKinds := [.data, .data, .data], laidTests := true, laidLooks := .later }
def FnStateAfterCardSaid : Prop := Claim7.holds Tryz.pinned (.plain (OpenSpec.ofChange fnStateAfterSpec)) fnStateAfterCard

/-- THE TIED CARD OF 'laws.FnLastState'. -/
def fnLastStateCard : Claim7 := { stood := { row := fnLastStateRow, standIns := [], harness := (true, "03faec6fa8087f1d4e536b8d2167c75d562f3fbf03599c55cbfe7fb0f3ba55a3"), looks := true }, kinds := [], alts := [], laidByText := true, laidKinds := [.data, .data, .data], laidTests := true, laidLooks := .later }
def FnLastStateCardSaid : Prop := Claim7.holds Tryz.pinned (.plain (OpenSpec.ofChange fnLastStateSpec)) fnLastStateCard

/-- THE TIED CARD OF 'laws.FnStuck'. -/
def fnStuckCard : Claim7 := { stood := { row := fnStuckRow, standIns := [], harness := (true, "03faec6fa8087f1d4e536b8d2167c75d562f3fbf03599c55cbfe7fb0f3ba55a3"), looks := true }, kinds := [], alts := [], laidByText := true, laidKinds := [.data, .data, .data], laidTests := true, laidLooks := .later }
def FnStuckCardSaid : Prop := Claim7.holds Tryz.pinned (.plain (OpenSpec.ofChange fnStuckSpec)) fnStuckCard

/-- THE TIED CARD OF 'laws.FnDetermined'. -/
def fnDeterminedCard : Claim7 := { stood := { row := fnDeterminedRow, standIns := [], harness := (true, "03faec6fa8087f1d4e536b8d2167c75d562f3fbf03599c55cbfe7fb0f3ba55a3"), looks := true }, kinds := [], alts := [], laidByText := true, laidKinds := [.data, .data, .data], laidTests := true, laidLooks := .later }
def FnDeterminedCardSaid : Prop := Claim7.holds Tryz.pinned (.plain (OpenSpec.ofChange fnDeterminedSpec)) fnDeterminedCard

/-- THE TIED CARD OF 'laws.FnPutsLess'. -/
def fnPutsLessCard : Claim7 := { stood := { row := fnPutsLessRow, standIns := [], harness := (true, "03faec6fa8087f1d4e536b8d2167c75d562f3fbf03599c55cbfe7fb0f3ba55a3"), looks := true }, kinds := [], alts := [], laidByText := true, laidKinds := [.data, .data, .data], laidTests := true, laidLooks := .later }
def FnPutsLessCardSaid : Prop := Claim7.holds Tryz.pinned (.plain (OpenSpec.ofChange fnPutsLessSpec)) fnPutsLessCard

/-- THE SECOND FORM's CARD OF 'laws.FnStep'. -/
def fnStepUptoCard : Claim7 := { stood := { row := fnStepUptoRow, standIns := [], harness := (true, "03faec6fa8087f1d4e536b8d2167c75d562f3fbf03599c55cbfe7fb0f3ba55a3"), looks := true }, kinds := [], alts := [], laidByText := true, laidKinds := [.data, .data, .data], laidTests := true, laidLooks := .later }
def FnStepUptoCardSaid : Prop := Claim7.holds Tryz.pinned (.plain (OpenSpec.upto fnStepSpec)) fnStepUptoCard

/-- THE SECOND FORM's CARD OF 'laws.FnStateAfter'. -/
def fnStateAfterUptoCard : Claim7 := { stood := { row := fnStateAfterUptoRow, standIns := [], harness := (true, "03faec6fa8087f1d4e536b8d2167c75d562f3fbf03599c55cbfe7fb0f3ba55a3"), looks := true }, kinds := [], alts := [], laidByText := true, laidKinds := [.data, .data, .data], laidTests := true, laidLooks := .later }
def FnStateAfterUptoCardSaid : Prop := Claim7.holds Tryz.pinned (.plain (OpenSpec.upto fnStateAfterSpec)) fnStateAfterUptoCard

/-- THE SECOND FORM's CARD OF 'laws.FnLastState'. -/
def fnLastStateUptoCard : Claim7 := { stood := { row := fnLastStateUptoRow, standIns := [], harness := (true, "03faec6fa8087f1d4e536b8d2167c75d562f3fbf03599c55cbfe7fb0f3ba55a3"), looks := true }, kinds := [], alts := [], laidByText := true, laidKinds := [.data, .data, .data], laidTests := true, laidLooks := .later }
def FnLastStateUptoCardSaid : Prop := Claim7.holds Tryz.pinned (.plain (OpenSpec.upto fnLastStateSpec)) fnLastStateUptoCard

/-- THE SECOND FORM's CARD OF 'laws.FnStuck'. -/
def fnStuckUptoCard : Claim7 := { stood := { row := fnStuckUptoRow, standIns := [], harness := (true, "03faec6fa8087f1d4e536b8d2167c75d562f3fbf03599c55cbfe7fb0f3ba55a3"), looks := true }, kinds := [], alts := [], laidByText := true, laidKinds := [.data, .data, .data], laidTests := true, laidLooks := .later }
def FnStuckUptoCardSaid : Prop := Claim7.holds Tryz.pinned (.plain (OpenSpec.upto fnStuckSpec)) fnStuckUptoCard

/-- THE SECOND FORM's CARD OF 'laws.FnDetermined'. -/
def fnDeterminedUptoCard : Claim7 := { stood := { row := fnDeterminedUptoRow, standIns := [], harness := (true, "03faec6fa8087f1d4e536b8d2167c75d562f3fbf03599c55cbfe7fb0f3ba55a3"), looks := true }, kinds := [], alts := [], laidByText := true, laidKinds := [.data, .data, .data], laidTests := true, laidLooks := .later }
def FnDeterminedUptoCardSaid : Prop := Claim7.holds Tryz.pinned (.plain (OpenSpec.upto fnDeterminedSpec)) fnDeterminedUptoCard

/-- THE SECOND FORM's CARD OF 'laws.FnPutsLess'. -/
def fnPutsLessUptoCard : Claim7 := { stood := { row := fnPutsLessUptoRow, standIns := [], harness := (true, "03faec6fa8087f1d4e536b8d2167c75d562f3fbf03599c55cbfe7fb0f3ba55a3"), looks := true }, kinds := [], alts := [], laidByText := true, laidKinds := [.data, .data, .data], laidTests := true, laidLooks := .later }
def FnPutsLessUptoCardSaid : Prop := Claim7.holds Tryz.pinned (.plain (OpenSpec.upto fnPutsLessSpec)) fnPutsLessUptoCard
end Rows
end Go.Proofs.YtefmmgccdpfnaaaGreatDoor
