/-
  DERIVED. GIVEN WITH THE SEED: THE CARDS: each row of YthjhpfcilaghgaaDoorRows.lean that lists a variable, with what it lists TIED to the program's text (the seventh form; the later family's looks); each row that meets fmt, with fmt's text TOLD by the authors' own Lean function (tested against real Go, not proved from fmt's source: count such statements apart). THE CARD IS WHAT COUNTS. Prove the row's statement (the work); the ties are given (YthjhpfcilaghgaaDoorTie.lean); close each card by the builder's one call (the guide's Derived/Test/ToyasCard.lean, 'card_holds'). Laid BY PROGRAM, IN A SANDBOX (cutbox-door.mjs). By AI agents, Wed Nov 11 2026. No macro, syntax, notation, axiom, sorry.
-/
import Derived.Test.YthjhpfcilaghgaaDoorRows
import GoSem.ClaimSeven
namespace Go.Proofs.YthjhpfcilaghgaaDoor
namespace Rows

/-- THE TIED CARD OF 'laws.FnExactFormatResult'. -/
def fnExactFormatResultCard : Claim7 := { stood := { row := fnExactFormatResultRow, standIns := [], harness := (true, "18b1ffbba6bf4c8ec3ccb5f9e96ba82913cb1868d958f051877d04024a9ad956"), looks := false }, kinds := [], alts := [], laidByText := true, laidKinds := [.data, .data, .data], laidTests := true, laidLooks := .later }
def FnExactFormatResultCardSaid : Prop := Claim7.holds Tryd.pinned (.plain (OpenSpec.ofChange fnExactFormatResultSpec)) fnExactFormatResultCard

/-- THE TIED CARD OF 'laws.FnExactFormatCount'. -/
def fnExactFormatCountCard : Claim7 := { stood := { row := fnExactFormatCountRow, standIns := [], harness := (true, "18b1ffbba6bf4c8ec3ccb5f9e96ba82913cb1868d958f051877d04024a9ad956"), looks := false }, kinds := [], alts := [], laidByText := true, laidKinds := [.data, .data, .data], laidTests := true, laidLooks := .later }
def FnExactFormatCountCardSaid : Prop := Claim7.holds Tryd.pinned (.plain (OpenSpec.ofChange fnExactFormatCountSpec)) fnExactFormatCountCard

/-- THE SECOND FORM's CARD OF 'laws.FnExactFormatResult'. -/
def fnExactFormatResultUptoCard : Claim7 := { stood := { row := fnExactFormatResultUptoRow, standIns := [], harness := (true, "18b1ffbba6bf4c8ec3ccb5f9e96ba82913cb1868d958f051877d04024a9ad956"), looks := false }, kinds := [], alts := [], laidByText := true, laidKinds := [.data, .data, .data], laidTests := true, laidLooks := .later }
def FnExactFormatResultUptoCardSaid : Prop := Claim7.holds Tryd.pinned (.plain (OpenSpec.upto fnExactFormatResultSpec)) fnExactFormatResultUptoCard

/-- THE SECOND FORM's CARD OF 'laws.FnExactFormatCount'. -/
def fnExactFormatCountUptoCard : Claim7 := { stood := { row := fnExactFormatCountUptoRow, standIns := [], harness := (true, "18b1ffbba6bf4c8ec3ccb5f9e96ba82913cb1868d958f051877d04024a9ad956"), looks := false }, kinds := [], alts := [], laidByText := true, laidKinds := [.data, .data, .data], laidTests := true, laidLooks := .later }
def FnExactFormatCountUptoCardSaid : Prop := Claim7.holds Tryd.pinned (.plain (OpenSpec.upto fnExactFormatCountSpec)) fnExactFormatCountUptoCard
end Rows
end Go.Proofs.YthjhpfcilaghgaaDoor
