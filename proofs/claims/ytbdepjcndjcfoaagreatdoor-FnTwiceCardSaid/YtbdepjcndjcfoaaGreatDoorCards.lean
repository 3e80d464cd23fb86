/-
  DERIVED. GIVEN WITH THE SEED: THE CARDS: each row of YtbdepjcndjcfoaaGreatDoorRows.lean that lists a variable, with what it lists TIED to the program's text (the seventh form; the later family's looks); each row that meets fmt, with fmt's text TOLD by the authors' own Lean function (tested against real Go, not proved from fmt's source: count such statements apart). THE CARD IS WHAT COUNTS. Prove the row's statement (the work); the ties are given (YtbdepjcndjcfoaaGreatDoorTie.lean); close each card by the builder's one call (the guide's Derived/Test/ToyasCard.lean, 'card_holds'). Laid BY PROGRAM, IN A SANDBOX (cutbox-door.mjs). By AI agents, Wed Nov 11 2026. No macro, syntax, notation, axiom, sorry.
-/
import Derived.Test.YtbdepjcndjcfoaaGreatDoorRows
import GoSem.ClaimSeven
namespace Go.Proofs.YtbdepjcndjcfoaaGreatDoor
namespace Rows

/-- THE TIED CARD OF 'laws.FnLet'. -/
def fnLetCard : Claim7 := { stood := { row := fnLetRow, standIns := [], harness := (true, "4922391adfbe8212f4deef16a27016fcbfb09915d492d7d3d49177c73cf70bb2"), looks := true }, kinds := [], alts := [], laidByText := true, laidKinds := [.handle], laidTests := true, laidLooks := .later }
def FnLetCardSaid : Prop := Claim7.holds Tryz.pinned (.plain (OpenSpec.ofChange fnLetSpec)) fnLetCard

/-- THE TIED CARD OF 'laws.FnNeverFault'. -/
def fnNeverFaultCard : Claim7 := { stood := { row := fnNeverFaultRow, standIns := [], harness := (true, "4922391adfbe8212f4deef16a27016fcbfb09915d492d7d3d49177c73cf70bb2"), looks := true }, kinds := [], alts := [], laidByText := true, laidKinds := [.handle], laidTests := true, laidLooks := .later }
def FnNeverFaultCardSaid : Prop := Claim7.holds Tryz.pinned (.plain (OpenSpec.ofChange fnNeverFaultSpec)) fnNeverFaultCard

/-- THE TIED CARD OF 'laws.FnSeq'. -/
def fnSeqCard : Claim7 := { stood := { row := fnSeqRow, standIns := [], harness := (true, "4922391adfbe8212f4deef16a27016fcbfb09915d492d7d3d49177c73cf70bb2"), looks := true }, kinds := [], alts := [], laidByText := true, laidKinds := [.handle], laidTests := true, laidLooks := .later }
def FnSeqCardSaid : Prop := Claim7.holds Tryz.pinned (.plain (OpenSpec.ofChange fnSeqSpec)) fnSeqCard

/-- THE TIED CARD OF 'laws.FnChoose'. -/
def fnChooseCard : Claim7 := { stood := { row := fnChooseRow, standIns := [], harness := (true, "4922391adfbe8212f4deef16a27016fcbfb09915d492d7d3d49177c73cf70bb2"), looks := true }, kinds := [], alts := [], laidByText := true, laidKinds := [.handle], laidTests := true, laidLooks := .later }
def FnChooseCardSaid : Prop := Claim7.holds Tryz.pinned (.plain (OpenSpec.ofChange fnChooseSpec)) fnChooseCard

/-- THE TIED CARD OF 'laws.FnTwice'. -/
def fnTwiceCard : Claim7 := { stood := { row := fnTwiceRow, standIns := [], harness := (true, "4922391adfbe8212f4deef16a27016fcbfb09915d492d7d3d49177c73cf70bb2"), looks := true }, kinds := [], alts := [], laidByText := true, laidKinds := [.handle], laidTests := true, laidLooks := .later }
def FnTwiceCardSaid : Prop := Claim7.holds Tryz.pinned (.plain (OpenSpec.ofChange fnTwiceSpec)) fnTwiceCard

/-- THE TIED CARD OF 'laws.FnConst'. -/
def fnConstCard : Claim7 := { stood := { row := fnConstRow, standIns := [], harness := (true, "4922391adfbe8212f4deef16a27016fcbfb09915d492d7d3d49177c73cf70bb2"), looks := true }, kinds := [], alts := [], laidByText := true, laidKinds := [.handle], laidTests := true, laidLooks := .later }
def FnConstCardSaid : Prop := Claim7.holds Tryz.pinned (.plain (OpenSpec.ofChange fnConstSpec)) fnConstCard

/-- THE SECOND FORM's CARD OF 'laws.FnLet'. -/
def fnLetUptoCard : Claim7 := { stood := { row := fnLetUptoRow, standIns := [], harness := (true, "4922391adfbe8212f4deef16a27016fcbfb09915d492d7d3d49177c73cf70bb2"), looks := true }, kinds := [], alts := [], laidByText := true, laidKinds := [.handle], laidTests := true, laidLooks := .later }
def FnLetUptoCardSaid : Prop := Claim7.holds Tryz.pinned (.plain (OpenSpec.upto fnLetSpec)) fnLetUptoCard

/-- THE SECOND FORM's CARD OF 'laws.FnNeverFault'. -/
def fnNeverFaultUptoCard : Claim7 := { stood := { row := fnNeverFaultUptoRow, standIns := [], harness := (true, "4922391adfbe8212f4deef16a27016fcbfb09915d492d7d3d49177c73cf70bb2"), looks := true }, kinds := [], alts := [], laidByText := true, laidKinds := [.handle], laidTests := true, laidLooks := .later }
def FnNeverFaultUptoCardSaid : Prop := Claim7.holds Tryz.pinned (.plain (OpenSpec.upto fnNeverFaultSpec)) fnNeverFaultUptoCard

/-- THE SECOND FORM's CARD OF 'laws.FnSeq'. -/
def fnSeqUptoCard : Claim7 := { stood := { row := fnSeqUptoRow, standIns := [], harness := (true, "4922391adfbe8212f4deef16a27016fcbfb09915d492d7d3d49177c73cf70bb2"), looks := true }, kinds := [], alts := [], laidByText := true, laidKinds := [.handle], laidTests := true, laidLooks := .later }
def FnSeqUptoCardSaid : Prop := Claim7.holds Tryz.pinned (.plain (OpenSpec.upto fnSeqSpec)) fnSeqUptoCard

/-- THE SECOND FORM's CARD OF 'laws.FnChoose'. -/
def fnChooseUptoCard : Claim7 := { stood := { row := fnChooseUptoRow, standIns := [], harness := (true, "4922391adfbe8212f4deef16a27016fcbfb09915d492d7d3d49177c73cf70bb2"), looks := true }, kinds := [], alts := [], laidByText := true, laidKinds := [.handle], laidTests := true, laidLooks := .later }
def FnChooseUptoCardSaid : Prop := Claim7.holds Tryz.pinned (.plain (OpenSpec.upto fnChooseSpec)) fnChooseUptoCard

/-- THE SECOND FORM's CARD OF 'laws.FnTwice'. -/
def fnTwiceUptoCard : Claim7 := { stood := { row := fnTwiceUptoRow, standIns := [], harness := (true, "4922391adfbe8212f4deef16a27016fcbfb09915d492d7d3d49177c73cf70bb2"), looks := true }, kinds := [], alts := [], laidByText := true, laidKinds := [.handle], laidTests := true, laidLooks := .later }
def FnTwiceUptoCardSaid : Prop := Claim7.holds Tryz.pinned (.plain (OpenSpec.upto fnTwiceSpec)) fnTwiceUptoCard

/-- THE SECOND FORM's CARD OF 'laws.FnConst'. -/
def fnConstUptoCard : Claim7 := { stood := { row := fnConstUptoRow, standIns := [], harness := (true, "4922391adfbe8212f4deef16a27016fcbfb09915d492d7d3d49177c73cf70bb2"), looks := true }, kinds := [], alts := [], laidByText := true, laidKinds := [.handle], laidTests := true, laidLooks := .later }
def FnConstUptoCardSaid : Prop := Claim7.holds Tryz.pinned (.plain (OpenSpec.upto fnConstSpec)) fnConstUptoCard
end Rows
end Go.Proofs.YtbdepjcndjcfoaaGreatDoor
