import Derived.Test.YtkelncocppiepaaGreatDoorMPt
import Derived.Test.YtkelncocppiepaaGreatDoorMTx
import Derived.Test.YtkelncocppiepaaGreatDoorMDp
import Derived.Test.YtkelncocppiepaaGreatDoorMCl
import Derived.Test.YtkelncocppiepaaGreatDoorMSc
/- What Put comes to; the program's writeTerm. -/
namespace Go.Proofs.YtkelncocppiepaaGreatDoor
open Go.RowKit
open Ff
set_option linter.unusedVariables false

/-- Does a term fit, by its text? -/
def fitsT (t : Tm) : Bool := decide ((textN t).length ≤ 120) && decide (t.depth ≤ 24)
/-- What Put comes to. -/
def putO (s n s2 : Text) : Option Tm := (readS s).bind fun t => (readS s2).bind fun u => (nameOf n).bind fun x =>
  if (subS t.depth x u t).2 = true ∧ fitsT (subS t.depth x u t).1 = true then some (subS t.depth x u t).1 else none
def textO : Option Tm → Text
  | some t => textN t
  | none => []
theorem read_facts {s : Text} {t : Tm} (h : readS s = some t) : t.good ∧ t.depth ≤ 24 ∧ (parts t).length ≤ 120 := by
  obtain ⟨r, h1, _, _⟩ := readS_some h
  exact ⟨readS_good h, parse_depth _ _ _ _ h1, readS_parts h⟩
end Go.Proofs.YtkelncocppiepaaGreatDoor
