/- CountFree: the model's and the program's. -/
import Derived.Test.YtjeaadgfjnmfcaaCtA
import Derived.Test.YtjeaadgfjnmfcaaFrL
namespace Go.Proofs.Ytjeaadgfjnmfcaa
open Go.RowKit
open Ff
set_option linter.unusedVariables false

/-- A name, alone. -/
def nameOf : Text → Option UInt8
  | [c] => if isNam c = true then some c else none
  | _ => none
theorem name_some {s : Text} {c : UInt8} (h : nameOf s = some c) : s = [c] ∧ isNam c = true := by
  unfold nameOf at h
  split at h
  · split at h
    · rename_i h2; injection h with h; subst h; exact ⟨rfl, h2⟩
    · cases h
  · cases h
theorem name_one (c : UInt8) : (nameOf [c]).isSome = isNam c := by
  simp only [nameOf]
  cases isNam c <;> simp
theorem name_long {s : Text} (h : s.length ≠ 1) : (nameOf s).isSome = false := by
  unfold nameOf
  split
  · simp at h
  · rfl
/-- What the two texts are told as. -/
def cntI (o : Option Tm) (m : Option UInt8) : Int := match o, m with
  | some t, some c => (cntF t c : Int)
  | _, _ => -1
theorem cntI_none (m : Option UInt8) : cntI none m = -1 := by cases m <;> rfl
theorem cntI_none2 (o : Option Tm) : cntI o none = -1 := by cases o <;> rfl
end Go.Proofs.Ytjeaadgfjnmfcaa
