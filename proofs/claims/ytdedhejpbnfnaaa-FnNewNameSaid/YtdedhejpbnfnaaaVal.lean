/- IsValue: the model's and the program's. -/
import Derived.Test.YtdedhejpbnfnaaaValid
import Derived.Test.YtdedhejpbnfnaaaTmC
namespace Go.Proofs.Ytdedhejpbnfnaaa
open Go.RowKit
open Ff
set_option linter.unusedVariables false

theorem kind_val {t : Tm} (h : t.good) : (((kindOf t : Int) == 110) || ((kindOf t : Int) == 92) || ((kindOf t : Int) == 64)) = t.isVal := by
  cases t with
  | op s l r => rcases h.1 with h | h | h <;> subst h <;> rfl
  | _ => rfl
def isNum : Tm → Bool
  | .num _ => true | _ => false
def isFun : Tm → Bool
  | .fn _ _ => true | .fix _ _ _ => true | _ => false
end Go.Proofs.Ytdedhejpbnfnaaa
