/- The specification's l1Bound. -/
import Derived.Test.YtgkjgdobbegkaaaEach
import Derived.Test.YtgkjgdobbegkaaaCtA
namespace Go.Proofs.Ytgkjgdobbegkaaa
open Go.RowKit
open Ff
set_option linter.unusedVariables false

theorem binds_var (t : Tm) (h : kindOf t = 118) : bindsOf t = [] := by
  cases t with
  | var c => rfl
  | op s l r => rfl
  | _ => simp [kindOf] at h
end Go.Proofs.Ytgkjgdobbegkaaa
