/- The specification's l1Free, at a binding. -/
import Derived.Test.YtdedhejpbnfnaaaFreeA
namespace Go.Proofs.Ytdedhejpbnfnaaa
open Go.RowKit
open Ff
set_option linter.unusedVariables false

attribute [local irreducible] Calls

end Go.Proofs.Ytdedhejpbnfnaaa
