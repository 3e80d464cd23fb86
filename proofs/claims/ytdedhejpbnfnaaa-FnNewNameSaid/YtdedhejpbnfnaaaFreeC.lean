/- The specification's l1Free, at every term. -/
import Derived.Test.YtdedhejpbnfnaaaFreeB
namespace Go.Proofs.Ytdedhejpbnfnaaa
open Go.RowKit
open Ff
set_option linter.unusedVariables false

end Go.Proofs.Ytdedhejpbnfnaaa
