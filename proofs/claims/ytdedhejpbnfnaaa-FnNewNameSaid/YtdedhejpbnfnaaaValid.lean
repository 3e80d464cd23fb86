/- TermValid: the model's and the program's. -/
import Derived.Test.YtdedhejpbnfnaaaSpD
namespace Go.Proofs.Ytdedhejpbnfnaaa
open Go.RowKit
open Ff
set_option linter.unusedVariables false

end Go.Proofs.Ytdedhejpbnfnaaa
