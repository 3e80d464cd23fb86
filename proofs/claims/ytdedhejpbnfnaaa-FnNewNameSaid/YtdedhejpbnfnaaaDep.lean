/- DepthOf: the model's and the program's. -/
import Derived.Test.YtdedhejpbnfnaaaValid
import Derived.Test.YtdedhejpbnfnaaaTmC
namespace Go.Proofs.Ytdedhejpbnfnaaa
open Go.RowKit
open Ff
set_option linter.unusedVariables false

/-- What a text's depth is told as. -/
def depthI (o : Option Tm) : Int := match o with | some t => t.depth | none => -1
end Go.Proofs.Ytdedhejpbnfnaaa
