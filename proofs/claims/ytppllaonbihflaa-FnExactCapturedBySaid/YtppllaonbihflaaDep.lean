/- DepthOf: the model's and the program's. -/
import Derived.Test.YtppllaonbihflaaValid
import Derived.Test.YtppllaonbihflaaTmC
namespace Go.Proofs.Ytppllaonbihflaa
open Go.RowKit
open Ff
set_option linter.unusedVariables false

/-- What a text's depth is told as. -/
def depthI (o : Option Tm) : Int := match o with | some t => t.depth | none => -1
end Go.Proofs.Ytppllaonbihflaa
