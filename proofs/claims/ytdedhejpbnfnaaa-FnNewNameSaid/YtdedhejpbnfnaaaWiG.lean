/- The model's reader of a text: what stands behind the first byte of a term: a name, and what is none. -/
import Derived.Test.YtdedhejpbnfnaaaWiA
namespace Go.Proofs.Ytdedhejpbnfnaaa
open Go.RowKit
open Ff
set_option linter.unusedVariables false

end Go.Proofs.Ytdedhejpbnfnaaa
