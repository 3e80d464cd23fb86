/- The program's reader of a text, function by function: the reader of terms itself. -/
import Derived.Test.YtdedhejpbnfnaaaRdB
namespace Go.Proofs.Ytdedhejpbnfnaaa
open Go.RowKit
open Ff

end Go.Proofs.Ytdedhejpbnfnaaa
