/- The program's names that a term binds; adding tallies; the names of a tally in order. -/
import Derived.Test.YtdedhejpbnfnaaaTal
import Derived.Test.YtdedhejpbnfnaaaVal
namespace Go.Proofs.Ytdedhejpbnfnaaa
open Go.RowKit
open Ff
set_option linter.unusedVariables false

def isLet : Tm → Bool
  | .bind _ _ _ => true | _ => false
/-- A name as a value. -/
abbrev bv (c : UInt8) : Value := .int .u8 (c.toNat : Int)

end Go.Proofs.Ytdedhejpbnfnaaa
