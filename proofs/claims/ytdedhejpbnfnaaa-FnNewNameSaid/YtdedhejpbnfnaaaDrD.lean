/- The model's drawn inputs: l1Draw, a step. -/
import Derived.Test.YtdedhejpbnfnaaaDrC
namespace Go.Proofs.Ytdedhejpbnfnaaa
open Go.RowKit
open Ff
set_option linter.unusedVariables false
set_option linter.unusedSimpArgs false
attribute [local irreducible] Calls

theorem lit_size (s : Text) : (⟨s.toArray⟩ : ByteArray).size = s.length := size_data s
end Go.Proofs.Ytdedhejpbnfnaaa
