/- The model's reader of a text: what stands behind the first byte of a term: two names, and a call. -/
import Derived.Test.YtdedhejpbnfnaaaWiC
import Derived.RegionTactic
import Derived.ChangeAlike
import Derived.BigRegion
namespace Go.Proofs.Ytdedhejpbnfnaaa
open Go.RowKit
open Ff
set_option linter.unusedVariables false

theorem ba0 (c d : UInt8) (h : 0 < (⟨#[c, d]⟩ : ByteArray).size) : (⟨#[c, d]⟩ : ByteArray)[0] = c := rfl
theorem ba1 (c d : UInt8) (h : 1 < (⟨#[c, d]⟩ : ByteArray).size) : (⟨#[c, d]⟩ : ByteArray)[1] = d := rfl
attribute [local go_sem] ba0 ba1
end Go.Proofs.Ytdedhejpbnfnaaa
