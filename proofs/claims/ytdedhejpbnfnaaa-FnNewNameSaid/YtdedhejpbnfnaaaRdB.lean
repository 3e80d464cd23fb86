/- The program's reader of a text, function by function: what calls the reader of terms, and that one itself. -/
import Derived.Test.YtdedhejpbnfnaaaRdA
namespace Go.Proofs.Ytdedhejpbnfnaaa
open Go.RowKit
open Ff
set_option linter.unusedVariables false

theorem dig_bd {c : UInt8} (h : isDig c = true) : 48 ≤ (c.toNat : Int) ∧ (c.toNat : Int) ≤ 57 := by
  simp only [isDig, Bool.and_eq_true, decide_eq_true_eq] at h; omega
end Go.Proofs.Ytdedhejpbnfnaaa
