import Derived.Test.YtojbffiffcfblaaMPs
/- The specification's putting: terms without kids. -/
namespace Go.Proofs.Ytojbffiffcfblaa
open Go.RowKit
open Ff
set_option linter.unusedVariables false

theorem byte_ne {d c : UInt8} (h : d ≠ c) : (d == c) = false := by rw [beq_eq_false_iff_ne]; exact h
theorem below_three (w : World) (o1 o2 o3 : Obj) : Below w.heap.size w (((w.alloc o1).alloc o2).alloc o3) := (below_two w o1 o2).alloc (by simp; omega) o3
end Go.Proofs.Ytojbffiffcfblaa
