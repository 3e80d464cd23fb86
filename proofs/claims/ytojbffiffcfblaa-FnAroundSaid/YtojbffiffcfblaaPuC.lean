import Derived.Test.YtojbffiffcfblaaPuB
import Derived.Test.YtojbffiffcfblaaRow
/- The program's visitKids: what visitors make of the kids of a part. -/
namespace Go.Proofs.Ytojbffiffcfblaa
open Go.RowKit
open Ff
set_option linter.unusedVariables false
attribute [local go_sem] Oper.semAt_some

theorem Try.infoTm : (Try.prog.info? 36).map (fun i => (i.zero, i.size, i.bytes)) = some (some .nilIface, 1, 16) := by kernel_rfl
theorem ownsRow_keep {W W' : World} {base : Nat} {e : TypeId} {size n : Nat} {v : Value} {xs : List Value} (h : W.ownsRow base e size v n xs) (hb : Below W.heap.size W W') : W'.ownsRow base e size v n xs :=
  World.ownsRow.kept (row := none) h (below_grown hb) (by rcases ho : Value.ownBlock v with _ | j; exact .inl rfl; exact .inr (by simp))
theorem last_eq {k n : Nat} (h : k + 1 = n) : ((k : Int) == (n : Int) - 1) = true := by subst h; simp
theorem last_ne {k n : Nat} (h : k + 1 ≠ n) : ((k : Int) == (n : Int) - 1) = false := by rw [beq_eq_false_iff_ne]; omega

end Go.Proofs.Ytojbffiffcfblaa
