import Derived.Test.YtojbffiffcfblaaMUb
import Derived.Test.YtojbffiffcfblaaPuH
import Derived.Deep.RegionHeld3
import Derived.Laws.EntriesVeiled
/- Unique: the program's withPulled. -/
namespace Go.Proofs.Ytojbffiffcfblaa
open Go.RowKit
open Ff
set_option linter.unusedVariables false
attribute [local go_sem] Oper.semAt_some

theorem below_tri (w : World) (o1 o2 o3 : Obj) : Below w.heap.size w (((w.alloc o1).alloc o2).alloc o3) := (below_two w o1 o2).alloc (by simp; omega) o3
theorem Took.grown {w w' : World} {b : Nat} {u : Text} (h : Took w b u) (hg : Below w.heap.size w w') : w.grownBy w' (some b) ∧ Took w' b u := ⟨(below_grown hg).but _, h.below hg⟩
theorem RowG.at {w : World} {a : Option Addr} {b r : Nat} {l : List Value} (h : RowG w a b r l) : RowAt w a l := fun i x hx => by
  obtain ⟨g, h1, h2, h3, h4⟩ := h i x hx
  exact ⟨g, h1, World.block_lt_of_cell? w _ h4, h4⟩
theorem Try.infoB8 : (Try.prog.info? 5).map (fun i => (i.zero, i.size, i.bytes)) = some (some (.int .u8 0), 1, 1) := by kernel_rfl
end Go.Proofs.Ytojbffiffcfblaa
