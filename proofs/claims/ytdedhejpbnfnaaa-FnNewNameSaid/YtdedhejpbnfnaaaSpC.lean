/- The model's reader of a text: the reader of terms itself. -/
import Derived.Test.YtdedhejpbnfnaaaWiB
import Derived.Test.YtdedhejpbnfnaaaWiD
import Derived.Test.YtdedhejpbnfnaaaWiE
import Derived.Test.YtdedhejpbnfnaaaWiF
import Derived.Test.YtdedhejpbnfnaaaWiG
namespace Go.Proofs.Ytdedhejpbnfnaaa
open Go.RowKit
open Ff
set_option linter.unusedVariables false

/-- The block of the function's result, zero. -/
structure Fz (h : Nat) (W : World) : Prop where
  p0 : W.cell? ⟨h, 0, none⟩ = some (.int .u8 0)
  p1 : W.cell? ⟨h, 1, none⟩ = some (.int .i64 0)
  p2 : W.cell? ⟨h, 2, none⟩ = some (.string ⟨#[]⟩)
  p3 : W.cell? ⟨h, 3, none⟩ = some (.slice none 0 0)
  q0 : W.frozen? ⟨h, 0, none⟩ = false
  q1 : W.frozen? ⟨h, 1, none⟩ = false
  q2 : W.frozen? ⟨h, 2, none⟩ = false
  q3 : W.frozen? ⟨h, 3, none⟩ = false
  sz : h < W.heap.size
theorem Fz.keep {h b : Nat} {W W' : World} (f : Fz h W) (hg : W.grownBy W' (some b)) (hb : b < h) : Fz h W' := by
  have s := f.sz
  have s1 := hg.size
  have e1 : W'.heap[h]? = W.heap[h]? := hg.block h (by omega) (by simp; omega)
  have c1 : ∀ j, W'.cell? ⟨h, j, none⟩ = W.cell? ⟨h, j, none⟩ := fun j => World.cell?_of_block (a := ⟨h, j, none⟩) e1
  have f1 : ∀ j, W'.frozen? ⟨h, j, none⟩ = W.frozen? ⟨h, j, none⟩ := fun j => World.frozen?_of_block (a := ⟨h, j, none⟩) e1
  exact ⟨(c1 _).trans f.p0, (c1 _).trans f.p1, (c1 _).trans f.p2, (c1 _).trans f.p3, (f1 _).trans f.q0, (f1 _).trans f.q1, (f1 _).trans f.q2, (f1 _).trans f.q3, by omega⟩
end Go.Proofs.Ytdedhejpbnfnaaa
