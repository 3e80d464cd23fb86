import Derived.Test.YtkelncocppiepaaGreatDoorMPg
import Derived.Test.YtkelncocppiepaaGreatDoorMTx
import Derived.Test.YtkelncocppiepaaGreatDoorMDp
/- The program's putting: into a term whose part does not bind the name. Written by genPh.py. -/
namespace Go.Proofs.YtkelncocppiepaaGreatDoor
open Go.RowKit
open Ff
set_option linter.unusedVariables false
attribute [local go_sem] Oper.semAt_some

end Go.Proofs.YtkelncocppiepaaGreatDoor

/- The program's putting: what recovers from a shortage; put; Put. -/
namespace Go.Proofs.YtkelncocppiepaaGreatDoor
open Go.RowKit
open Ff
set_option linter.unusedVariables false
attribute [local go_sem] Oper.semAt_some

/-- What putting comes to where a shortage is told. -/
def PutPost (w : World) (r : Tm × Bool) (e : Ending) (w' : World) : Prop := ((r.2 = true ∧ e = .returned (.tuple #[enc r.1, .bool true])) ∨ (r.2 = false ∧ e = .returned (.tuple #[.nilIface, .bool false]))) ∧ Below w.heap.size w w'
theorem two_new (w : World) (t1 t2 : TypeId) {W : World} (h : Below (w.heap.size + 1 + 1) ((w.alloc (.cells #[.nilIface] t1)).alloc (.cells #[.bool false] t2)) W) :
    W.cell? ⟨w.heap.size, 0, none⟩ = some .nilIface ∧ W.frozen? ⟨w.heap.size, 0, none⟩ = false ∧ W.cell? ⟨w.heap.size + 1, 0, none⟩ = some (.bool false) ∧ W.frozen? ⟨w.heap.size + 1, 0, none⟩ = false := by
  refine ⟨(h.cell (by show w.heap.size < _; omega)).trans ?_, (h.frozen (by show w.heap.size < _; omega)).trans ?_, (h.cell (by simp)).trans ?_, (h.frozen (by simp)).trans ?_⟩ <;> simp [go_sem]
/-- Three boxes. -/
abbrev Box3 (a b c : Nat) (x : UInt8) (u t : Value) (w0 w : World) : Prop := w.cell? ⟨a, 0, none⟩ = some (bv x) ∧ w.cell? ⟨b, 0, none⟩ = some u ∧ w.cell? ⟨c, 0, none⟩ = some t ∧ Below w0.heap.size w0 w
theorem Box3.keep {a b c : Nat} {x : UInt8} {u t : Value} {w0 w w' : World} (h : Box3 a b c x u t w0 w) (ha : a < w0.heap.size) (hb : b < w0.heap.size) (hc : c < w0.heap.size) (hk : Below w.heap.size w w') : Box3 a b c x u t w0 w' := by
  obtain ⟨h1, h2, h3, h4⟩ := h
  have := h4.size
  exact ⟨(hk.cell (p := ⟨a, 0, none⟩) (by show a < _; omega)).trans h1, (hk.cell (p := ⟨b, 0, none⟩) (by show b < _; omega)).trans h2, (hk.cell (p := ⟨c, 0, none⟩) (by show c < _; omega)).trans h3, h4.trans (hk.mono h4.size)⟩
end Go.Proofs.YtkelncocppiepaaGreatDoor
