import Derived.Test.YtkhdghbjififnaaDoorPsA
import Derived.Test.YtkhdghbjififnaaDoorMUq
import Derived.Deep.RegionHeld3
/- The specification's putting under a binder. -/
namespace Go.Proofs.YtkhdghbjififnaaDoor
open Go.RowKit
open Ff
set_option linter.unusedVariables false

theorem cells4 {w : World} {b : Nat} {z0 z1 z2 z3 : Value} {t : TypeId} (h : w.heap[b]? = some (.cells #[z0, z1, z2, z3] t (0, 0))) : w.cell? ⟨b, 0, none⟩ = some z0 ∧ w.cell? ⟨b, 1, none⟩ = some z1 ∧ w.cell? ⟨b, 2, none⟩ = some z2 ∧ w.cell? ⟨b, 3, none⟩ = some z3 ∧ w.frozen? ⟨b, 0, none⟩ = false ∧ w.frozen? ⟨b, 1, none⟩ = false ∧ w.frozen? ⟨b, 2, none⟩ = false ∧ w.frozen? ⟨b, 3, none⟩ = false := by
  refine ⟨?_, ?_, ?_, ?_, ?_, ?_, ?_, ?_⟩ <;> simp [World.cell?, World.frozen?, h]
abbrev tmO (k n : Int) (s : ByteArray) (a : Option Addr) (l c : Nat) : Obj := .cells #[.int .u8 k, .int .i64 n, .string s, .slice a l c] 27
abbrev set4 (W : World) (b : Nat) (z0 z1 z2 z3 : Value) : World := (((W.setCell ⟨b, 0, none⟩ z0).setCell ⟨b, 1, none⟩ z1).setCell ⟨b, 2, none⟩ z2).setCell ⟨b, 3, none⟩ z3
theorem set4_far (W : World) (b : Nat) (z0 z1 z2 z3 : Value) (g : Nat) (h : g ≠ b) : (set4 W b z0 z1 z2 z3).heap[g]? = W.heap[g]? :=
  (Below.heap_setCell _ _ _ _ (by simpa using h)).trans ((Below.heap_setCell _ _ _ _ (by simpa using h)).trans ((Below.heap_setCell _ _ _ _ (by simpa using h)).trans (Below.heap_setCell _ _ _ _ (by simpa using h))))
theorem set4_size (W : World) (b : Nat) (z0 z1 z2 z3 : Value) : (set4 W b z0 z1 z2 z3).heap.size = W.heap.size := by simp [World.setCell]
theorem set4_below {B b : Nat} {w W : World} (h : Below B w W) (hb : B ≤ b) (z0 z1 z2 z3 : Value) : Below B w (set4 W b z0 z1 z2 z3) :=
  (((h.setCell (p := ⟨b, 0, none⟩) hb _).setCell (p := ⟨b, 1, none⟩) hb _).setCell (p := ⟨b, 2, none⟩) hb _).setCell (p := ⟨b, 3, none⟩) hb _
theorem alloc_here (w : World) (o : Obj) : (w.alloc o).heap[w.heap.size]? = some o := World.alloc_heap_new w o
theorem alloc_far (w : World) (o : Obj) {g : Nat} (h : g < w.heap.size) : (w.alloc o).heap[g]? = w.heap[g]? := Below.heap_alloc _ _ _ h
/-- The three boxes of l2Under: the body, what is put, the result. -/
structure UnW (w : World) (k n : Int) (s : ByteArray) (a : Option Addr) (l c : Nat) (k' n' : Int) (s' : ByteArray) (a' : Option Addr) (l' c' : Nat) (W : World) : Prop where
  body : W.heap[w.heap.size]? = some (tmO k n s a l c)
  put : W.heap[w.heap.size + 1]? = some (tmO k' n' s' a' l' c')
  res : W.heap[w.heap.size + 1 + 1]? = some (tmO 0 0 ⟨#[]⟩ none 0 0)
  below : Below w.heap.size w W
  size : w.heap.size + 3 ≤ W.heap.size
theorem UnW.keep {w W W' : World} {k n : Int} {s : ByteArray} {a : Option Addr} {l c : Nat} {k' n' : Int} {s' : ByteArray} {a' : Option Addr} {l' c' : Nat} (h : UnW w k n s a l c k' n' s' a' l' c' W) (hb : Below W.heap.size W W') : UnW w k n s a l c k' n' s' a' l' c' W' := by
  have hs := h.size
  exact ⟨(hb.block _ (by omega)).trans h.body, (hb.block _ (by omega)).trans h.put, (hb.block _ (by omega)).trans h.res, h.below.trans (hb.mono (by omega)), by have := hb.size; omega⟩
theorem UnW.new (w : World) (k n : Int) (s : ByteArray) (a : Option Addr) (l c : Nat) (k' n' : Int) (s' : ByteArray) (a' : Option Addr) (l' c' : Nat) : UnW w k n s a l c k' n' s' a' l' c' (((w.alloc (tmO k n s a l c)).alloc (tmO k' n' s' a' l' c')).alloc (tmO 0 0 ⟨#[]⟩ none 0 0)) := by
  have z1 : (w.alloc (tmO k n s a l c)).heap.size = w.heap.size + 1 := by simp
  have z2 : ((w.alloc (tmO k n s a l c)).alloc (tmO k' n' s' a' l' c')).heap.size = w.heap.size + 1 + 1 := by simp
  refine ⟨?_, ?_, ?_, ?_, ?_⟩
  · rw [alloc_far _ _ (by omega), alloc_far _ _ (by omega)]; exact alloc_here _ _
  · rw [alloc_far _ _ (by omega), ← z1]; exact alloc_here _ _
  · rw [← z2]; exact alloc_here _ _
  · exact (below_two w _ _).alloc (by omega) _
  · simp
/-- What putting under a binder comes to. -/
def UndSP (S : Nat → Prop) (w : World) (r : Text × Tm × Bool) (e : Ending) (w' : World) : Prop := ∃ v, e = .returned (.tuple #[.string ⟨r.1.toArray⟩, v, .bool r.2.2]) ∧ Below w.heap.size w w' ∧ Rep (fun g => S g ∨ New w w' g) w' r.2.1 v
end Go.Proofs.YtkhdghbjififnaaDoor
