import Derived.Test.YtkhdghbjififnaaDoorPsB
/- The specification's putting under a binder: names that get other ones. -/
namespace Go.Proofs.YtkhdghbjififnaaDoor
open Go.RowKit
open Ff
set_option linter.unusedVariables false

theorem stepsS_left_stay (sub : UInt8 → Tm → Tm → Tm × Bool) (fr : Text) (x : UInt8) (ns : Text) (b : Tm) (k : Nat) (h : (stepsS sub fr x ns b k).left = true) : ∀ j, stepsS sub fr x ns b (k + j) = stepsS sub fr x ns b k
  | 0 => rfl
  | j + 1 => by
    rw [show k + (j + 1) = (k + j) + 1 from rfl, stepsS, stepsS_left_stay sub fr x ns b k h j, stepS_left _ _ _ _ _ h]
/-- The blocks in which a body may lie in the midst. -/
abbrev MidS (S : Nat → Prop) (w W : World) (g : Nat) : Prop := S g ∨ (w.heap.size + 3 ≤ g ∧ g < W.heap.size)
/-- What stands at the head of a round. -/
structure MidAt (S : Nat → Prop) (w : World) (s : Bs) (k n : Int) (t : ByteArray) (a : Option Addr) (l c : Nat) (u0 u1 : Int) (u2 : ByteArray) (u3 : Option Addr) (u4 u5 : Nat) (W : World) : Prop where
  boxes : UnW w k n t a l c u0 u1 u2 u3 u4 u5 W
  rep : Rep (MidS S w W) W s.b (.agg #[.int .u8 k, .int .i64 n, .string t, .slice a l c])
theorem MidAt.keep {S : Nat → Prop} {w W W' : World} {s : Bs} {k n : Int} {t : ByteArray} {a : Option Addr} {l c : Nat} {u0 u1 : Int} {u2 : ByteArray} {u3 : Option Addr} {u4 u5 : Nat} (h : MidAt S w s k n t a l c u0 u1 u2 u3 u4 u5 W) (hS : ∀ g, S g → g < w.heap.size) (hb : Below W.heap.size W W') : MidAt S w s k n t a l c u0 u1 u2 u3 u4 u5 W' := by
  have hz := h.boxes.size
  refine ⟨h.boxes.keep hb, h.rep.keep (fun g hg => hb.block g ?_) (fun g hg => hg.imp id (fun h => ⟨h.1, by have := hb.size; omega⟩))⟩
  rcases hg with hg | hg
  · have := hS g hg; omega
  · exact hg.2
theorem UnW.set {w W : World} {k n : Int} {s : ByteArray} {a : Option Addr} {l c : Nat} {k' n' : Int} {s' : ByteArray} {a' : Option Addr} {l' c' : Nat} (h : UnW w k n s a l c k' n' s' a' l' c' W) (g : Nat) (hg : w.heap.size + 3 ≤ g) (z0 z1 z2 z3 : Value) : UnW w k n s a l c k' n' s' a' l' c' (set4 W g z0 z1 z2 z3) :=
  ⟨(set4_far _ _ _ _ _ _ _ (by omega)).trans h.body, (set4_far _ _ _ _ _ _ _ (by omega)).trans h.put, (set4_far _ _ _ _ _ _ _ (by omega)).trans h.res, set4_below h.below (by omega) _ _ _ _, by rw [set4_size]; exact h.size⟩
theorem set4_here {W : World} {b : Nat} {y0 y1 y2 y3 : Value} {t : TypeId} (h : W.heap[b]? = some (.cells #[y0, y1, y2, y3] t (0, 0))) (z0 z1 z2 z3 : Value) : (set4 W b z0 z1 z2 z3).heap[b]? = some (.cells #[z0, z1, z2, z3] t (0, 0)) := by
  simp [World.setCell, Array.getElem?_modify, h]
theorem UnW.store {w W : World} {k n : Int} {s : ByteArray} {a : Option Addr} {l c : Nat} {k' n' : Int} {s' : ByteArray} {a' : Option Addr} {l' c' : Nat} (h : UnW w k n s a l c k' n' s' a' l' c' W) (z0 z1 : Int) (z2 : ByteArray) (z3 : Option Addr) (z4 z5 : Nat) : UnW w z0 z1 z2 z3 z4 z5 k' n' s' a' l' c' (set4 W w.heap.size (.int .u8 z0) (.int .i64 z1) (.string z2) (.slice z3 z4 z5)) :=
  ⟨set4_here h.body _ _ _ _, (set4_far _ _ _ _ _ _ _ (by omega)).trans h.put, (set4_far _ _ _ _ _ _ _ (by omega)).trans h.res, set4_below h.below (Nat.le_refl _) _ _ _ _, by rw [set4_size]; exact h.size⟩
theorem MidAt.store {S : Nat → Prop} {w W : World} {s : Bs} {k n : Int} {t : ByteArray} {a : Option Addr} {l c : Nat} {u0 u1 : Int} {u2 : ByteArray} {u3 : Option Addr} {u4 u5 : Nat} {z0 z1 : Int} {z2 : ByteArray} {z3 : Option Addr} {z4 z5 : Nat} (h : UnW w k n t a l c u0 u1 u2 u3 u4 u5 W) (hS : ∀ g, S g → g < w.heap.size) (hr : Rep (MidS S w W) W s.b (.agg #[.int .u8 z0, .int .i64 z1, .string z2, .slice z3 z4 z5])) : MidAt S w s z0 z1 z2 z3 z4 z5 u0 u1 u2 u3 u4 u5 (set4 W w.heap.size (.int .u8 z0) (.int .i64 z1) (.string z2) (.slice z3 z4 z5)) :=
  ⟨h.store _ _ _ _ _ _, hr.keep (fun g hg => set4_far _ _ _ _ _ _ _ (by
    rcases hg with hg | hg
    · have := hS g hg; omega
    · have := hg.1; omega)) (fun g hg => hg.imp id (fun h => ⟨h.1, by rw [set4_size]; exact h.2⟩))⟩
theorem set_bytes (ns : Text) (i : Nat) (d : UInt8) (h : i < ns.length) : ((⟨ns.toArray⟩ : ByteArray).extract 0 i ++ ⟨#[d]⟩ ++ (⟨ns.toArray⟩ : ByteArray).extract (i + 1) ns.length : ByteArray) = ⟨(ns.set i d).toArray⟩ := by
  apply ba_ext
  simp [ByteArray.data_append, ByteArray.data_extract, List.set_eq_take_append_cons_drop, h]
  exact List.take_of_length_le (by simp)
theorem UnW.limbs {w V W : World} {m : Nat} {k n : Int} {s : ByteArray} {a : Option Addr} {l c : Nat} {k' n' : Int} {s' : ByteArray} {a' : Option Addr} {l' c' : Nat} (h : UnW w k n s a l c k' n' s' a' l' c' W) (hb : Below m V W) : (W.cell? ⟨w.heap.size, 0, none⟩ = some (.int .u8 k) ∧ W.cell? ⟨w.heap.size, 1, none⟩ = some (.int .i64 n) ∧ W.cell? ⟨w.heap.size, 2, none⟩ = some (.string s) ∧ W.cell? ⟨w.heap.size, 3, none⟩ = some (.slice a l c)) ∧ UnW w k n s a l c k' n' s' a' l' c' W ∧ Below m V W :=
  have d := cells4 h.body
  ⟨⟨d.1, d.2.1, d.2.2.1, d.2.2.2.1⟩, h, hb⟩
end Go.Proofs.YtkhdghbjififnaaDoor
