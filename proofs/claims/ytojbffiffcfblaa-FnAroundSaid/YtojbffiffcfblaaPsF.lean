import Derived.Test.YtojbffiffcfblaaPsE
/- The specification's putting: a node that binds names. -/
namespace Go.Proofs.Ytojbffiffcfblaa
open Go.RowKit
open Ff
set_option linter.unusedVariables false

theorem binds_nam {t : Tm} (h : t.good) : ∀ c ∈ bindsOf t, isNam c = true := by
  intro c hc
  cases t with
  | fn d b => simp [bindsOf] at hc; subst hc; exact h.1
  | fix f d b => simp [bindsOf] at hc; rcases hc with rfl | rfl; exact h.1; exact h.2.1
  | bind d v b => simp [bindsOf] at hc; subst hc; exact h.1
  | _ => simp [bindsOf] at hc
/-- A block of zeros, as its cells are read and written. -/
abbrev ZeroAt (W : World) (g : Nat) : Prop := W.cell? ⟨g, 0, none⟩ = some (.int .u8 0) ∧ W.cell? ⟨g, 1, none⟩ = some (.int .i64 0) ∧ W.cell? ⟨g, 2, none⟩ = some (.string ⟨#[]⟩) ∧ W.cell? ⟨g, 3, none⟩ = some (.slice none 0 0) ∧ W.frozen? ⟨g, 0, none⟩ = false ∧ W.frozen? ⟨g, 1, none⟩ = false ∧ W.frozen? ⟨g, 2, none⟩ = false ∧ W.frozen? ⟨g, 3, none⟩ = false
/-- A store into a block below a row leaves the row. -/
theorem ks_set {base : Nat} {S : Nat → Prop} {l : List Tm} {v : Value} {W : World} (h : KsAt base S l v W) (p : Addr) (hp : p.block < base) (hS : ∀ g, S g → g ≠ p.block) (u : Value) : KsAt base S l v (W.setCell p u) := by
  have hz : (W.setCell p u).heap.size = W.heap.size := by simp [World.setCell]
  obtain ⟨gk, ck, rfl, h1, h2⟩ := ks_shape h
  obtain ⟨xs, hown, hv, hrep⟩ := h
  refine ⟨xs, World.ownsRow.kept (row := some p.block) hown ⟨rfl, rfl, rfl, by omega, fun k _ hk => Below.heap_setCell _ _ _ _ (fun e => hk (by rw [e]))⟩ (.inr (by simp only [Value.ownBlock, ne_eq, Option.some.injEq]; omega)), hv, fun i t hi => (hrep i t hi).keep (fun g hg => Below.heap_setCell _ _ _ _ ?_) (fun g hg => ⟨hg.1.imp id (fun h => ⟨h.1, by omega⟩), hg.2⟩)⟩
  rcases hg.1 with h | h
  · exact hS g h
  · omega
theorem UnW.name {w W : World} {k n : Int} {s : ByteArray} {a : Option Addr} {l c : Nat} {k' n' : Int} {s' : ByteArray} {a' : Option Addr} {l' c' : Nat} (h : UnW w k n s a l c k' n' s' a' l' c' W) (r : ByteArray) : UnW w k n r a l c k' n' s' a' l' c' (W.setCell ⟨w.heap.size, 2, none⟩ (.string r)) := by
  refine ⟨by simp [World.setCell, Array.getElem?_modify, h.body], (Below.heap_setCell _ _ _ _ (by first | (simp; done) | (simp; omega))).trans h.put, (Below.heap_setCell _ _ _ _ (by first | (simp; done) | (simp; omega))).trans h.res, h.below.setCell (p := ⟨w.heap.size, 2, none⟩) (Nat.le_refl _) _, by simpa [World.setCell] using h.size⟩

/-- What stands behind the call for the body. -/
structure Aft (S : Nat → Prop) (w : World) (k n : Int) (s : ByteArray) (a : Option Addr) (l c : Nat) (k' n' : Int) (s' : ByteArray) (a' : Option Addr) (l' c' : Nat) (ks : List Tm) (row : Value) (b : Tm) (v0 v1 : Int) (v2 : ByteArray) (v3 : Option Addr) (v4 v5 : Nat) (p : Nat) (W : World) : Prop where
  boxes : UnW w k n s a l c k' n' s' a' l' c' W
  here : W.heap[p]? = some (tmO v0 v1 v2 v3 v4 v5)
  low : w.heap.size + 3 ≤ p
  rep : Rep (InRow (w.heap.size + 3) S W row) W b (.agg #[.int .u8 v0, .int .i64 v1, .string v2, .slice v3 v4 v5])
  row : KsAt (w.heap.size + 3) S ks row W
theorem Aft.new {S : Nat → Prop} {w wr w7 : World} {k n : Int} {s : ByteArray} {a : Option Addr} {l c : Nat} {k' n' : Int} {s' : ByteArray} {a' : Option Addr} {l' c' : Nat} {ks : List Tm} {gk ck m : Nat} {b : Tm} {v0 v1 : Int} {v2 : ByteArray} {v3 : Option Addr} {v4 v5 : Nat} (hS : ∀ g, S g → g < w.heap.size) (hU : UnW w k n s a l c k' n' s' a' l' c' wr) (hat : KsAt (w.heap.size + 3) S ks (.slice (some ⟨gk, 0, none⟩) m ck) wr) (hgk1 : w.heap.size + 3 ≤ gk) (hgk2 : gk < wr.heap.size) (hB : Below wr.heap.size wr w7)
    (hr : Rep (fun g => S g ∨ (wr.heap.size ≤ g ∧ g < w7.heap.size)) w7 b (.agg #[.int .u8 v0, .int .i64 v1, .string v2, .slice v3 v4 v5])) : Aft S w k n s a l c k' n' s' a' l' c' ks (.slice (some ⟨gk, 0, none⟩) m ck) b v0 v1 v2 v3 v4 v5 w7.heap.size (w7.alloc (tmO v0 v1 v2 v3 v4 v5)) := by
  have hz := hU.size
  have hz7 := hB.size
  have hB9 : Below wr.heap.size wr (w7.alloc (tmO v0 v1 v2 v3 v4 v5)) := hB.alloc hB.size _
  refine ⟨hU.keep hB9, alloc_here _ _, by omega, hr.keep (fun g hg => alloc_far _ _ ?_) (fun g hg => ⟨?_, ?_⟩), ks_keep hat (fun g hg => by have := hS g hg; omega) hz hB9⟩
  · rcases hg with hg | hg
    · have := hS g hg; omega
    · exact hg.2
  · rcases hg with hg | hg
    · exact .inl hg
    · exact .inr ⟨by omega, by simp; omega⟩
  · simp only [Value.ownBlock, ne_eq, Option.some.injEq]
    rcases hg with hg | hg
    · have := hS g hg; omega
    · omega
theorem Aft.set {S : Nat → Prop} {w wr w7 : World} {k n : Int} {s : ByteArray} {a : Option Addr} {l c : Nat} {k' n' : Int} {s' : ByteArray} {a' : Option Addr} {l' c' : Nat} {ks : List Tm} {gk ck m : Nat} {b : Tm} {v0 v1 : Int} {v2 : ByteArray} {v3 : Option Addr} {v4 v5 : Nat} (hS : ∀ g, S g → g < w.heap.size) (hU : UnW w k n s a l c k' n' s' a' l' c' wr) (hat : KsAt (w.heap.size + 3) S ks (.slice (some ⟨gk, 0, none⟩) m ck) wr) (hgk1 : w.heap.size + 3 ≤ gk) (hgk2 : gk < wr.heap.size) (hB : Below wr.heap.size wr w7)
    (h0 : w7.heap[wr.heap.size]? = some (tmO 0 0 ⟨#[]⟩ none 0 0)) (hr : Rep (fun g => S g ∨ (wr.heap.size < g ∧ g < w7.heap.size)) w7 b (.agg #[.int .u8 v0, .int .i64 v1, .string v2, .slice v3 v4 v5])) : Aft S w k n s a l c k' n' s' a' l' c' ks (.slice (some ⟨gk, 0, none⟩) m ck) b v0 v1 v2 v3 v4 v5 wr.heap.size (set4 w7 wr.heap.size (.int .u8 v0) (.int .i64 v1) (.string v2) (.slice v3 v4 v5)) := by
  have hz := hU.size
  have hz7 := hB.size
  have hB9 : Below wr.heap.size wr (set4 w7 wr.heap.size (.int .u8 v0) (.int .i64 v1) (.string v2) (.slice v3 v4 v5)) := set4_below hB (Nat.le_refl _) _ _ _ _
  refine ⟨hU.keep hB9, set4_here h0 _ _ _ _, by omega, hr.keep (fun g hg => set4_far _ _ _ _ _ _ _ ?_) (fun g hg => ⟨?_, ?_⟩), ks_keep hat (fun g hg => by have := hS g hg; omega) hz hB9⟩
  · rcases hg with hg | hg
    · have := hS g hg; omega
    · omega
  · rw [set4_size]
    rcases hg with hg | hg
    · exact .inl hg
    · exact .inr ⟨by omega, hg.2⟩
  · simp only [Value.ownBlock, ne_eq, Option.some.injEq]
    rcases hg with hg | hg
    · have := hS g hg; omega
    · omega
/-- The names are stored. -/
theorem Aft.name {S : Nat → Prop} {w W : World} {k n : Int} {s : ByteArray} {a : Option Addr} {l c : Nat} {k' n' : Int} {s' : ByteArray} {a' : Option Addr} {l' c' : Nat} {ks : List Tm} {row : Value} {b : Tm} {v0 v1 : Int} {v2 : ByteArray} {v3 : Option Addr} {v4 v5 p : Nat} (hS : ∀ g, S g → g < w.heap.size) (h : Aft S w k n s a l c k' n' s' a' l' c' ks row b v0 v1 v2 v3 v4 v5 p W) (r : ByteArray) : Aft S w k n r a l c k' n' s' a' l' c' ks row b v0 v1 v2 v3 v4 v5 p (W.setCell ⟨w.heap.size, 2, none⟩ (.string r)) := by
  have hl := h.low
  refine ⟨h.boxes.name r, (Below.heap_setCell _ _ _ _ (by simp; omega)).trans h.here, hl, h.rep.keep (fun g hg => Below.heap_setCell _ _ _ _ ?_) (fun g hg => ⟨hg.1.imp id (fun h => ⟨h.1, by simpa [World.setCell] using h.2⟩), hg.2⟩), ks_set h.row _ (show w.heap.size < w.heap.size + 3 by omega) (fun g hg => by have := hS g hg; show g ≠ w.heap.size; omega) _⟩
  rcases hg.1 with h | h
  · have := hS g h; show g ≠ w.heap.size; omega
  · show g ≠ w.heap.size; omega

end Go.Proofs.Ytojbffiffcfblaa
