import Derived.Test.YtkelncocppiepaaGreatDoorMPs
import Derived.Test.YtkelncocppiepaaGreatDoorPuW
import Derived.Test.YtkelncocppiepaaGreatDoorMTx
import Derived.Test.YtkelncocppiepaaGreatDoorMSc
import Derived.Test.YtkelncocppiepaaGreatDoorMCl
/- The specification's putting: a node that binds nothing. -/
namespace Go.Proofs.YtkelncocppiepaaGreatDoor
open Go.RowKit
open Ff
set_option linter.unusedVariables false

theorem grown_below {w w' : World} (h : Below w.heap.size w w') (row : Option Nat) : w.grownBy w' row := ⟨h.os, h.tape, h.output, h.size, fun k hk _ => h.block k hk⟩
/-- A kid's cells. -/
theorem kid_cells {S : Nat → Prop} {w : World} {t s : Tm} {g : Nat} {c : Nat → Value} {k : Nat} (hgS : g < w.heap.size) (hc : ∀ k, k < 4 * t.kids.length → w.cell? ⟨g, k, none⟩ = some (c k)) (hr : ∀ i s, t.kids[i]? = some s → Rep S w s (four c i)) (hs : t.kids[k]? = some s) :
    ∃ (y0 y1 : Int) (y2 : ByteArray) (y3 : Option Addr) (y4 y5 : Nat), Rep S w s (.agg #[.int .u8 y0, .int .i64 y1, .string y2, .slice y3 y4 y5]) ∧ ∀ W, Below w.heap.size w W →
      W.cell? ⟨g, k * 4, none⟩ = some (.int .u8 y0) ∧ W.cell? ⟨g, k * 4 + 1, none⟩ = some (.int .i64 y1) ∧ W.cell? ⟨g, k * 4 + 2, none⟩ = some (.string y2) ∧ W.cell? ⟨g, k * 4 + 3, none⟩ = some (.slice y3 y4 y5) := by
  have hlt := (List.getElem?_eq_some_iff.1 hs).1
  have h := hr k s hs
  obtain ⟨y0, y1, y2, y3, y4, y5, he⟩ := h.junk
  have h2 : Rep S w s (.agg #[.int .u8 y0, .int .i64 y1, .string y2, .slice y3 y4 y5]) := by rw [← he]; exact h
  unfold four at he
  simp only [Value.agg.injEq, Array.mk.injEq, List.cons.injEq, and_true] at he
  obtain ⟨i0, i1, i2, i3⟩ := he
  refine ⟨y0, y1, y2, y3, y4, y5, h2, fun W hW => ?_⟩
  have hcells : ∀ j, j < 4 → W.cell? ⟨g, 4 * k + j, none⟩ = some (c (4 * k + j)) := fun j hj => (hW.cell (p := ⟨g, 4 * k + j, none⟩) hgS).trans (hc (4 * k + j) (by omega))
  refine ⟨?_, ?_, ?_, ?_⟩
  · rw [← i0]; have := hcells 0 (by omega); rwa [Nat.mul_comm k 4]
  · rw [← i1]; have := hcells 1 (by omega); rwa [Nat.mul_comm k 4]
  · rw [← i2]; have := hcells 2 (by omega); rwa [Nat.mul_comm k 4]
  · rw [← i3]; have := hcells 3 (by omega); rwa [Nat.mul_comm k 4]
/-- What a call within a round leaves: the row as it was, and the term that is to be its next. -/
theorem round_made {S : Nat → Prop} {base : Nat} {l : List Tm} {t : Tm} {gk ck : Nat} {wr w3 : World} {o : Obj} {v0 v1 : Int} {v2 : ByteArray} {v3 : Option Addr} {v4 v5 : Nat} (hS : ∀ g, S g → g < base) (hB : base ≤ wr.heap.size) (hat : KsAt base S l (.slice (some ⟨gk, 0, none⟩) l.length ck) wr) (hb : Below (wr.alloc o).heap.size (wr.alloc o) w3)
    (hr : Rep (fun g => S g ∨ New (wr.alloc o) w3 g) w3 t (.agg #[.int .u8 v0, .int .i64 v1, .string v2, .slice v3 v4 v5])) :
    ∃ xs : List Value, (w3.alloc (tmO v0 v1 v2 v3 v4 v5)).ownsRow base 42 4 (.slice (some ⟨gk, 0, none⟩) l.length ck) l.length xs ∧
      (∀ i t, l[i]? = some t → Rep (InRow base S (w3.alloc (tmO v0 v1 v2 v3 v4 v5)) (.slice (some ⟨gk, 0, none⟩) l.length ck)) (w3.alloc (tmO v0 v1 v2 v3 v4 v5)) t (four (fun j => (xs[j]?).getD undef) i)) ∧
      Rep (InRow base S (w3.alloc (tmO v0 v1 v2 v3 v4 v5)) (.slice (some ⟨gk, 0, none⟩) l.length ck)) (w3.alloc (tmO v0 v1 v2 v3 v4 v5)) t (.agg #[.int .u8 v0, .int .i64 v1, .string v2, .slice v3 v4 v5]) ∧ Below wr.heap.size wr (w3.alloc (tmO v0 v1 v2 v3 v4 v5)) ∧ base ≤ gk ∧ gk < wr.heap.size := by
  have hz : (wr.alloc o).heap.size = wr.heap.size + 1 := by simp
  have hb0 : Below wr.heap.size wr (w3.alloc (tmO v0 v1 v2 v3 v4 v5)) := (((Below.refl _ wr).alloc (Nat.le_refl _) o).trans (hb.mono (by omega))).alloc (by have := hb.size; omega) _
  obtain ⟨g1, c1, e1, hg1, hg2⟩ := ks_shape hat
  obtain ⟨rfl⟩ : gk = g1 := by injection e1 with e1; injection e1 with e1; injection e1
  obtain ⟨xs, hown, hv, hrep⟩ := ks_keep hat hS hB hb0
  refine ⟨xs, hown, hrep, hr.keep (fun g hg => alloc_farP _ _ ?_) (fun g hg => ⟨?_, ?_⟩), hb0, hg1, hg2⟩
  · have := hb.size
    rcases hg with hg | hg
    · have := hS g hg; omega
    · exact hg.2
  · rcases hg with hg | hg
    · exact .inl hg
    · exact .inr ⟨by have := hg.1; omega, by have := hg.2; simp; omega⟩
  · simp only [Value.ownBlock, ne_eq, Option.some.injEq]
    rcases hg with hg | hg
    · have := hS g hg; omega
    · have := hg.1; omega

end Go.Proofs.YtkelncocppiepaaGreatDoor

/- The specification's putting: a node that binds names. -/
namespace Go.Proofs.YtkelncocppiepaaGreatDoor
open Go.RowKit
open Ff
set_option linter.unusedVariables false

theorem binds_nam {t : Tm} (h : t.good) : ∀ c ∈ bindsOf t, isNam c = true := by
  intro c hc
  cases t with
  | fn d b => simp [bindsOf] at hc; subst hc; exact h.1
  | fix f d b => simp [bindsOf] at hc; rcases hc with rfl | rfl; exact h.1; exact h.2.1
  | bind d v b => simp [bindsOf] at hc; subst hc; exact h.1
  | _ => simp [bindsOf] at hc
/-- A block of zeros, as its cells are read and written. -/
abbrev ZeroAt (W : World) (g : Nat) : Prop := W.cell? ⟨g, 0, none⟩ = some (.int .u8 0) ∧ W.cell? ⟨g, 1, none⟩ = some (.int .i64 0) ∧ W.cell? ⟨g, 2, none⟩ = some (.string ⟨#[]⟩) ∧ W.cell? ⟨g, 3, none⟩ = some (.slice none 0 0) ∧ W.frozen? ⟨g, 0, none⟩ = false ∧ W.frozen? ⟨g, 1, none⟩ = false ∧ W.frozen? ⟨g, 2, none⟩ = false ∧ W.frozen? ⟨g, 3, none⟩ = false
/-- A store into a block below a row leaves the row. -/
theorem ks_set {base : Nat} {S : Nat → Prop} {l : List Tm} {v : Value} {W : World} (h : KsAt base S l v W) (p : Addr) (hp : p.block < base) (hS : ∀ g, S g → g ≠ p.block) (u : Value) : KsAt base S l v (W.setCell p u) := by
  have hz : (W.setCell p u).heap.size = W.heap.size := by simp [World.setCell]
  obtain ⟨gk, ck, rfl, h1, h2⟩ := ks_shape h
  obtain ⟨xs, hown, hv, hrep⟩ := h
  refine ⟨xs, World.ownsRow.kept (row := some p.block) hown ⟨rfl, rfl, rfl, by omega, fun k _ hk => Below.heap_setCell _ _ _ _ (fun e => hk (by rw [e]))⟩ (.inr (by simp only [Value.ownBlock, ne_eq, Option.some.injEq]; omega)), hv, fun i t hi => (hrep i t hi).keep (fun g hg => Below.heap_setCell _ _ _ _ ?_) (fun g hg => ⟨hg.1.imp id (fun h => ⟨h.1, by omega⟩), hg.2⟩)⟩
  rcases hg.1 with h | h
  · exact hS g h
  · omega
theorem UnW.name {w W : World} {k n : Int} {s : ByteArray} {a : Option Addr} {l c : Nat} {k' n' : Int} {s' : ByteArray} {a' : Option Addr} {l' c' : Nat} (h : UnW w k n s a l c k' n' s' a' l' c' W) (r : ByteArray) : UnW w k n r a l c k' n' s' a' l' c' (W.setCell ⟨w.heap.size, 2, none⟩ (.string r)) := by
  refine ⟨by simp [World.setCell, Array.getElem?_modify, h.body], (Below.heap_setCell _ _ _ _ (by first | (simp; done) | (simp; omega))).trans h.put, (Below.heap_setCell _ _ _ _ (by first | (simp; done) | (simp; omega))).trans h.res, h.below.setCell (p := ⟨w.heap.size, 2, none⟩) (Nat.le_refl _) _, by simpa [World.setCell] using h.size⟩

/-- What stands behind the call for the body. -/
structure Aft (S : Nat → Prop) (w : World) (k n : Int) (s : ByteArray) (a : Option Addr) (l c : Nat) (k' n' : Int) (s' : ByteArray) (a' : Option Addr) (l' c' : Nat) (ks : List Tm) (row : Value) (b : Tm) (v0 v1 : Int) (v2 : ByteArray) (v3 : Option Addr) (v4 v5 : Nat) (p : Nat) (W : World) : Prop where
  boxes : UnW w k n s a l c k' n' s' a' l' c' W
  here : W.heap[p]? = some (tmO v0 v1 v2 v3 v4 v5)
  low : w.heap.size + 3 ≤ p
  rep : Rep (InRow (w.heap.size + 3) S W row) W b (.agg #[.int .u8 v0, .int .i64 v1, .string v2, .slice v3 v4 v5])
  row : KsAt (w.heap.size + 3) S ks row W
theorem Aft.new {S : Nat → Prop} {w wr w7 : World} {k n : Int} {s : ByteArray} {a : Option Addr} {l c : Nat} {k' n' : Int} {s' : ByteArray} {a' : Option Addr} {l' c' : Nat} {ks : List Tm} {gk ck m : Nat} {b : Tm} {v0 v1 : Int} {v2 : ByteArray} {v3 : Option Addr} {v4 v5 : Nat} (hS : ∀ g, S g → g < w.heap.size) (hU : UnW w k n s a l c k' n' s' a' l' c' wr) (hat : KsAt (w.heap.size + 3) S ks (.slice (some ⟨gk, 0, none⟩) m ck) wr) (hgk1 : w.heap.size + 3 ≤ gk) (hgk2 : gk < wr.heap.size) (hB : Below wr.heap.size wr w7)
    (hr : Rep (fun g => S g ∨ (wr.heap.size ≤ g ∧ g < w7.heap.size)) w7 b (.agg #[.int .u8 v0, .int .i64 v1, .string v2, .slice v3 v4 v5])) : Aft S w k n s a l c k' n' s' a' l' c' ks (.slice (some ⟨gk, 0, none⟩) m ck) b v0 v1 v2 v3 v4 v5 w7.heap.size (w7.alloc (tmO v0 v1 v2 v3 v4 v5)) := by
  have hz := hU.size
  have hz7 := hB.size
  have hB9 : Below wr.heap.size wr (w7.alloc (tmO v0 v1 v2 v3 v4 v5)) := hB.alloc hB.size _
  refine ⟨hU.keep hB9, alloc_here _ _, by omega, hr.keep (fun g hg => alloc_farP _ _ ?_) (fun g hg => ⟨?_, ?_⟩), ks_keep hat (fun g hg => by have := hS g hg; omega) hz hB9⟩
  · rcases hg with hg | hg
    · have := hS g hg; omega
    · exact hg.2
  · rcases hg with hg | hg
    · exact .inl hg
    · exact .inr ⟨by omega, by simp; omega⟩
  · simp only [Value.ownBlock, ne_eq, Option.some.injEq]
    rcases hg with hg | hg
    · have := hS g hg; omega
    · omega
theorem Aft.set {S : Nat → Prop} {w wr w7 : World} {k n : Int} {s : ByteArray} {a : Option Addr} {l c : Nat} {k' n' : Int} {s' : ByteArray} {a' : Option Addr} {l' c' : Nat} {ks : List Tm} {gk ck m : Nat} {b : Tm} {v0 v1 : Int} {v2 : ByteArray} {v3 : Option Addr} {v4 v5 : Nat} (hS : ∀ g, S g → g < w.heap.size) (hU : UnW w k n s a l c k' n' s' a' l' c' wr) (hat : KsAt (w.heap.size + 3) S ks (.slice (some ⟨gk, 0, none⟩) m ck) wr) (hgk1 : w.heap.size + 3 ≤ gk) (hgk2 : gk < wr.heap.size) (hB : Below wr.heap.size wr w7)
    (h0 : w7.heap[wr.heap.size]? = some (tmO 0 0 ⟨#[]⟩ none 0 0)) (hr : Rep (fun g => S g ∨ (wr.heap.size < g ∧ g < w7.heap.size)) w7 b (.agg #[.int .u8 v0, .int .i64 v1, .string v2, .slice v3 v4 v5])) : Aft S w k n s a l c k' n' s' a' l' c' ks (.slice (some ⟨gk, 0, none⟩) m ck) b v0 v1 v2 v3 v4 v5 wr.heap.size (set4 w7 wr.heap.size (.int .u8 v0) (.int .i64 v1) (.string v2) (.slice v3 v4 v5)) := by
  have hz := hU.size
  have hz7 := hB.size
  have hB9 : Below wr.heap.size wr (set4 w7 wr.heap.size (.int .u8 v0) (.int .i64 v1) (.string v2) (.slice v3 v4 v5)) := set4_below hB (Nat.le_refl _) _ _ _ _
  refine ⟨hU.keep hB9, set4_here h0 _ _ _ _, by omega, hr.keep (fun g hg => set4_farP _ _ _ _ _ _ _ ?_) (fun g hg => ⟨?_, ?_⟩), ks_keep hat (fun g hg => by have := hS g hg; omega) hz hB9⟩
  · rcases hg with hg | hg
    · have := hS g hg; omega
    · omega
  · rw [set4_size]
    rcases hg with hg | hg
    · exact .inl hg
    · exact .inr ⟨by omega, hg.2⟩
  · simp only [Value.ownBlock, ne_eq, Option.some.injEq]
    rcases hg with hg | hg
    · have := hS g hg; omega
    · omega
/-- The names are stored. -/
theorem Aft.name {S : Nat → Prop} {w W : World} {k n : Int} {s : ByteArray} {a : Option Addr} {l c : Nat} {k' n' : Int} {s' : ByteArray} {a' : Option Addr} {l' c' : Nat} {ks : List Tm} {row : Value} {b : Tm} {v0 v1 : Int} {v2 : ByteArray} {v3 : Option Addr} {v4 v5 p : Nat} (hS : ∀ g, S g → g < w.heap.size) (h : Aft S w k n s a l c k' n' s' a' l' c' ks row b v0 v1 v2 v3 v4 v5 p W) (r : ByteArray) : Aft S w k n r a l c k' n' s' a' l' c' ks row b v0 v1 v2 v3 v4 v5 p (W.setCell ⟨w.heap.size, 2, none⟩ (.string r)) := by
  have hl := h.low
  refine ⟨h.boxes.name r, (Below.heap_setCell _ _ _ _ (by simp; omega)).trans h.here, hl, h.rep.keep (fun g hg => Below.heap_setCell _ _ _ _ ?_) (fun g hg => ⟨hg.1.imp id (fun h => ⟨h.1, by simpa [World.setCell] using h.2⟩), hg.2⟩), ks_set h.row _ (show w.heap.size < w.heap.size + 3 by omega) (fun g hg => by have := hS g hg; show g ≠ w.heap.size; omega) _⟩
  rcases hg.1 with h | h
  · have := hS g h; show g ≠ w.heap.size; omega
  · show g ≠ w.heap.size; omega

end Go.Proofs.YtkelncocppiepaaGreatDoor

/- The specification's putting: terms without kids. -/
namespace Go.Proofs.YtkelncocppiepaaGreatDoor
open Go.RowKit
open Ff
set_option linter.unusedVariables false

theorem byte_ne {d c : UInt8} (h : d ≠ c) : (d == c) = false := by rw [beq_eq_false_iff_ne]; exact h
theorem below_threeP (w : World) (o1 o2 o3 : Obj) : Below w.heap.size w (((w.alloc o1).alloc o2).alloc o3) := (below_two w o1 o2).alloc (by simp; omega) o3
end Go.Proofs.YtkelncocppiepaaGreatDoor

/- The specification's putting, at every term; Put. -/
namespace Go.Proofs.YtkelncocppiepaaGreatDoor
open Go.RowKit
open Ff
set_option linter.unusedVariables false

theorem fits_read {t : Tm} (hg : t.good) : (readS (textN t)).isSome = fitsT t := by
  unfold fitsT
  rcases hr : readS (textN t) with _ | t'
  · rw [Option.isSome_none, eq_comm, Bool.and_eq_false_iff, decide_eq_false_iff_not, decide_eq_false_iff_not]
    apply Classical.byContradiction
    intro h
    simp only [not_or, Classical.not_not] at h
    rw [text_readS hg h.2 h.1] at hr
    cases hr
  · obtain ⟨r, h1, rfl, hlen⟩ := readS_some hr
    have e : t' = t := by
      have h2 := text_parse t hg (t.depth + t'.depth + (textN t).length) [] (by omega)
      rw [List.append_nil] at h2
      have h3 := (parse_any _ _ _ _ h1).2 (t.depth + t'.depth + (textN t).length) (by have := (parse_any _ _ _ _ h1).1; omega)
      rw [h2] at h3
      simp at h3
      exact h3.symm
    subst e
    have h2 := parse_depth _ _ _ _ h1
    simp [hlen, h2]
theorem Rep.low {S : Nat → Prop} {w : World} {t : Tm} {v : Value} {B : Nat} (h : Rep S w t v) (hS : ∀ g, S g → g < B) : Rep (fun g => g < B) w t v := h.keep (fun _ _ => rfl) (fun g hg => hS g hg)
theorem box_far {W : World} {b : Nat} {z0 z1 z2 z3 : Value} {t : TypeId} {o : Obj} (h : W.heap[b]? = some (.cells #[z0, z1, z2, z3] t (0, 0))) : (W.alloc o).heap[b]? = some (.cells #[z0, z1, z2, z3] t (0, 0)) := by
  rw [alloc_farP _ _ (Array.getElem?_eq_some_iff.1 h).1]; exact h
end Go.Proofs.YtkelncocppiepaaGreatDoor
