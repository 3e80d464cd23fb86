import Derived.Test.YtojbffiffcfblaaMPs
/- The specification's putting: a node that binds nothing. -/
namespace Go.Proofs.Ytojbffiffcfblaa
open Go.RowKit
open Ff
set_option linter.unusedVariables false

theorem grown_below {w w' : World} (h : Below w.heap.size w w') (row : Option Nat) : w.grownBy w' row := ⟨h.os, h.tape, h.output, h.size, fun k hk _ => h.block k hk⟩
/-- A kid's cells. -/
theorem kid_cells {S : Nat → Prop} {w : World} {t s : Tm} {g : Nat} {c : Nat → Value} {k : Nat} (hgS : g < w.heap.size) (hc : ∀ k, k < 4 * t.kids.length → w.cell? ⟨g, k, none⟩ = some (c k)) (hr : ∀ i s, t.kids[i]? = some s → Rep S w s (four c i)) (hs : t.kids[k]? = some s) :
    ∃ (y0 y1 : Int) (y2 : ByteArray) (y3 : Option Addr) (y4 y5 : Nat), Rep S w s (.agg #[.int .u8 y0, .int .i64 y1, .string y2, .slice y3 y4 y5]) ∧ ∀ W, Below w.heap.size w W →
      W.cell? ⟨g, k * 4, none⟩ = some (.int .u8 y0) ∧ W.cell? ⟨g, k * 4 + 1, none⟩ = some (.int .i64 y1) ∧ W.cell? ⟨g, k * 4 + 2, none⟩ = some (.string y2) ∧ W.cell? ⟨g, k * 4 + 3, none⟩ = some (.slice y3 y4 y5) := by
  have hlt := (List.getElem?_eq_some_iff.1 hs).1
  have h := hr k s hs
  obtain ⟨y0, y1, y2, y3, y4, y5, he⟩ := h.junk
  have h2 : Rep S w s (.agg #[.int .u8 y0, .int .i64 y1, .string y2, .slice y3 y4 y5]) := by rw [← he]; exact h
  unfold four at he
  simp only [Value.agg.injEq, Array.mk.injEq, List.cons.injEq, and_true] at he
  obtain ⟨i0, i1, i2, i3⟩ := he
  refine ⟨y0, y1, y2, y3, y4, y5, h2, fun W hW => ?_⟩
  have hcells : ∀ j, j < 4 → W.cell? ⟨g, 4 * k + j, none⟩ = some (c (4 * k + j)) := fun j hj => (hW.cell (p := ⟨g, 4 * k + j, none⟩) hgS).trans (hc (4 * k + j) (by omega))
  refine ⟨?_, ?_, ?_, ?_⟩
  · rw [← i0]; have := hcells 0 (by omega); rwa [Nat.mul_comm k 4]
  · rw [← i1]; have := hcells 1 (by omega); rwa [Nat.mul_comm k 4]
  · rw [← i2]; have := hcells 2 (by omega); rwa [Nat.mul_comm k 4]
  · rw [← i3]; have := hcells 3 (by omega); rwa [Nat.mul_comm k 4]
/-- What a call within a round leaves: the row as it was, and the term that is to be its next. -/
theorem round_made {S : Nat → Prop} {base : Nat} {l : List Tm} {t : Tm} {gk ck : Nat} {wr w3 : World} {o : Obj} {v0 v1 : Int} {v2 : ByteArray} {v3 : Option Addr} {v4 v5 : Nat} (hS : ∀ g, S g → g < base) (hB : base ≤ wr.heap.size) (hat : KsAt base S l (.slice (some ⟨gk, 0, none⟩) l.length ck) wr) (hb : Below (wr.alloc o).heap.size (wr.alloc o) w3)
    (hr : Rep (fun g => S g ∨ New (wr.alloc o) w3 g) w3 t (.agg #[.int .u8 v0, .int .i64 v1, .string v2, .slice v3 v4 v5])) :
    ∃ xs : List Value, (w3.alloc (tmO v0 v1 v2 v3 v4 v5)).ownsRow base 51 4 (.slice (some ⟨gk, 0, none⟩) l.length ck) l.length xs ∧
      (∀ i t, l[i]? = some t → Rep (InRow base S (w3.alloc (tmO v0 v1 v2 v3 v4 v5)) (.slice (some ⟨gk, 0, none⟩) l.length ck)) (w3.alloc (tmO v0 v1 v2 v3 v4 v5)) t (four (fun j => (xs[j]?).getD undef) i)) ∧
      Rep (InRow base S (w3.alloc (tmO v0 v1 v2 v3 v4 v5)) (.slice (some ⟨gk, 0, none⟩) l.length ck)) (w3.alloc (tmO v0 v1 v2 v3 v4 v5)) t (.agg #[.int .u8 v0, .int .i64 v1, .string v2, .slice v3 v4 v5]) ∧ Below wr.heap.size wr (w3.alloc (tmO v0 v1 v2 v3 v4 v5)) ∧ base ≤ gk ∧ gk < wr.heap.size := by
  have hz : (wr.alloc o).heap.size = wr.heap.size + 1 := by simp
  have hb0 : Below wr.heap.size wr (w3.alloc (tmO v0 v1 v2 v3 v4 v5)) := (((Below.refl _ wr).alloc (Nat.le_refl _) o).trans (hb.mono (by omega))).alloc (by have := hb.size; omega) _
  obtain ⟨g1, c1, e1, hg1, hg2⟩ := ks_shape hat
  obtain ⟨rfl⟩ : gk = g1 := by injection e1 with e1; injection e1 with e1; injection e1
  obtain ⟨xs, hown, hv, hrep⟩ := ks_keep hat hS hB hb0
  refine ⟨xs, hown, hrep, hr.keep (fun g hg => alloc_far _ _ ?_) (fun g hg => ⟨?_, ?_⟩), hb0, hg1, hg2⟩
  · have := hb.size
    rcases hg with hg | hg
    · have := hS g hg; omega
    · exact hg.2
  · rcases hg with hg | hg
    · exact .inl hg
    · exact .inr ⟨by have := hg.1; omega, by have := hg.2; simp; omega⟩
  · simp only [Value.ownBlock, ne_eq, Option.some.injEq]
    rcases hg with hg | hg
    · have := hS g hg; omega
    · have := hg.1; omega

end Go.Proofs.Ytojbffiffcfblaa
