import Derived.Test.YtkhdghbjififnaaDoorPuA
import Derived.Test.YtkhdghbjififnaaDoorMSp
import Derived.Test.YtkhdghbjififnaaDoorMCl
/- The specification's putting: rows of terms that are made, and what is put node by node. -/
namespace Go.Proofs.YtkhdghbjififnaaDoor
open Go.RowKit
open Ff
set_option linter.unusedVariables false

/-- The blocks in which a made row's terms may lie. -/
def InRow (base : Nat) (S : Nat → Prop) (W : World) (v : Value) (g : Nat) : Prop := (S g ∨ (base ≤ g ∧ g < W.heap.size)) ∧ some g ≠ v.ownBlock
/-- A row that lists the terms l. -/
def KsAt (base : Nat) (S : Nat → Prop) (l : List Tm) (v : Value) (W : World) : Prop :=
  ∃ xs : List Value, W.ownsRow base 27 4 v l.length xs ∧ v ≠ .slice none 0 0 ∧ ∀ i t, l[i]? = some t → Rep (InRow base S W v) W t (four (fun j => (xs[j]?).getD undef) i)
theorem ks_zero (w : World) (base : Nat) (S : Nat → Prop) (hb : base ≤ w.heap.size) : KsAt base S [] (.slice (some ⟨w.heap.size, 0, none⟩) 0 0) (w.alloc (.cells #[] 27)) :=
  ⟨[], World.ownsRow_lit w #[] 0 hb (by simp [maxLen]) (by simp), by simp, fun i t hi => by simp at hi⟩
theorem ks_keep {base : Nat} {S : Nat → Prop} {l : List Tm} {v : Value} {W W' : World} (h : KsAt base S l v W) (hS : ∀ g, S g → g < base) (hBW : base ≤ W.heap.size) (hb : Below W.heap.size W W') : KsAt base S l v W' := by
  obtain ⟨xs, hown, hv, hrep⟩ := h
  refine ⟨xs, World.ownsRow.kept (row := none) hown ⟨hb.os, hb.tape, hb.output, hb.size, fun j hj _ => hb.block j hj⟩ (by rcases ho : Value.ownBlock v with _ | j; exact .inl rfl; exact .inr (by simp)), hv, fun i t hi => (hrep i t hi).keep (fun g hg => hb.block g ?_) (fun g hg => ⟨hg.1.imp id (fun h => ⟨h.1, by have := hb.size; omega⟩), hg.2⟩)⟩
  rcases hg.1 with h | h
  · have := hS g h; omega
  · exact h.2
theorem ks_shape {base : Nat} {S : Nat → Prop} {l : List Tm} {v : Value} {W : World} (h : KsAt base S l v W) : ∃ g cap, v = .slice (some ⟨g, 0, none⟩) l.length cap ∧ base ≤ g ∧ g < W.heap.size := by
  obtain ⟨xs, hown, hv, _⟩ := h
  obtain ⟨_, ⟨h1, _⟩ | ⟨g, cap, cur, h1, h2, h3, _⟩⟩ := hown
  · exact absurd h1 hv
  · exact ⟨g, cap, h1, h2, (Array.getElem?_eq_some_iff.1 h3).1⟩
/-- A term behind the others. -/
theorem ks_round {base : Nat} {S : Nat → Prop} {l : List Tm} {t : Tm} {v v' c0 c1 c2 c3 : Value} {xs : List Value} {W1 W2 : World} {o : Obj} (hS : ∀ g, S g → g < base) (hB : base ≤ W1.heap.size) (hown : W1.ownsRow base 27 4 v l.length xs) (hv : v ≠ .slice none 0 0)
    (hrep : ∀ i t, l[i]? = some t → Rep (InRow base S W1 v) W1 t (four (fun j => (xs[j]?).getD undef) i)) (hr : Rep (InRow base S W1 v) W1 t (.agg #[c0, c1, c2, c3]))
    (hown' : W2.ownsRow base 27 4 v' (l.length + 1) (xs ++ [c0, c1, c2, c3])) (hgrow : (W1.alloc o).grownBy W2 v.ownBlock) (hnil : v' = .slice none 0 0 ↔ v = .slice none 0 0 ∧ 1 = 0) (hwhere : v'.ownBlock = v.ownBlock ∨ v'.ownBlock = some (W1.alloc o).heap.size) :
    KsAt base S (l ++ [t]) v' W2 := by
  obtain ⟨g, hg1, hg2, hg3⟩ := own_ne_nil hown hv
  have hz : (W1.alloc o).heap.size = W1.heap.size + 1 := by simp
  have hs2 := hgrow.size
  have hlen := hown.1
  have low : ∀ g', InRow base S W1 v g' → g' < W1.heap.size := fun g' h => by
    rcases h.1 with h | h
    · have := hS g' h; omega
    · exact h.2
  have keep : ∀ g', InRow base S W1 v g' → W2.heap[g']? = W1.heap[g']? := fun g' h => (hgrow.block g' (by have := low g' h; omega) h.2).trans (Below.heap_alloc _ _ _ (low g' h))
  have far : ∀ g', InRow base S W1 v g' → InRow base S W2 v' g' := by
    intro g' h
    have hl := low g' h
    refine ⟨h.1.imp id (fun h => ⟨h.1, by omega⟩), ?_⟩
    rcases hwhere with h' | h'
    · rw [h']; exact h.2
    · rw [h', hz]; simp; omega
  refine ⟨_, by simpa using hown', fun e => by have := (hnil.1 e).2; omega, fun i t' hi => ?_⟩
  by_cases hlt : i < l.length
  · rw [List.getElem?_append_left hlt] at hi
    have e : four (fun j => ((xs ++ [c0, c1, c2, c3])[j]?).getD undef) i = four (fun j => (xs[j]?).getD undef) i := by
      unfold four
      simp only [List.getElem?_append_left (show 4 * i < xs.length by omega), List.getElem?_append_left (show 4 * i + 1 < xs.length by omega), List.getElem?_append_left (show 4 * i + 2 < xs.length by omega), List.getElem?_append_left (show 4 * i + 3 < xs.length by omega)]
    rw [e]
    exact (hrep i t' hi).keep keep far
  · have hi0 : i = l.length := by
      have := (List.getElem?_eq_some_iff.1 hi).1
      simp at this
      omega
    subst hi0
    rw [List.getElem?_append_right (Nat.le_refl _)] at hi
    simp only [Nat.sub_self, List.getElem?_cons_zero, Option.some.injEq] at hi
    subst hi
    have e : four (fun j => ((xs ++ [c0, c1, c2, c3])[j]?).getD undef) l.length = .agg #[c0, c1, c2, c3] := by
      unfold four
      have e0 : 4 * l.length = xs.length := by omega
      simp [e0]
    rw [e]
    exact hr.keep keep far
/-- A row is a term's kids. -/
theorem ks_rep {base : Nat} {S : Nat → Prop} {l : List Tm} {g cap : Nat} {W W' : World} {t : Tm} (h : KsAt base S l (.slice (some ⟨g, 0, none⟩) l.length cap) W) (hS : ∀ g, S g → g < base) (hk : t.kids = l) (hs : W.heap.size ≤ W'.heap.size) (hb : ∀ g', (S g' ∨ (base ≤ g' ∧ g' < W.heap.size)) → W'.heap[g']? = W.heap[g']?) :
    Rep (fun g' => S g' ∨ (base ≤ g' ∧ g' < W'.heap.size)) W' t (tmHead t g cap) := by
  obtain ⟨xs, hown, hv, hrep⟩ := h
  obtain ⟨g0, e0, h1, h2⟩ := own_ne_nil hown hv
  obtain rfl : g = g0 := by simpa [Value.ownBlock] using e0
  have hlen := hown.1
  refine .mk t g cap (fun j => (xs[j]?).getD undef) (.inr ⟨h1, by omega⟩) (fun k hk2 => ?_) (fun i s hi => ?_)
  · rw [hk] at hk2
    obtain ⟨y, hy⟩ : ∃ y, xs[k]? = some y := ⟨_, List.getElem?_eq_getElem (by omega)⟩
    have c := hown.cells (g := g) rfl k y hy
    rw [Addr.add_lit, Nat.zero_add] at c
    rw [World.cell?_of_block (a := ⟨g, k, none⟩) (hb g (.inr ⟨h1, h2⟩)), c, hy]
    rfl
  · rw [hk] at hi
    exact (hrep i s hi).keep (fun g' hg' => hb g' hg'.1) (fun g' hg' => hg'.1.imp id (fun h => ⟨h.1, by omega⟩))
/-- The kids in which a name is put at once: all but a binder's body. -/
def qual (t : Tm) : List Tm := if bindsOf t = [] then t.kids else t.kids.dropLast
/-- Putting, node by node. -/
theorem sub_node (n : Nat) (x : UInt8) (u t : Tm) (hk : t.kids ≠ []) :
    (bindsOf t = [] → subS (n + 1) x u t = (reTm t [] ((qual t).map fun s => (subS n x u s).1), (qual t).all fun s => (subS n x u s).2)) ∧
    (bindsOf t ≠ [] → subS (n + 1) x u t = (reTm t (undS (subS n) (bindsOf t) (lastK t) x u).1 (((qual t).map fun s => (subS n x u s).1) ++ [(undS (subS n) (bindsOf t) (lastK t) x u).2.1]), ((qual t).all fun s => (subS n x u s).2) && (undS (subS n) (bindsOf t) (lastK t) x u).2.2)) := by
  cases t with
  | num _ => exact absurd rfl hk
  | var _ => exact absurd rfl hk
  | fn c b => exact ⟨(fun h => by cases h), fun _ => by simp [subS, reTm, qual, bindsOf, Tm.kids, lastK]⟩
  | fix f c b => exact ⟨(fun h => by cases h), fun _ => by simp [subS, reTm, qual, bindsOf, Tm.kids, lastK]⟩
  | app f a => exact ⟨fun _ => by simp [subS, reTm, qual, bindsOf, Tm.kids], fun h => absurd rfl h⟩
  | bind c v b => exact ⟨(fun h => by cases h), fun _ => by simp [subS, reTm, qual, bindsOf, Tm.kids, lastK]⟩
  | op o l r => exact ⟨fun _ => by simp [subS, reTm, qual, bindsOf, Tm.kids], fun h => absurd rfl h⟩
  | sel a b c => exact ⟨fun _ => by simp [subS, reTm, qual, bindsOf, Tm.kids, Bool.and_assoc], fun h => absurd rfl h⟩
end Go.Proofs.YtkhdghbjififnaaDoor
