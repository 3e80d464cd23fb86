import Derived.Test.YtkelncocppiepaaGreatDoorPuA
import Derived.Test.YtkelncocppiepaaGreatDoorMSp
import Derived.Test.YtkelncocppiepaaGreatDoorMCl
import Derived.Test.YtkelncocppiepaaGreatDoorMUq
import Derived.Deep.RegionHeld3
/- The specification's putting: rows of terms that are made, and what is put node by node. -/
namespace Go.Proofs.YtkelncocppiepaaGreatDoor
open Go.RowKit
open Ff
set_option linter.unusedVariables false

/-- The blocks in which a made row's terms may lie. -/
def InRow (base : Nat) (S : Nat → Prop) (W : World) (v : Value) (g : Nat) : Prop := (S g ∨ (base ≤ g ∧ g < W.heap.size)) ∧ some g ≠ v.ownBlock
/-- A row that lists the terms l. -/
def KsAt (base : Nat) (S : Nat → Prop) (l : List Tm) (v : Value) (W : World) : Prop :=
  ∃ xs : List Value, W.ownsRow base 42 4 v l.length xs ∧ v ≠ .slice none 0 0 ∧ ∀ i t, l[i]? = some t → Rep (InRow base S W v) W t (four (fun j => (xs[j]?).getD undef) i)
theorem ks_zero (w : World) (base : Nat) (S : Nat → Prop) (hb : base ≤ w.heap.size) : KsAt base S [] (.slice (some ⟨w.heap.size, 0, none⟩) 0 0) (w.alloc (.cells #[] 42)) :=
  ⟨[], World.ownsRow_lit w #[] 0 hb (by simp [maxLen]) (by simp), by simp, fun i t hi => by simp at hi⟩
theorem ks_keep {base : Nat} {S : Nat → Prop} {l : List Tm} {v : Value} {W W' : World} (h : KsAt base S l v W) (hS : ∀ g, S g → g < base) (hBW : base ≤ W.heap.size) (hb : Below W.heap.size W W') : KsAt base S l v W' := by
  obtain ⟨xs, hown, hv, hrep⟩ := h
  refine ⟨xs, World.ownsRow.kept (row := none) hown ⟨hb.os, hb.tape, hb.output, hb.size, fun j hj _ => hb.block j hj⟩ (by rcases ho : Value.ownBlock v with _ | j; exact .inl rfl; exact .inr (by simp)), hv, fun i t hi => (hrep i t hi).keep (fun g hg => hb.block g ?_) (fun g hg => ⟨hg.1.imp id (fun h => ⟨h.1, by have := hb.size; omega⟩), hg.2⟩)⟩
  rcases hg.1 with h | h
  · have := hS g h; omega
  · exact h.2
theorem ks_shape {base : Nat} {S : Nat → Prop} {l : List Tm} {v : Value} {W : World} (h : KsAt base S l v W) : ∃ g cap, v = .slice (some ⟨g, 0, none⟩) l.length cap ∧ base ≤ g ∧ g < W.heap.size := by
  obtain ⟨xs, hown, hv, _⟩ := h
  obtain ⟨_, ⟨h1, _⟩ | ⟨g, cap, cur, h1, h2, h3, _⟩⟩ := hown
  · exact absurd h1 hv
  · exact ⟨g, cap, h1, h2, (Array.getElem?_eq_some_iff.1 h3).1⟩
/-- A term behind the others. -/
theorem ks_round {base : Nat} {S : Nat → Prop} {l : List Tm} {t : Tm} {v v' c0 c1 c2 c3 : Value} {xs : List Value} {W1 W2 : World} {o : Obj} (hS : ∀ g, S g → g < base) (hB : base ≤ W1.heap.size) (hown : W1.ownsRow base 42 4 v l.length xs) (hv : v ≠ .slice none 0 0)
    (hrep : ∀ i t, l[i]? = some t → Rep (InRow base S W1 v) W1 t (four (fun j => (xs[j]?).getD undef) i)) (hr : Rep (InRow base S W1 v) W1 t (.agg #[c0, c1, c2, c3]))
    (hown' : W2.ownsRow base 42 4 v' (l.length + 1) (xs ++ [c0, c1, c2, c3])) (hgrow : (W1.alloc o).grownBy W2 v.ownBlock) (hnil : v' = .slice none 0 0 ↔ v = .slice none 0 0 ∧ 1 = 0) (hwhere : v'.ownBlock = v.ownBlock ∨ v'.ownBlock = some (W1.alloc o).heap.size) :
    KsAt base S (l ++ [t]) v' W2 := by
  obtain ⟨g, hg1, hg2, hg3⟩ := own_ne_nil hown hv
  have hz : (W1.alloc o).heap.size = W1.heap.size + 1 := by simp
  have hs2 := hgrow.size
  have hlen := hown.1
  have low : ∀ g', InRow base S W1 v g' → g' < W1.heap.size := fun g' h => by
    rcases h.1 with h | h
    · have := hS g' h; omega
    · exact h.2
  have keep : ∀ g', InRow base S W1 v g' → W2.heap[g']? = W1.heap[g']? := fun g' h => (hgrow.block g' (by have := low g' h; omega) h.2).trans (Below.heap_alloc _ _ _ (low g' h))
  have far : ∀ g', InRow base S W1 v g' → InRow base S W2 v' g' := by
    intro g' h
    have hl := low g' h
    refine ⟨h.1.imp id (fun h => ⟨h.1, by omega⟩), ?_⟩
    rcases hwhere with h' | h'
    · rw [h']; exact h.2
    · rw [h', hz]; simp; omega
  refine ⟨_, by simpa using hown', fun e => by have := (hnil.1 e).2; omega, fun i t' hi => ?_⟩
  by_cases hlt : i < l.length
  · rw [List.getElem?_append_left hlt] at hi
    have e : four (fun j => ((xs ++ [c0, c1, c2, c3])[j]?).getD undef) i = four (fun j => (xs[j]?).getD undef) i := by
      unfold four
      simp only [List.getElem?_append_left (show 4 * i < xs.length by omega), List.getElem?_append_left (show 4 * i + 1 < xs.length by omega), List.getElem?_append_left (show 4 * i + 2 < xs.length by omega), List.getElem?_append_left (show 4 * i + 3 < xs.length by omega)]
    rw [e]
    exact (hrep i t' hi).keep keep far
  · have hi0 : i = l.length := by
      have := (List.getElem?_eq_some_iff.1 hi).1
      simp at this
      omega
    subst hi0
    rw [List.getElem?_append_right (Nat.le_refl _)] at hi
    simp only [Nat.sub_self, List.getElem?_cons_zero, Option.some.injEq] at hi
    subst hi
    have e : four (fun j => ((xs ++ [c0, c1, c2, c3])[j]?).getD undef) l.length = .agg #[c0, c1, c2, c3] := by
      unfold four
      have e0 : 4 * l.length = xs.length := by omega
      simp [e0]
    rw [e]
    exact hr.keep keep far
/-- A row is a term's kids. -/
theorem ks_rep {base : Nat} {S : Nat → Prop} {l : List Tm} {g cap : Nat} {W W' : World} {t : Tm} (h : KsAt base S l (.slice (some ⟨g, 0, none⟩) l.length cap) W) (hS : ∀ g, S g → g < base) (hk : t.kids = l) (hs : W.heap.size ≤ W'.heap.size) (hb : ∀ g', (S g' ∨ (base ≤ g' ∧ g' < W.heap.size)) → W'.heap[g']? = W.heap[g']?) :
    Rep (fun g' => S g' ∨ (base ≤ g' ∧ g' < W'.heap.size)) W' t (tmHead t g cap) := by
  obtain ⟨xs, hown, hv, hrep⟩ := h
  obtain ⟨g0, e0, h1, h2⟩ := own_ne_nil hown hv
  obtain rfl : g = g0 := by simpa [Value.ownBlock] using e0
  have hlen := hown.1
  refine .mk t g cap (fun j => (xs[j]?).getD undef) (.inr ⟨h1, by omega⟩) (fun k hk2 => ?_) (fun i s hi => ?_) (by rw [hk]; exact own_cap hown)
  · rw [hk] at hk2
    obtain ⟨y, hy⟩ : ∃ y, xs[k]? = some y := ⟨_, List.getElem?_eq_getElem (by omega)⟩
    have c := hown.cells (g := g) rfl k y hy
    rw [Addr.add_lit, Nat.zero_add] at c
    rw [World.cell?_of_block (a := ⟨g, k, none⟩) (hb g (.inr ⟨h1, h2⟩)), c, hy]
    rfl
  · rw [hk] at hi
    exact (hrep i s hi).keep (fun g' hg' => hb g' hg'.1) (fun g' hg' => hg'.1.imp id (fun h => ⟨h.1, by omega⟩))
/-- The kids in which a name is put at once: all but a binder's body. -/
def qual (t : Tm) : List Tm := if bindsOf t = [] then t.kids else t.kids.dropLast
/-- Putting, node by node. -/
theorem sub_node (n : Nat) (x : UInt8) (u t : Tm) (hk : t.kids ≠ []) :
    (bindsOf t = [] → subS (n + 1) x u t = (reTm t [] ((qual t).map fun s => (subS n x u s).1), (qual t).all fun s => (subS n x u s).2)) ∧
    (bindsOf t ≠ [] → subS (n + 1) x u t = (reTm t (undS (subS n) (bindsOf t) (lastK t) x u).1 (((qual t).map fun s => (subS n x u s).1) ++ [(undS (subS n) (bindsOf t) (lastK t) x u).2.1]), ((qual t).all fun s => (subS n x u s).2) && (undS (subS n) (bindsOf t) (lastK t) x u).2.2)) := by
  cases t with
  | num _ => exact absurd rfl hk
  | var _ => exact absurd rfl hk
  | fn c b => exact ⟨(fun h => by cases h), fun _ => by simp [subS, reTm, qual, bindsOf, Tm.kids, lastK]⟩
  | fix f c b => exact ⟨(fun h => by cases h), fun _ => by simp [subS, reTm, qual, bindsOf, Tm.kids, lastK]⟩
  | app f a => exact ⟨fun _ => by simp [subS, reTm, qual, bindsOf, Tm.kids], fun h => absurd rfl h⟩
  | bind c v b => exact ⟨(fun h => by cases h), fun _ => by simp [subS, reTm, qual, bindsOf, Tm.kids, lastK]⟩
  | op o l r => exact ⟨fun _ => by simp [subS, reTm, qual, bindsOf, Tm.kids], fun h => absurd rfl h⟩
  | sel a b c => exact ⟨fun _ => by simp [subS, reTm, qual, bindsOf, Tm.kids, Bool.and_assoc], fun h => absurd rfl h⟩
end Go.Proofs.YtkelncocppiepaaGreatDoor

/- The specification's putting under a binder. -/
namespace Go.Proofs.YtkelncocppiepaaGreatDoor
open Go.RowKit
open Ff
set_option linter.unusedVariables false

theorem cells4 {w : World} {b : Nat} {z0 z1 z2 z3 : Value} {t : TypeId} (h : w.heap[b]? = some (.cells #[z0, z1, z2, z3] t (0, 0))) : w.cell? ⟨b, 0, none⟩ = some z0 ∧ w.cell? ⟨b, 1, none⟩ = some z1 ∧ w.cell? ⟨b, 2, none⟩ = some z2 ∧ w.cell? ⟨b, 3, none⟩ = some z3 ∧ w.frozen? ⟨b, 0, none⟩ = false ∧ w.frozen? ⟨b, 1, none⟩ = false ∧ w.frozen? ⟨b, 2, none⟩ = false ∧ w.frozen? ⟨b, 3, none⟩ = false := by
  refine ⟨?_, ?_, ?_, ?_, ?_, ?_, ?_, ?_⟩ <;> simp [World.cell?, World.frozen?, h]
abbrev tmO (k n : Int) (s : ByteArray) (a : Option Addr) (l c : Nat) : Obj := .cells #[.int .u8 k, .int .i64 n, .string s, .slice a l c] 42
abbrev set4 (W : World) (b : Nat) (z0 z1 z2 z3 : Value) : World := (((W.setCell ⟨b, 0, none⟩ z0).setCell ⟨b, 1, none⟩ z1).setCell ⟨b, 2, none⟩ z2).setCell ⟨b, 3, none⟩ z3
theorem set4_farP (W : World) (b : Nat) (z0 z1 z2 z3 : Value) (g : Nat) (h : g ≠ b) : (set4 W b z0 z1 z2 z3).heap[g]? = W.heap[g]? :=
  (Below.heap_setCell _ _ _ _ (by simpa using h)).trans ((Below.heap_setCell _ _ _ _ (by simpa using h)).trans ((Below.heap_setCell _ _ _ _ (by simpa using h)).trans (Below.heap_setCell _ _ _ _ (by simpa using h))))
theorem set4_size (W : World) (b : Nat) (z0 z1 z2 z3 : Value) : (set4 W b z0 z1 z2 z3).heap.size = W.heap.size := by simp [World.setCell]
theorem set4_below {B b : Nat} {w W : World} (h : Below B w W) (hb : B ≤ b) (z0 z1 z2 z3 : Value) : Below B w (set4 W b z0 z1 z2 z3) :=
  (((h.setCell (p := ⟨b, 0, none⟩) hb _).setCell (p := ⟨b, 1, none⟩) hb _).setCell (p := ⟨b, 2, none⟩) hb _).setCell (p := ⟨b, 3, none⟩) hb _
theorem alloc_here (w : World) (o : Obj) : (w.alloc o).heap[w.heap.size]? = some o := World.alloc_heap_new w o
theorem alloc_farP (w : World) (o : Obj) {g : Nat} (h : g < w.heap.size) : (w.alloc o).heap[g]? = w.heap[g]? := Below.heap_alloc _ _ _ h
/-- The three boxes of l2Under: the body, what is put, the result. -/
structure UnW (w : World) (k n : Int) (s : ByteArray) (a : Option Addr) (l c : Nat) (k' n' : Int) (s' : ByteArray) (a' : Option Addr) (l' c' : Nat) (W : World) : Prop where
  body : W.heap[w.heap.size]? = some (tmO k n s a l c)
  put : W.heap[w.heap.size + 1]? = some (tmO k' n' s' a' l' c')
  res : W.heap[w.heap.size + 1 + 1]? = some (tmO 0 0 ⟨#[]⟩ none 0 0)
  below : Below w.heap.size w W
  size : w.heap.size + 3 ≤ W.heap.size
theorem UnW.keep {w W W' : World} {k n : Int} {s : ByteArray} {a : Option Addr} {l c : Nat} {k' n' : Int} {s' : ByteArray} {a' : Option Addr} {l' c' : Nat} (h : UnW w k n s a l c k' n' s' a' l' c' W) (hb : Below W.heap.size W W') : UnW w k n s a l c k' n' s' a' l' c' W' := by
  have hs := h.size
  exact ⟨(hb.block _ (by omega)).trans h.body, (hb.block _ (by omega)).trans h.put, (hb.block _ (by omega)).trans h.res, h.below.trans (hb.mono (by omega)), by have := hb.size; omega⟩
theorem UnW.new (w : World) (k n : Int) (s : ByteArray) (a : Option Addr) (l c : Nat) (k' n' : Int) (s' : ByteArray) (a' : Option Addr) (l' c' : Nat) : UnW w k n s a l c k' n' s' a' l' c' (((w.alloc (tmO k n s a l c)).alloc (tmO k' n' s' a' l' c')).alloc (tmO 0 0 ⟨#[]⟩ none 0 0)) := by
  have z1 : (w.alloc (tmO k n s a l c)).heap.size = w.heap.size + 1 := by simp
  have z2 : ((w.alloc (tmO k n s a l c)).alloc (tmO k' n' s' a' l' c')).heap.size = w.heap.size + 1 + 1 := by simp
  refine ⟨?_, ?_, ?_, ?_, ?_⟩
  · rw [alloc_farP _ _ (by omega), alloc_farP _ _ (by omega)]; exact alloc_here _ _
  · rw [alloc_farP _ _ (by omega), ← z1]; exact alloc_here _ _
  · rw [← z2]; exact alloc_here _ _
  · exact (below_two w _ _).alloc (by omega) _
  · simp
/-- What putting under a binder comes to. -/
def UndSP (S : Nat → Prop) (w : World) (r : Text × Tm × Bool) (e : Ending) (w' : World) : Prop := ∃ v, e = .returned (.tuple #[.string ⟨r.1.toArray⟩, v, .bool r.2.2]) ∧ Below w.heap.size w w' ∧ Rep (fun g => S g ∨ New w w' g) w' r.2.1 v
end Go.Proofs.YtkelncocppiepaaGreatDoor

/- The specification's putting under a binder: names that get other ones. -/
namespace Go.Proofs.YtkelncocppiepaaGreatDoor
open Go.RowKit
open Ff
set_option linter.unusedVariables false

theorem stepsS_left_stay (sub : UInt8 → Tm → Tm → Tm × Bool) (fr : Text) (x : UInt8) (ns : Text) (b : Tm) (k : Nat) (h : (stepsS sub fr x ns b k).left = true) : ∀ j, stepsS sub fr x ns b (k + j) = stepsS sub fr x ns b k
  | 0 => rfl
  | j + 1 => by
    rw [show k + (j + 1) = (k + j) + 1 from rfl, stepsS, stepsS_left_stay sub fr x ns b k h j, stepS_left _ _ _ _ _ h]
/-- The blocks in which a body may lie in the midst. -/
abbrev MidS (S : Nat → Prop) (w W : World) (g : Nat) : Prop := S g ∨ (w.heap.size + 3 ≤ g ∧ g < W.heap.size)
/-- What stands at the head of a round. -/
structure MidAt (S : Nat → Prop) (w : World) (s : Bs) (k n : Int) (t : ByteArray) (a : Option Addr) (l c : Nat) (u0 u1 : Int) (u2 : ByteArray) (u3 : Option Addr) (u4 u5 : Nat) (W : World) : Prop where
  boxes : UnW w k n t a l c u0 u1 u2 u3 u4 u5 W
  rep : Rep (MidS S w W) W s.b (.agg #[.int .u8 k, .int .i64 n, .string t, .slice a l c])
theorem MidAt.keep {S : Nat → Prop} {w W W' : World} {s : Bs} {k n : Int} {t : ByteArray} {a : Option Addr} {l c : Nat} {u0 u1 : Int} {u2 : ByteArray} {u3 : Option Addr} {u4 u5 : Nat} (h : MidAt S w s k n t a l c u0 u1 u2 u3 u4 u5 W) (hS : ∀ g, S g → g < w.heap.size) (hb : Below W.heap.size W W') : MidAt S w s k n t a l c u0 u1 u2 u3 u4 u5 W' := by
  have hz := h.boxes.size
  refine ⟨h.boxes.keep hb, h.rep.keep (fun g hg => hb.block g ?_) (fun g hg => hg.imp id (fun h => ⟨h.1, by have := hb.size; omega⟩))⟩
  rcases hg with hg | hg
  · have := hS g hg; omega
  · exact hg.2
theorem UnW.set {w W : World} {k n : Int} {s : ByteArray} {a : Option Addr} {l c : Nat} {k' n' : Int} {s' : ByteArray} {a' : Option Addr} {l' c' : Nat} (h : UnW w k n s a l c k' n' s' a' l' c' W) (g : Nat) (hg : w.heap.size + 3 ≤ g) (z0 z1 z2 z3 : Value) : UnW w k n s a l c k' n' s' a' l' c' (set4 W g z0 z1 z2 z3) :=
  ⟨(set4_farP _ _ _ _ _ _ _ (by omega)).trans h.body, (set4_farP _ _ _ _ _ _ _ (by omega)).trans h.put, (set4_farP _ _ _ _ _ _ _ (by omega)).trans h.res, set4_below h.below (by omega) _ _ _ _, by rw [set4_size]; exact h.size⟩
theorem set4_here {W : World} {b : Nat} {y0 y1 y2 y3 : Value} {t : TypeId} (h : W.heap[b]? = some (.cells #[y0, y1, y2, y3] t (0, 0))) (z0 z1 z2 z3 : Value) : (set4 W b z0 z1 z2 z3).heap[b]? = some (.cells #[z0, z1, z2, z3] t (0, 0)) := by
  simp [World.setCell, Array.getElem?_modify, h]
theorem UnW.store {w W : World} {k n : Int} {s : ByteArray} {a : Option Addr} {l c : Nat} {k' n' : Int} {s' : ByteArray} {a' : Option Addr} {l' c' : Nat} (h : UnW w k n s a l c k' n' s' a' l' c' W) (z0 z1 : Int) (z2 : ByteArray) (z3 : Option Addr) (z4 z5 : Nat) : UnW w z0 z1 z2 z3 z4 z5 k' n' s' a' l' c' (set4 W w.heap.size (.int .u8 z0) (.int .i64 z1) (.string z2) (.slice z3 z4 z5)) :=
  ⟨set4_here h.body _ _ _ _, (set4_farP _ _ _ _ _ _ _ (by omega)).trans h.put, (set4_farP _ _ _ _ _ _ _ (by omega)).trans h.res, set4_below h.below (Nat.le_refl _) _ _ _ _, by rw [set4_size]; exact h.size⟩
theorem MidAt.store {S : Nat → Prop} {w W : World} {s : Bs} {k n : Int} {t : ByteArray} {a : Option Addr} {l c : Nat} {u0 u1 : Int} {u2 : ByteArray} {u3 : Option Addr} {u4 u5 : Nat} {z0 z1 : Int} {z2 : ByteArray} {z3 : Option Addr} {z4 z5 : Nat} (h : UnW w k n t a l c u0 u1 u2 u3 u4 u5 W) (hS : ∀ g, S g → g < w.heap.size) (hr : Rep (MidS S w W) W s.b (.agg #[.int .u8 z0, .int .i64 z1, .string z2, .slice z3 z4 z5])) : MidAt S w s z0 z1 z2 z3 z4 z5 u0 u1 u2 u3 u4 u5 (set4 W w.heap.size (.int .u8 z0) (.int .i64 z1) (.string z2) (.slice z3 z4 z5)) :=
  ⟨h.store _ _ _ _ _ _, hr.keep (fun g hg => set4_farP _ _ _ _ _ _ _ (by
    rcases hg with hg | hg
    · have := hS g hg; omega
    · have := hg.1; omega)) (fun g hg => hg.imp id (fun h => ⟨h.1, by rw [set4_size]; exact h.2⟩))⟩
theorem set_bytes (ns : Text) (i : Nat) (d : UInt8) (h : i < ns.length) : ((⟨ns.toArray⟩ : ByteArray).extract 0 i ++ ⟨#[d]⟩ ++ (⟨ns.toArray⟩ : ByteArray).extract (i + 1) ns.length : ByteArray) = ⟨(ns.set i d).toArray⟩ := by
  apply ba_ext
  simp [ByteArray.data_append, ByteArray.data_extract, List.set_eq_take_append_cons_drop, h]
  exact List.take_of_length_le (by simp)
theorem UnW.limbs {w V W : World} {m : Nat} {k n : Int} {s : ByteArray} {a : Option Addr} {l c : Nat} {k' n' : Int} {s' : ByteArray} {a' : Option Addr} {l' c' : Nat} (h : UnW w k n s a l c k' n' s' a' l' c' W) (hb : Below m V W) : (W.cell? ⟨w.heap.size, 0, none⟩ = some (.int .u8 k) ∧ W.cell? ⟨w.heap.size, 1, none⟩ = some (.int .i64 n) ∧ W.cell? ⟨w.heap.size, 2, none⟩ = some (.string s) ∧ W.cell? ⟨w.heap.size, 3, none⟩ = some (.slice a l c)) ∧ UnW w k n s a l c k' n' s' a' l' c' W ∧ Below m V W :=
  have d := cells4 h.body
  ⟨⟨d.1, d.2.1, d.2.2.1, d.2.2.2.1⟩, h, hb⟩
end Go.Proofs.YtkelncocppiepaaGreatDoor

/- The specification's putting: what a node comes to (pure), and terms without kids. -/
namespace Go.Proofs.YtkelncocppiepaaGreatDoor
open Go.RowKit
open Ff
set_option linter.unusedVariables false

theorem undS_len (n : Nat) (ns : Text) (b : Tm) (x : UInt8) (u : Tm) : (undS (subS n) ns b x u).1.length = ns.length := by
  have K := (stepsS_keep (fun y d t hd => subS_like n y d t hd) (sfree u) x ns b ns.length).len
  unfold undS
  split
  · rfl
  · split <;> exact K
/-- What stands behind the kids in which a name is put at once. -/
theorem qual_plain {t : Tm} (h : bindsOf t = []) : qual t = t.kids := by unfold qual; rw [if_pos h]
theorem qual_bind {t : Tm} (h : bindsOf t ≠ []) : qual t = t.kids.dropLast := by unfold qual; rw [if_neg h]
theorem binds_kids {t : Tm} (h : bindsOf t ≠ []) : t.kids ≠ [] ∧ namesOf t = bindsOf t := by cases t <;> simp_all [bindsOf, Tm.kids, namesOf]
theorem plain_names {t : Tm} (hk : t.kids ≠ []) (h : bindsOf t = []) : namesOf t = [] := by cases t <;> simp_all [bindsOf, Tm.kids, namesOf]
theorem kid_last {t : Tm} (h : t.kids ≠ []) : t.kids[t.kids.length - 1]? = some (lastK t) := by cases t <;> simp_all [Tm.kids, lastK]
/-- A node that binds nothing. -/
theorem sub_plain (n : Nat) (x : UInt8) (u t : Tm) (hk : t.kids ≠ []) (hb : bindsOf t = []) :
    kindOf (subS (n + 1) x u t).1 = kindOf t ∧ numOf (subS (n + 1) x u t).1 = numOf t ∧ namesOf (subS (n + 1) x u t).1 = [] ∧ (subS (n + 1) x u t).1.kids = (qual t).map (fun s => (subS n x u s).1) ∧ (subS (n + 1) x u t).2 = (qual t).all (fun s => (subS n x u s).2) := by
  rw [(sub_node n x u t hk).1 hb, qual_plain hb]
  cases t <;> simp_all [bindsOf, Tm.kids, reTm, kindOf, numOf, namesOf]
/-- A node that binds names. -/
theorem sub_binds (n : Nat) (x : UInt8) (u t : Tm) (hb : bindsOf t ≠ []) :
    kindOf (subS (n + 1) x u t).1 = kindOf t ∧ numOf (subS (n + 1) x u t).1 = numOf t ∧ namesOf (subS (n + 1) x u t).1 = (undS (subS n) (bindsOf t) (lastK t) x u).1 ∧ (subS (n + 1) x u t).1.kids = (qual t).map (fun s => (subS n x u s).1) ++ [(undS (subS n) (bindsOf t) (lastK t) x u).2.1] ∧
      (subS (n + 1) x u t).2 = ((qual t).all (fun s => (subS n x u s).2) && (undS (subS n) (bindsOf t) (lastK t) x u).2.2) := by
  have hl := undS_len n (bindsOf t) (lastK t) x u
  rw [(sub_node n x u t (binds_kids hb).1).2 hb, qual_bind hb]
  cases t with
  | fn c b =>
    obtain ⟨c', e0⟩ := one_of hl
    have e : (undS (subS n) [c] b x u).1 = [c'] := e0
    simp [bindsOf, Tm.kids, reTm, kindOf, numOf, namesOf, lastK, e]
  | fix f c b =>
    obtain ⟨f', c', e0⟩ := two_of' hl
    have e : (undS (subS n) [f, c] b x u).1 = [f', c'] := e0
    simp [bindsOf, Tm.kids, reTm, kindOf, numOf, namesOf, lastK, e]
  | bind c v b =>
    obtain ⟨c', e0⟩ := one_of hl
    have e : (undS (subS n) [c] b x u).1 = [c'] := e0
    simp [bindsOf, Tm.kids, reTm, kindOf, numOf, namesOf, lastK, e]
  | num _ => exact absurd rfl hb
  | var _ => exact absurd rfl hb
  | app _ _ => exact absurd rfl hb
  | op _ _ _ => exact absurd rfl hb
  | sel _ _ _ => exact absurd rfl hb
theorem take_snoc {α : Type} {l : List α} {k : Nat} {s : α} (h : l[k]? = some s) : l.take (k + 1) = l.take k ++ [s] := by
  rw [List.take_add_one, h]
  rfl
theorem kind_sub_var (t : Tm) (h : t.kids ≠ []) (hg : t.good) : kindOf t ≠ 118 := by
  cases t with
  | op s l r => rcases hg.1 with h | h | h <;> subst h <;> simp [kindOf]
  | var c => exact absurd rfl h
  | num c => exact absurd rfl h
  | _ => simp [kindOf]

theorem UnW.grow {w W W' : World} {k n : Int} {s : ByteArray} {a : Option Addr} {l c : Nat} {k' n' : Int} {s' : ByteArray} {a' : Option Addr} {l' c' : Nat} {row : Option Nat} (h : UnW w k n s a l c k' n' s' a' l' c' W) (hg : W.grownBy W' row) (hr : ∀ g, row = some g → w.heap.size + 3 ≤ g) : UnW w k n s a l c k' n' s' a' l' c' W' := by
  have hs := h.size
  have key : ∀ j, j < w.heap.size + 3 → W'.heap[j]? = W.heap[j]? := fun j hj => hg.block j (by omega) (fun e => by have := hr j e.symm; omega)
  exact ⟨(key _ (by omega)).trans h.body, (key _ (by omega)).trans h.put, (key _ (by omega)).trans h.res, h.below.trans ⟨hg.os, hg.tape, hg.output, hg.size, fun j hj => key j (by omega)⟩, by have := hg.size; omega⟩
end Go.Proofs.YtkelncocppiepaaGreatDoor
