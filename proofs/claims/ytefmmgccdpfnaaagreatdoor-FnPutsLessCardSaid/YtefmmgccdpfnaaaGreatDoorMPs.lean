import Derived.Test.YtefmmgccdpfnaaaGreatDoorPuA
import Derived.Test.YtefmmgccdpfnaaaGreatDoorMSp
import Derived.Test.YtefmmgccdpfnaaaGreatDoorMCl
import Derived.Test.YtefmmgccdpfnaaaGreatDoorMUq
import Derived.Deep.RegionHeld3
/- The specification's putting: rows of terms that are made, and what is put node by node. -/
namespace Go.Proofs.YtefmmgccdpfnaaaGreatDoor
open Go.RowKit
open Ff
set_option linter.unusedVariables false

/-- The blocks in which a made row's terms may lie. -/
def InRow (base : Nat) (S : Nat → Prop) (W : World) (v : Value) (g : Nat) : Prop := (S g ∨ (base ≤ g ∧ g < W.heap.size)) ∧ some g ≠ v.ownBlock
/-- A row that lists the terms l. -/
def KsAt (base : Nat) (S : Nat → Prop) (l : List Tm) (v : Value) (W : World) : Prop :=
  ∃ xs : List Value, W.ownsRow base 54 4 v l.length xs ∧ v ≠ .slice none 0 0 ∧ ∀ i t, l[i]? = some t → Rep (InRow base S W v) W t (four (fun j => (xs[j]?).getD undef) i)
theorem ks_zero (w : World) (base : Nat) (S : Nat → Prop) (hb : base ≤ w.heap.size) : KsAt base S [] (.slice (some ⟨w.heap.size, 0, none⟩) 0 0) (w.alloc (.cells #[] 54)) :=
  ⟨[], World.ownsRow_lit w #[] 0 hb (by simp [maxLen]) (by simp), by simp, fun i t hi => by simp at hi⟩
theorem ks_keep {base : Nat} {S : Nat → Prop} {l : List Tm} {v : Value} {W W' : World} (h : KsAt base S l v W) (hS : ∀ g, S g → g < base) (hBW : base ≤ W.heap.size) (hb : Below W.heap.size W W') : KsAt base S l v W' := by
  obtain ⟨xs, hown, hv, hrep⟩ := h
  refine ⟨xs, World.ownsRow.kept (row := none) hown ⟨hb.os, hb.tape, hb.output, hb.size, fun j hj _ => hb.block j hj⟩ (by rcases ho : Value.ownBlock v with _ | j; exact .inl rfl; exact .inr (by simp)), hv, fun i t hi => (hrep i t hi).keep (fun g hg => hb.block g ?_) (fun g hg => ⟨hg.1.imp id (fun h => ⟨h.1, by have := hb.size; omega⟩), hg.2⟩)⟩
  rcases hg.1 with h | h
  · have := hS g h; omega
  · exact h.2
theorem ks_shape {base : Nat} {S : Nat → Prop} {l : List Tm} {v : Value} {W : World} (h : KsAt base S l v W) : ∃ g cap, v = .slice (some ⟨g, 0, none⟩) l.length cap ∧ base ≤ g ∧ g < W.heap.size := by
  obtain ⟨xs, hown, hv, _⟩ := h
  obtain ⟨_, ⟨h1, _⟩ | ⟨g, cap, cur, h1, h2, h3, _⟩⟩ := hown
  · exact absurd h1 hv
  · exact ⟨g, cap, h1, h2, (Array.getElem?_eq_some_iff.1 h3).1⟩
/-- A term behind the others. -/
theorem ks_round {base : Nat} {S : Nat → Prop} {l : List Tm} {t : Tm} {v v' c0 c1 c2 c3 : Value} {xs : List Value} {W1 W2 : World} {o : Obj} (hS : ∀ g, S g → g < base) (hB : base ≤ W1.heap.size) (hown : W1.ownsRow base 54 4 v l.length xs) (hv : v ≠ .slice none 0 0)
    (hrep : ∀ i t, l[i]? = some t → Rep (InRow base S W1 v) W1 t (four (fun j => (xs[j]?).getD undef) i)) (hr : Rep (InRow base S W1 v) W1 t (.agg #[c0, c1, c2, c3]))
    (hown' : W2.ownsRow base 54 4 v' (l.length + 1) (xs ++ [c0, c1, c2, c3])) (hgrow : (W1.alloc o).grownBy W2 v.ownBlock) (hnil : v' = .slice none 0 0 ↔ v = .slice none 0 0 ∧ 1 = 0) (hwhere : v'.ownBlock = v.ownBlock ∨ v'.ownBlock = some (W1.alloc o).heap.size) :
    KsAt base S (l ++ [t]) v' W2 := by
  obtain ⟨g, hg1, hg2, hg3⟩ := own_ne_nil hown hv
  have hz : (W1.alloc o).heap.size = W1.heap.size + 1 := by simp
  have hs2 := hgrow.size
  have hlen := hown.1
  have low : ∀ g', InRow base S W1 v g' → g' < W1.heap.size := fun g' h => by
    rcases h.1 with h | h
    · have := hS g' h; omega
    · exact h.2
  have keep : ∀ g', InRow base S W1 v g' → W2.heap[g']? = W1.heap[g']? := fun g' h => (hgrow.block g' (by have := low g' h; omega) h.2).trans (Below.heap_alloc _ _ _ (low g' h))
  have far : ∀ g', InRow base S W1 v g' → InRow base S W2 v' g' := by
    intro g' h
    have hl := low g' h
    refine ⟨h.1.imp id (fun h => ⟨h.1, by omega⟩), ?_⟩
    rcases hwhere with h' | h'
    · rw [h']; exact h.2
    · rw [h', hz]; simp; omega
  refine ⟨_, by simpa using hown', fun e => by have := (hnil.1 e).2; omega, fun i t' hi => ?_⟩
  by_cases hlt : i < l.length
  · rw [List.getElem?_append_left hlt] at hi
    have e : four (fun j => ((xs ++ [c0, c1, c2, c3])[j]?).getD undef) i = four (fun j => (xs[j]?).getD undef) i := by
      unfold four
      simp only [List.getElem?_append_left (show 4 * i < xs.length by omega), List.getElem?_append_left (show 4 * i + 1 < xs.length by omega), List.getElem?_append_left (show 4 * i + 2 < xs.length by omega), List.getElem?_append_left (show 4 * i + 3 < xs.length by omega)]
    rw [e]
    exact (hrep i t' hi).keep keep far
  · have hi0 : i = l.length := by
      have := (List.getElem?_eq_some_iff.1 hi).1
      simp at this
      omega
    subst hi0
    rw [List.getElem?_append_right (Nat.le_refl _)] at hi
    simp only [Nat.sub_self, List.getElem?_cons_zero, Option.some.injEq] at hi
    subst hi
    have e : four (fun j => ((xs ++ [c0, c1, c2, c3])[j]?).getD undef) l.length = .agg #[c0, c1, c2, c3] := by
      unfold four
      have e0 : 4 * l.length = xs.length := by omega
      simp [e0]
    rw [e]
    exact hr.keep keep far
/-- A row is a term's kids. -/
theorem ks_rep {base : Nat} {S : Nat → Prop} {l : List Tm} {g cap : Nat} {W W' : World} {t : Tm} (h : KsAt base S l (.slice (some ⟨g, 0, none⟩) l.length cap) W) (hS : ∀ g, S g → g < base) (hk : t.kids = l) (hs : W.heap.size ≤ W'.heap.size) (hb : ∀ g', (S g' ∨ (base ≤ g' ∧ g' < W.heap.size)) → W'.heap[g']? = W.heap[g']?) :
    Rep (fun g' => S g' ∨ (base ≤ g' ∧ g' < W'.heap.size)) W' t (tmHead t g cap) := by
  obtain ⟨xs, hown, hv, hrep⟩ := h
  obtain ⟨g0, e0, h1, h2⟩ := own_ne_nil hown hv
  obtain rfl : g = g0 := by simpa [Value.ownBlock] using e0
  have hlen := hown.1
  refine .mk t g cap (fun j => (xs[j]?).getD undef) (.inr ⟨h1, by omega⟩) (fun k hk2 => ?_) (fun i s hi => ?_) (by rw [hk]; exact own_cap hown)
  · rw [hk] at hk2
    obtain ⟨y, hy⟩ : ∃ y, xs[k]? = some y := ⟨_, List.getElem?_eq_getElem (by omega)⟩
    have c := hown.cells (g := g) rfl k y hy
    rw [Addr.add_lit, Nat.zero_add] at c
    rw [World.cell?_of_block (a := ⟨g, k, none⟩) (hb g (.inr ⟨h1, h2⟩)), c, hy]
    rfl
  · rw [hk] at hi
    exact (hrep i s hi).keep (fun g' hg' => hb g' hg'.1) (fun g' hg' => hg'.1.imp id (fun h => ⟨h.1, by omega⟩))
/-- The kids in which a name is put at once: all but a binder's body. -/
def qual (t : Tm) : List Tm := if bindsOf t = [] then t.kids else t.kids.dropLast
/-- Putting, node by node. -/
theorem sub_node (n : Nat) (x : UInt8) (u t : Tm) (hk : t.kids ≠ []) :
    (bindsOf t = [] → subS (n + 1) x u t = (reTm t [] ((qual t).map fun s => (subS n x u s).1), (qual t).all fun s => (subS n x u s).2)) ∧
    (bindsOf t ≠ [] → subS (n + 1) x u t = (reTm t (undS (subS n) (bindsOf t) (lastK t) x u).1 (((qual t).map fun s => (subS n x u s).1) ++ [(undS (subS n) (bindsOf t) (lastK t) x u).2.1]), ((qual t).all fun s => (subS n x u s).2) && (undS (subS n) (bindsOf t) (lastK t) x u).2.2)) := by
  cases t with
  | num _ => exact absurd rfl hk
  | var _ => exact absurd rfl hk
  | fn c b => exact ⟨(fun h => by cases h), fun _ => by simp [subS, reTm, qual, bindsOf, Tm.kids, lastK]⟩
  | fix f c b => exact ⟨(fun h => by cases h), fun _ => by simp [subS, reTm, qual, bindsOf, Tm.kids, lastK]⟩
  | app f a => exact ⟨fun _ => by simp [subS, reTm, qual, bindsOf, Tm.kids], fun h => absurd rfl h⟩
  | bind c v b => exact ⟨(fun h => by cases h), fun _ => by simp [subS, reTm, qual, bindsOf, Tm.kids, lastK]⟩
  | op o l r => exact ⟨fun _ => by simp [subS, reTm, qual, bindsOf, Tm.kids], fun h => absurd rfl h⟩
  | sel a b c => exact ⟨fun _ => by simp [subS, reTm, qual, bindsOf, Tm.kids, Bool.and_assoc], fun h => absurd rfl h⟩
/-- What putting by the specification comes to. -/
def SubSC (n : Nat) : Prop := ∀ (S : Nat → Prop) (x : UInt8) (t u : Tm) (vt vu : Value) (w : World), t.depth ≤ n → n ≤ 4000 → t.good → u.good → u.depth ≤ 4000 → (parts t).length ≤ 100000000 → isNam x = true → (∀ g, S g → g < w.heap.size) → Rep S w t vt → Rep S w u vu →
  Calls Tryz.prog 86 #[vt, .string ⟨([x] : Text).toArray⟩, vu] w fun e w' => ∃ v, e = .returned (.tuple #[v, .bool (subS n x u t).2]) ∧ Below w.heap.size w w' ∧ Rep (fun g => S g ∨ New w w' g) w' (subS n x u t).1 v
end Go.Proofs.YtefmmgccdpfnaaaGreatDoor

/- The specification's putting under a binder. -/
namespace Go.Proofs.YtefmmgccdpfnaaaGreatDoor
open Go.RowKit
open Ff
set_option linter.unusedVariables false

theorem cells4 {w : World} {b : Nat} {z0 z1 z2 z3 : Value} {t : TypeId} (h : w.heap[b]? = some (.cells #[z0, z1, z2, z3] t (0, 0))) : w.cell? ⟨b, 0, none⟩ = some z0 ∧ w.cell? ⟨b, 1, none⟩ = some z1 ∧ w.cell? ⟨b, 2, none⟩ = some z2 ∧ w.cell? ⟨b, 3, none⟩ = some z3 ∧ w.frozen? ⟨b, 0, none⟩ = false ∧ w.frozen? ⟨b, 1, none⟩ = false ∧ w.frozen? ⟨b, 2, none⟩ = false ∧ w.frozen? ⟨b, 3, none⟩ = false := by
  refine ⟨?_, ?_, ?_, ?_, ?_, ?_, ?_, ?_⟩ <;> simp [World.cell?, World.frozen?, h]
abbrev tmO (k n : Int) (s : ByteArray) (a : Option Addr) (l c : Nat) : Obj := .cells #[.int .u8 k, .int .i64 n, .string s, .slice a l c] 54
abbrev set4 (W : World) (b : Nat) (z0 z1 z2 z3 : Value) : World := (((W.setCell ⟨b, 0, none⟩ z0).setCell ⟨b, 1, none⟩ z1).setCell ⟨b, 2, none⟩ z2).setCell ⟨b, 3, none⟩ z3
theorem set4_far (W : World) (b : Nat) (z0 z1 z2 z3 : Value) (g : Nat) (h : g ≠ b) : (set4 W b z0 z1 z2 z3).heap[g]? = W.heap[g]? :=
  (Below.heap_setCell _ _ _ _ (by simpa using h)).trans ((Below.heap_setCell _ _ _ _ (by simpa using h)).trans ((Below.heap_setCell _ _ _ _ (by simpa using h)).trans (Below.heap_setCell _ _ _ _ (by simpa using h))))
theorem set4_size (W : World) (b : Nat) (z0 z1 z2 z3 : Value) : (set4 W b z0 z1 z2 z3).heap.size = W.heap.size := by simp [World.setCell]
theorem set4_below {B b : Nat} {w W : World} (h : Below B w W) (hb : B ≤ b) (z0 z1 z2 z3 : Value) : Below B w (set4 W b z0 z1 z2 z3) :=
  (((h.setCell (p := ⟨b, 0, none⟩) hb _).setCell (p := ⟨b, 1, none⟩) hb _).setCell (p := ⟨b, 2, none⟩) hb _).setCell (p := ⟨b, 3, none⟩) hb _
theorem alloc_here (w : World) (o : Obj) : (w.alloc o).heap[w.heap.size]? = some o := World.alloc_heap_new w o
theorem alloc_far (w : World) (o : Obj) {g : Nat} (h : g < w.heap.size) : (w.alloc o).heap[g]? = w.heap[g]? := Below.heap_alloc _ _ _ h
/-- The three boxes of l2Under: the body, what is put, the result. -/
structure UnW (w : World) (k n : Int) (s : ByteArray) (a : Option Addr) (l c : Nat) (k' n' : Int) (s' : ByteArray) (a' : Option Addr) (l' c' : Nat) (W : World) : Prop where
  body : W.heap[w.heap.size]? = some (tmO k n s a l c)
  put : W.heap[w.heap.size + 1]? = some (tmO k' n' s' a' l' c')
  res : W.heap[w.heap.size + 1 + 1]? = some (tmO 0 0 ⟨#[]⟩ none 0 0)
  below : Below w.heap.size w W
  size : w.heap.size + 3 ≤ W.heap.size
theorem UnW.keep {w W W' : World} {k n : Int} {s : ByteArray} {a : Option Addr} {l c : Nat} {k' n' : Int} {s' : ByteArray} {a' : Option Addr} {l' c' : Nat} (h : UnW w k n s a l c k' n' s' a' l' c' W) (hb : Below W.heap.size W W') : UnW w k n s a l c k' n' s' a' l' c' W' := by
  have hs := h.size
  exact ⟨(hb.block _ (by omega)).trans h.body, (hb.block _ (by omega)).trans h.put, (hb.block _ (by omega)).trans h.res, h.below.trans (hb.mono (by omega)), by have := hb.size; omega⟩
theorem UnW.new (w : World) (k n : Int) (s : ByteArray) (a : Option Addr) (l c : Nat) (k' n' : Int) (s' : ByteArray) (a' : Option Addr) (l' c' : Nat) : UnW w k n s a l c k' n' s' a' l' c' (((w.alloc (tmO k n s a l c)).alloc (tmO k' n' s' a' l' c')).alloc (tmO 0 0 ⟨#[]⟩ none 0 0)) := by
  have z1 : (w.alloc (tmO k n s a l c)).heap.size = w.heap.size + 1 := by simp
  have z2 : ((w.alloc (tmO k n s a l c)).alloc (tmO k' n' s' a' l' c')).heap.size = w.heap.size + 1 + 1 := by simp
  refine ⟨?_, ?_, ?_, ?_, ?_⟩
  · rw [alloc_far _ _ (by omega), alloc_far _ _ (by omega)]; exact alloc_here _ _
  · rw [alloc_far _ _ (by omega), ← z1]; exact alloc_here _ _
  · rw [← z2]; exact alloc_here _ _
  · exact (below_two w _ _).alloc (by omega) _
  · simp
/-- What putting under a binder comes to. -/
def UndSP (S : Nat → Prop) (w : World) (r : Text × Tm × Bool) (e : Ending) (w' : World) : Prop := ∃ v, e = .returned (.tuple #[.string ⟨r.1.toArray⟩, v, .bool r.2.2]) ∧ Below w.heap.size w w' ∧ Rep (fun g => S g ∨ New w w' g) w' r.2.1 v
set_option maxRecDepth 100000 in
set_option maxHeartbeats 4000000 in
theorem under_none (S : Nat → Prop) (x : UInt8) (ns : Text) (b u : Tm) (vb vu : Value) (w : World) (hS : ∀ g, S g → g < w.heap.size) (hrb : Rep S w b vb) (hru : Rep S w u vu) (hd : b.depth ≤ 4000) (hp : (parts b).length ≤ 100000000) (hg : b.good) (hns : ns.length ≤ 2)
    (h : x ∈ ns ∨ cntF b x = 0) : Calls Tryz.prog 119 #[.string ⟨ns.toArray⟩, vb, .string ⟨([x] : Text).toArray⟩, vu] w (UndSP S w (ns, b, true)) := by
  obtain ⟨b0, b1, b2, b3, b4, b5, rfl⟩ := hrb.junk
  obtain ⟨u0, u1, u2, u3, u4, u5, rfl⟩ := hru.junk
  have U0 := UnW.new w b0 b1 b2 b3 b4 b5 u0 u1 u2 u3 u4 u5
  have KF := fun w' => find_c ns x w' (by omega)
  have hfi := findI_mem x ns
  go_enter Tryz.func119, Tryz.ntmps119
  by_cases hx : x ∈ ns
  · have hpos : (0 : Int) ≤ findI x ns := by
      apply Classical.byContradiction
      intro hn
      exact hfi.1 (by omega) hx
    clear hfi h
    go_wp2_with (go_at_call 118; refine (KF _).mono ?_; clear KF; rintro e w1 ⟨rfl, hw1⟩; have U1 : UnW w b0 b1 b2 b3 b4 b5 u0 u1 u2 u3 u4 u5 w1 := (by rw [hw1]; exact U0); clear hw1 U0)
    obtain ⟨c0, c1, c2, c3, _⟩ := cells4 U1.body
    obtain ⟨r0, r1, r2, r3, f0, f1, f2, f3⟩ := cells4 U1.res
    have hu1 := U1.below
    have hz1 := U1.size
    go_region
    all_goals go_wp2_with fail
    all_goals refine bodyPost_ret (v := .tuple #[.string ⟨ns.toArray⟩, .agg #[.int .u8 b0, .int .i64 b1, .string b2, .slice b3 b4 b5], .bool true]) (by simp [results, Tryz.results119, go_sem, r0, r1, r2, r3]) rfl ?_
    all_goals refine ⟨_, rfl, ?_, hrb.keep (fun g hg => ?_) (fun g hg => .inl hg)⟩
    all_goals first
      | exact (set4_below hu1 (by omega) _ _ _ _)
      | exact (set4_below hu1 (by omega) _ _ _ _).drew
      | exact (set4_below hu1.drew (by omega) _ _ _ _)
      | (have := hS g hg; exact (set4_far _ _ _ _ _ _ g (by omega)).trans (hu1.block g (by omega)))
  · have hneg : findI x ns < 0 := hfi.2 hx
    have hc0 : cntF b x = 0 := h.resolve_left hx
    have KC := fun W (hW : Below w.heap.size w W) => count_c 4000 b x w.heap.size (.agg #[.int .u8 b0, .int .i64 b1, .string b2, .slice b3 b4 b5]) W hd (Nat.le_refl _) hp (hrb.keep (fun g hg => hW.block g (hS g hg)) (fun g hg => hS g hg)) hW.size hg
    rw [hc0] at KC
    clear hfi h hc0
    go_wp2_with (first
      | (go_at_call 118; refine (KF _).mono ?_; clear KF; rintro e w1 ⟨rfl, hw1⟩; have U1 : UnW w b0 b1 b2 b3 b4 b5 u0 u1 u2 u3 u4 u5 w1 := (by rw [hw1]; exact U0); clear hw1 U0; obtain ⟨d0, d1, d2, d3, _⟩ := cells4 U1.body)
      | (go_at_call 132; refine (KC _ U1.below).mono ?_; clear KC; rintro e w2 ⟨rfl, hb2⟩; replace U1 := U1.keep hb2))
    clear d0 d1 d2 d3
    obtain ⟨c0, c1, c2, c3, _⟩ := cells4 U1.body
    obtain ⟨r0, r1, r2, r3, f0, f1, f2, f3⟩ := cells4 U1.res
    have hu1 := U1.below
    have hz1 := U1.size
    go_region
    all_goals go_wp2_with fail
    all_goals refine bodyPost_ret (v := .tuple #[.string ⟨ns.toArray⟩, .agg #[.int .u8 b0, .int .i64 b1, .string b2, .slice b3 b4 b5], .bool true]) (by simp [results, Tryz.results119, go_sem, r0, r1, r2, r3]) rfl ?_
    all_goals refine ⟨_, rfl, ?_, hrb.keep (fun g hg => ?_) (fun g hg => .inl hg)⟩
    all_goals first
      | exact (set4_below hu1 (by omega) _ _ _ _)
      | exact (set4_below hu1 (by omega) _ _ _ _).drew
      | exact (set4_below hu1.drew (by omega) _ _ _ _)
      | (have := hS g hg; exact (set4_far _ _ _ _ _ _ g (by omega)).trans (hu1.block g (by omega)))
end Go.Proofs.YtefmmgccdpfnaaaGreatDoor

/- The specification's putting under a binder: names that get other ones. -/
namespace Go.Proofs.YtefmmgccdpfnaaaGreatDoor
open Go.RowKit
open Ff
set_option linter.unusedVariables false

theorem stepsS_left_stay (sub : UInt8 → Tm → Tm → Tm × Bool) (fr : Text) (x : UInt8) (ns : Text) (b : Tm) (k : Nat) (h : (stepsS sub fr x ns b k).left = true) : ∀ j, stepsS sub fr x ns b (k + j) = stepsS sub fr x ns b k
  | 0 => rfl
  | j + 1 => by
    rw [show k + (j + 1) = (k + j) + 1 from rfl, stepsS, stepsS_left_stay sub fr x ns b k h j, stepS_left _ _ _ _ _ h]
/-- The blocks in which a body may lie in the midst. -/
abbrev MidS (S : Nat → Prop) (w W : World) (g : Nat) : Prop := S g ∨ (w.heap.size + 3 ≤ g ∧ g < W.heap.size)
/-- What stands at the head of a round. -/
structure MidAt (S : Nat → Prop) (w : World) (s : Bs) (k n : Int) (t : ByteArray) (a : Option Addr) (l c : Nat) (u0 u1 : Int) (u2 : ByteArray) (u3 : Option Addr) (u4 u5 : Nat) (W : World) : Prop where
  boxes : UnW w k n t a l c u0 u1 u2 u3 u4 u5 W
  rep : Rep (MidS S w W) W s.b (.agg #[.int .u8 k, .int .i64 n, .string t, .slice a l c])
theorem MidAt.keep {S : Nat → Prop} {w W W' : World} {s : Bs} {k n : Int} {t : ByteArray} {a : Option Addr} {l c : Nat} {u0 u1 : Int} {u2 : ByteArray} {u3 : Option Addr} {u4 u5 : Nat} (h : MidAt S w s k n t a l c u0 u1 u2 u3 u4 u5 W) (hS : ∀ g, S g → g < w.heap.size) (hb : Below W.heap.size W W') : MidAt S w s k n t a l c u0 u1 u2 u3 u4 u5 W' := by
  have hz := h.boxes.size
  refine ⟨h.boxes.keep hb, h.rep.keep (fun g hg => hb.block g ?_) (fun g hg => hg.imp id (fun h => ⟨h.1, by have := hb.size; omega⟩))⟩
  rcases hg with hg | hg
  · have := hS g hg; omega
  · exact hg.2
theorem UnW.set {w W : World} {k n : Int} {s : ByteArray} {a : Option Addr} {l c : Nat} {k' n' : Int} {s' : ByteArray} {a' : Option Addr} {l' c' : Nat} (h : UnW w k n s a l c k' n' s' a' l' c' W) (g : Nat) (hg : w.heap.size + 3 ≤ g) (z0 z1 z2 z3 : Value) : UnW w k n s a l c k' n' s' a' l' c' (set4 W g z0 z1 z2 z3) :=
  ⟨(set4_far _ _ _ _ _ _ _ (by omega)).trans h.body, (set4_far _ _ _ _ _ _ _ (by omega)).trans h.put, (set4_far _ _ _ _ _ _ _ (by omega)).trans h.res, set4_below h.below (by omega) _ _ _ _, by rw [set4_size]; exact h.size⟩
theorem set4_here {W : World} {b : Nat} {y0 y1 y2 y3 : Value} {t : TypeId} (h : W.heap[b]? = some (.cells #[y0, y1, y2, y3] t (0, 0))) (z0 z1 z2 z3 : Value) : (set4 W b z0 z1 z2 z3).heap[b]? = some (.cells #[z0, z1, z2, z3] t (0, 0)) := by
  simp [World.setCell, Array.getElem?_modify, h]
theorem UnW.store {w W : World} {k n : Int} {s : ByteArray} {a : Option Addr} {l c : Nat} {k' n' : Int} {s' : ByteArray} {a' : Option Addr} {l' c' : Nat} (h : UnW w k n s a l c k' n' s' a' l' c' W) (z0 z1 : Int) (z2 : ByteArray) (z3 : Option Addr) (z4 z5 : Nat) : UnW w z0 z1 z2 z3 z4 z5 k' n' s' a' l' c' (set4 W w.heap.size (.int .u8 z0) (.int .i64 z1) (.string z2) (.slice z3 z4 z5)) :=
  ⟨set4_here h.body _ _ _ _, (set4_far _ _ _ _ _ _ _ (by omega)).trans h.put, (set4_far _ _ _ _ _ _ _ (by omega)).trans h.res, set4_below h.below (Nat.le_refl _) _ _ _ _, by rw [set4_size]; exact h.size⟩
theorem MidAt.store {S : Nat → Prop} {w W : World} {s : Bs} {k n : Int} {t : ByteArray} {a : Option Addr} {l c : Nat} {u0 u1 : Int} {u2 : ByteArray} {u3 : Option Addr} {u4 u5 : Nat} {z0 z1 : Int} {z2 : ByteArray} {z3 : Option Addr} {z4 z5 : Nat} (h : UnW w k n t a l c u0 u1 u2 u3 u4 u5 W) (hS : ∀ g, S g → g < w.heap.size) (hr : Rep (MidS S w W) W s.b (.agg #[.int .u8 z0, .int .i64 z1, .string z2, .slice z3 z4 z5])) : MidAt S w s z0 z1 z2 z3 z4 z5 u0 u1 u2 u3 u4 u5 (set4 W w.heap.size (.int .u8 z0) (.int .i64 z1) (.string z2) (.slice z3 z4 z5)) :=
  ⟨h.store _ _ _ _ _ _, hr.keep (fun g hg => set4_far _ _ _ _ _ _ _ (by
    rcases hg with hg | hg
    · have := hS g hg; omega
    · have := hg.1; omega)) (fun g hg => hg.imp id (fun h => ⟨h.1, by rw [set4_size]; exact h.2⟩))⟩
theorem set_bytes (ns : Text) (i : Nat) (d : UInt8) (h : i < ns.length) : ((⟨ns.toArray⟩ : ByteArray).extract 0 i ++ ⟨#[d]⟩ ++ (⟨ns.toArray⟩ : ByteArray).extract (i + 1) ns.length : ByteArray) = ⟨(ns.set i d).toArray⟩ := by
  apply ba_ext
  simp [ByteArray.data_append, ByteArray.data_extract, List.set_eq_take_append_cons_drop, h]
  exact List.take_of_length_le (by simp)
theorem UnW.limbs {w V W : World} {m : Nat} {k n : Int} {s : ByteArray} {a : Option Addr} {l c : Nat} {k' n' : Int} {s' : ByteArray} {a' : Option Addr} {l' c' : Nat} (h : UnW w k n s a l c k' n' s' a' l' c' W) (hb : Below m V W) : (W.cell? ⟨w.heap.size, 0, none⟩ = some (.int .u8 k) ∧ W.cell? ⟨w.heap.size, 1, none⟩ = some (.int .i64 n) ∧ W.cell? ⟨w.heap.size, 2, none⟩ = some (.string s) ∧ W.cell? ⟨w.heap.size, 3, none⟩ = some (.slice a l c)) ∧ UnW w k n s a l c k' n' s' a' l' c' W ∧ Below m V W :=
  have d := cells4 h.body
  ⟨⟨d.1, d.2.1, d.2.2.1, d.2.2.2.1⟩, h, hb⟩
set_option maxRecDepth 100000 in
set_option maxHeartbeats 8000000 in
theorem under_some (n : Nat) (ih : SubSC n) (S : Nat → Prop) (x : UInt8) (ns : Text) (b u : Tm) (vb vu : Value) (w : World) (hS : ∀ g, S g → g < w.heap.size) (hrb : Rep S w b vb) (hru : Rep S w u vu) (hd : b.depth ≤ n) (hn : n ≤ 4000) (hp : (parts b).length ≤ 100000000) (hg : b.good) (hu : u.good) (hud : u.depth ≤ 4000) (hxn : isNam x = true) (hns : ns.length ≤ 2) (hnn : ∀ c ∈ ns, isNam c = true)
    (h : ¬ (x ∈ ns ∨ cntF b x = 0)) : Calls Tryz.prog 119 #[.string ⟨ns.toArray⟩, vb, .string ⟨([x] : Text).toArray⟩, vu] w (UndSP S w (undS (subS n) ns b x u)) := by
  obtain ⟨b0, b1, b2, b3, b4, b5, rfl⟩ := hrb.junk
  obtain ⟨u0, u1, u2, u3, u4, u5, rfl⟩ := hru.junk
  have U0 := UnW.new w b0 b1 b2 b3 b4 b5 u0 u1 u2 u3 u4 u5
  have KF := fun w' => find_c ns x w' (by omega)
  have hneg : findI x ns < 0 := (findI_mem x ns).2 (fun e => h (.inl e))
  have hcp : ((cntF b x : Int) == 0) = false := by rw [beq_eq_false_iff_ne]; intro e; exact h (.inr (by omega))
  have KC := fun W (hW : Below w.heap.size w W) => count_c 4000 b x w.heap.size (.agg #[.int .u8 b0, .int .i64 b1, .string b2, .slice b3 b4 b5]) W (by omega) (Nat.le_refl _) hp (hrb.keep (fun g hg => hW.block g (hS g hg)) (fun g hg => hS g hg)) hW.size hg
  have KU := fun W (hW : Below w.heap.size w W) => free_c 4000 u w.heap.size (.agg #[.int .u8 u0, .int .i64 u1, .string u2, .slice u3 u4 u5]) W hud (Nat.le_refl _) (hru.keep (fun g hg => hW.block g (hS g hg)) (fun g hg => hS g hg)) hW.size hu
  obtain ⟨T, hT⟩ : ∃ T : Nat → Bs, T = stepsS (subS n) (sfree u) x ns b := ⟨_, rfl⟩
  have hTk : ∀ i, BsOk ns b (T i) := fun i => by rw [hT]; exact stepsS_keep (fun y d t hd => subS_like n y d t hd) _ _ _ _ i
  have hTs : ∀ i, T (i + 1) = stepS (subS n) (sfree u) x i (T i) := fun i => by rw [hT]; rfl
  have hT0 : T 0 = ⟨ns, b, true, false⟩ := by rw [hT]; rfl
  have hTl : ∀ i, i ≤ ns.length → (T i).left = true → T ns.length = T i := fun i h1 h2 => by
    rw [hT] at h2 ⊢
    have := stepsS_left_stay (subS n) (sfree u) x ns b i h2 (ns.length - i)
    rwa [show i + (ns.length - i) = ns.length by omega] at this
  have hund : undS (subS n) ns b x u = if (T ns.length).left = true then ((T ns.length).ns, (T ns.length).b, false) else ((T ns.length).ns, (subS n x u (T ns.length).b).1, (T ns.length).ok && (subS n x u (T ns.length).b).2) := by
    unfold undS; rw [if_neg h, hT]
  have hfl := sfree_len u
  have HNN := Lib.hid hnn
  have HTK := Lib.hid hTk
  have HTS := Lib.hid hTs
  have HT0 := Lib.hid hT0
  have HTL := Lib.hid hTl
  have HUN := Lib.hid hund
  clear hT hTk hTs hT0 hTl hund h
  go_enter Tryz.func119, Tryz.ntmps119
  go_wp2_with (first
    | (go_at_call 118; refine (KF _).mono ?_; clear KF; rintro e w1 ⟨rfl, hw1⟩; have U1 : UnW w b0 b1 b2 b3 b4 b5 u0 u1 u2 u3 u4 u5 w1 := (by rw [hw1]; exact U0); clear hw1 U0; obtain ⟨d0, d1, d2, d3, _⟩ := cells4 U1.body)
    | (go_at_call 132; refine (KC _ U1.below).mono ?_; clear KC; rintro e w2 ⟨rfl, hb2⟩; replace U1 := U1.keep hb2; clear d0 d1 d2 d3; obtain ⟨d0, d1, d2, d3, _⟩ := cells4 U1.put)
    | (go_at_call 61; refine (KU _ U1.below).mono ?_; clear KU; rintro e w3 ⟨rfl, hb3⟩; replace U1 := U1.keep hb3; clear d0 d1 d2 d3))
  have hM : MidAt S w (T 0) b0 b1 b2 b3 b4 b5 u0 u1 u2 u3 u4 u5 w3 := ⟨U1, by rw [HT0.out]; exact hrb.keep (fun g hg => U1.below.block g (hS g hg)) (fun g hg => .inl hg)⟩
  clear U1 hrb
  go_loopw [0, 11, 36] (fun nm gd ix wr => ∃ (i : Nat) (k0 k1 : Int) (k2 : ByteArray) (k3 : Option Addr) (k4 k5 : Nat), i ≤ ns.length ∧ ix = .int .i64 i ∧ nm = .string ⟨(T i).ns.toArray⟩ ∧ gd = .bool (T i).ok ∧ (T i).left = false ∧ MidAt S w (T i) k0 k1 k2 k3 k4 k5 u0 u1 u2 u3 u4 u5 wr) (fun _ _ ix _ => ns.length - (intOf ix).toNat)
  case atStart => exact ⟨0, _, _, _, _, _, _, Nat.zero_le _, rfl, by rw [HT0.out], by rw [HT0.out], by rw [HT0.out], hM⟩
  case round =>
    obtain ⟨i, k0, k1, k2, k3, k4, k5, hi, rfl, rfl, rfl, hleft, hM⟩ := hrel
    have K := HTK.out i
    have hKl := K.len
    by_cases hlt : i < ns.length
    · obtain ⟨c, hc⟩ : ∃ c, (T i).ns[i]? = some c := ⟨_, List.getElem?_eq_getElem (by omega)⟩
      have hix := index_byte (T i).ns i c hc (by rw [size_data]; omega)
      have F := find_c (sfree u) c wr (by omega)
      have hst := HTS.out i
      unfold stepS at hst
      rw [if_neg (by rw [hleft]; decide), hc] at hst
      simp only at hst
      have HST := Lib.hid hst
      have HCC := Lib.hid hc
      clear hst hc
      by_cases hfr : c ∈ sfree u
      · have hf : ¬ findI c (sfree u) < 0 := fun e => (findI_mem _ _).1 e hfr
        have hMz := hM.boxes.size
        have hRB : Rep (fun g => g < wr.heap.size) wr (T i).b (.agg #[.int .u8 k0, .int .i64 k1, .string k2, .slice k3 k4 k5]) := hM.rep.keep (fun g hg => rfl) (fun g hg => by
          rcases hg with hg | hg
          · have := hS g hg; omega
          · exact hg.2)
        have FB := fun W (hW : Below wr.heap.size wr W) => free_c 4000 (T i).b wr.heap.size (.agg #[.int .u8 k0, .int .i64 k1, .string k2, .slice k3 k4 k5]) W (by rw [K.like.deep]; omega) (Nat.le_refl _) (hRB.keep (fun g hg => hW.block g hg) (fun g hg => hg)) hW.size (K.like.good hg)
        have hfb := sfree_len (T i).b
        obtain ⟨B, hB⟩ : ∃ B, B = sfree (T i).b := ⟨_, rfl⟩
        rw [← hB] at FB hfb
        obtain ⟨s9, hs9⟩ : ∃ s9 : Text, s9 = sfree u ++ B ++ (T i).ns ++ [x] := ⟨_, rfl⟩
        have e9 : (⟨(sfree u).toArray⟩ ++ ⟨B.toArray⟩ ++ ⟨(T i).ns.toArray⟩ ++ ⟨#[x]⟩ : ByteArray) = ⟨s9.toArray⟩ := by
          show (⟨(sfree u).toArray⟩ ++ ⟨B.toArray⟩ ++ ⟨(T i).ns.toArray⟩ ++ ⟨([x] : Text).toArray⟩ : ByteArray) = _
          rw [str_app2, str_app2, str_app2, hs9]
        have q1 : ¬ 9223372036854775807 < (sfree u).length + B.length := by omega
        have q2 : ¬ 9223372036854775807 < (sfree u).length + B.length + (T i).ns.length := by omega
        have q3 : ¬ 9223372036854775807 < (sfree u).length + B.length + (T i).ns.length + 1 := by omega
        have KN := fun w' => sl2New_c s9 w' (by rw [hs9]; simp; omega)
        have hst := HST.out
        rw [if_pos hfr, ← hB, ← hs9] at hst
        have HB := Lib.hid hB
        have HS9 := Lib.hid hs9
        have HLF := Lib.hid hleft
        obtain ⟨d0, d1, d2, d3, _⟩ := cells4 hM.boxes.body
        clear hs9 hB hfr hleft HST
        unfold newT at KN
        rcases hnew : newO s9 with _ | d
        · rw [hnew] at hst KN
          simp only at hst
          have HST2 := Lib.hid hst
          clear hst hnew
          go_wp2_with (first
            | (go_at_call 118; refine F.mono ?_; clear F; rintro e w4 ⟨rfl, rfl⟩)
            | (go_at_call 61; refine (FB _ (Below.refl _ _)).mono ?_; clear FB; rintro e w5 ⟨rfl, hb5⟩)
            | (go_at_call 133; refine (KN _).mono ?_; clear KN; rintro e w6 ⟨rfl, hb6⟩; have hM6 := (hM.keep hS hb5).keep hS hb6; clear d0 d1 d2 d3))
          obtain ⟨c0, c1, c2, c3, _⟩ := cells4 hM6.boxes.body
          obtain ⟨r0, r1, r2, r3, f0, f1, f2, f3⟩ := cells4 hM6.boxes.res
          have hu1 := hM6.boxes.below
          have hz1 := hM6.boxes.size
          go_region
          all_goals go_wp2_with fail
          all_goals refine bodyPost_ret (v := .tuple #[.string ⟨(T i).ns.toArray⟩, .agg #[.int .u8 k0, .int .i64 k1, .string k2, .slice k3 k4 k5], .bool false]) (by simp [results, Tryz.results119, go_sem, r0, r1, r2, r3]) rfl ?_
          all_goals
            have hTL := HTL.out (i + 1) (by omega) (by rw [HST2.out])
            rw [HUN.out, hTL, HST2.out, if_pos rfl]
          all_goals refine ⟨_, rfl, ?_, hM6.rep.keep (fun g hg => ?_) (fun g hg => hg.imp id (fun h => ⟨by omega, by simpa [World.setCell] using h.2⟩))⟩
          all_goals first
            | exact (set4_below hu1 (by omega) _ _ _ _)
            | exact (set4_below hu1 (by omega) _ _ _ _).drew
            | exact (set4_below hu1.drew (by omega) _ _ _ _)
            | exact (set4_far _ _ _ _ _ _ g (by rcases hg with hg | hg; (have := hS g hg; omega); (have := hg.1; omega)))
        · rw [hnew] at hst KN
          simp only at hst
          have HST2 := Lib.hid hst
          have hdn := (newO_nam hnew).1
          have hex := extract_one (T i).ns i c HCC.out
          have hcm : c ∈ (T i).ns := List.mem_of_getElem? HCC.out
          have hwi : IntKind.i64.wrap ((i : Int) + 1) = (i : Int) + 1 := by rw [IntKind.wrap_i64]; omega
          clear hst hnew
          go_wp2_with (first
            | (go_at_call 118; refine F.mono ?_; clear F; rintro e w4 ⟨rfl, rfl⟩)
            | (go_at_call 61; refine (FB _ (Below.refl _ _)).mono ?_; clear FB; rintro e w5 ⟨rfl, hb5⟩)
            | (go_at_call 133; refine (KN _).mono ?_; clear KN; rintro e w6 ⟨rfl, hb6⟩; have hM6 := (hM.keep hS hb5).keep hS hb6; clear d0 d1 d2 d3))
          obtain ⟨c0, c1, c2, c3, _⟩ := cells4 hM6.boxes.body
          have hz6 := hM6.boxes.size
          have hU6 := hM6.boxes
          have hR6 := hM6.rep
          have KS : ∀ gL W, UnW w k0 k1 k2 k3 k4 k5 u0 u1 u2 u3 u4 u5 W → Below w6.heap.size w6 W → w6.heap.size ≤ gL → gL < W.heap.size →
              Calls Tryz.prog 86 #[.agg #[.int .u8 k0, .int .i64 k1, .string k2, .slice k3 k4 k5], .string ⟨#[c]⟩, .agg #[.int .u8 118, .int .i64 0, .string ⟨#[d]⟩, .slice (some ⟨gL, 0, none⟩) 0 0]] W fun e W' =>
                ∃ (v0 v1 : Int) (v2 : ByteArray) (v3 : Option Addr) (v4 v5 : Nat), e = .returned (.tuple #[.agg #[.int .u8 v0, .int .i64 v1, .string v2, .slice v3 v4 v5], .bool (subS n c (.var d) (T i).b).2]) ∧ Below W.heap.size W W' ∧
                  Rep (fun g => (MidS S w w6 g ∨ g = gL) ∨ New W W' g) W' (subS n c (.var d) (T i).b).1 (.agg #[.int .u8 v0, .int .i64 v1, .string v2, .slice v3 v4 v5]) ∧ UnW w k0 k1 k2 k3 k4 k5 u0 u1 u2 u3 u4 u5 W' ∧ Below w6.heap.size w6 W' ∧ (∀ g, W.heap[g]? = some (tmO 0 0 ⟨#[]⟩ none 0 0) → W'.cell? ⟨g, 0, none⟩ = some (.int .u8 0) ∧ W'.cell? ⟨g, 1, none⟩ = some (.int .i64 0) ∧ W'.cell? ⟨g, 2, none⟩ = some (.string ⟨#[]⟩) ∧ W'.cell? ⟨g, 3, none⟩ = some (.slice none 0 0) ∧ W'.frozen? ⟨g, 0, none⟩ = false ∧ W'.frozen? ⟨g, 1, none⟩ = false ∧ W'.frozen? ⟨g, 2, none⟩ = false ∧ W'.frozen? ⟨g, 3, none⟩ = false) := by
            intro gL W hU hBW hg1 hg2
            have hlow : ∀ g, MidS S w w6 g → g < w6.heap.size := fun g hg => by
              rcases hg with hg | hg
              · have := hS g hg; omega
              · exact hg.2
            have C := ih (fun g => MidS S w w6 g ∨ g = gL) c (T i).b (.var d) (.agg #[.int .u8 k0, .int .i64 k1, .string k2, .slice k3 k4 k5]) (tmHead (.var d) gL 0) W (by rw [K.like.deep]; exact hd) hn (K.like.good hg) hdn (by simp [Tm.depth]) (by rw [K.like.many]; exact hp) ((HTK.out i).nam HNN.out c hcm)
              (fun g hg => by rcases hg with hg | hg; (have := hlow g hg; have := hBW.size; omega); omega)
              (hR6.keep (fun g hg => hBW.block g (hlow g hg)) (fun g hg => .inl hg))
              (.mk (.var d) gL 0 (fun _ => undef) (.inr rfl) (fun k hk => by simp [Tm.kids] at hk) (fun i s hi => by simp [Tm.kids] at hi) (Nat.zero_le _))
            refine C.mono fun e W' h => ?_
            obtain ⟨v, he, hb, hr⟩ := h
            obtain ⟨v0, v1, v2, v3, v4, v5, rfl⟩ := hr.junk
            exact ⟨v0, v1, v2, v3, v4, v5, he, hb, hr, hU.keep hb, hBW.trans (hb.mono hBW.size), fun g hz => cells4 ((hb.block g (Array.getElem?_eq_some_iff.1 hz).1).trans hz)⟩
          have q5 : UnW w k0 k1 k2 k3 k4 k5 u0 u1 u2 u3 u4 u5 w6.drew := hU6.keep ((Below.refl _ w6).drew)
          have q6 : Below w6.heap.size w6 w6.drew := (Below.refl _ w6).drew
          have t2 : Below w6.heap.size w6 (w6.alloc (.cells #[] 54)).drew := ((Below.refl _ w6).alloc (Nat.le_refl _) _).drew
          have t1 := hU6.keep t2
          have t4 : ∀ o, Below w6.heap.size w6 ((w6.alloc (.cells #[] 54)).alloc o).drew := fun o => (((Below.refl _ w6).alloc (Nat.le_refl _) _).alloc (by simp) _).drew
          have t3 := fun o => hU6.keep (t4 o)
          have t6 : ∀ o, Below w6.heap.size w6 (w6.alloc o).drew := fun o => ((Below.refl _ w6).alloc (Nat.le_refl _) _).drew
          have t5 := fun o => hU6.keep (t6 o)
          have t16 : ∀ o o', Below w6.heap.size w6 ((w6.alloc o).alloc o').drew := fun o o' => (((Below.refl _ w6).alloc (Nat.le_refl _) _).alloc (by simp) _).drew
          have t15 := fun o o' => hU6.keep (t16 o o')
          have t18 : ∀ o o', Below w6.heap.size w6 ((w6.alloc o).alloc o') := fun o o' => (((Below.refl _ w6).alloc (Nat.le_refl _) _).alloc (by simp) _)
          have t17 := fun o o' => hU6.keep (t18 o o')
          have tA : ((w6.alloc (.cells #[] 54)).alloc (.cells #[.int .u8 0, .int .i64 0, .string ⟨#[]⟩, .slice none 0 0] 54)).heap[w6.heap.size + 1]? = some (.cells #[.int .u8 0, .int .i64 0, .string ⟨#[]⟩, .slice none 0 0] 54 (0, 0)) := by
            have h := alloc_here (w6.alloc (.cells #[] 54)) (.cells #[.int .u8 0, .int .i64 0, .string ⟨#[]⟩, .slice none 0 0] 54)
            rwa [World.size_alloc] at h
          have tA2 : ((w6.alloc (.cells #[] 54)).alloc (.cells #[.int .u8 0, .int .i64 0, .string ⟨#[]⟩, .slice none 0 0] 54)).drew.heap[w6.heap.size + 1]? = some (.cells #[.int .u8 0, .int .i64 0, .string ⟨#[]⟩, .slice none 0 0] 54 (0, 0)) := tA
          have tB : ((w6.alloc (.cells #[.int .u8 0, .int .i64 0, .string ⟨#[]⟩, .slice none 0 0] 54)).alloc (.cells #[] 54)).heap[w6.heap.size]? = some (.cells #[.int .u8 0, .int .i64 0, .string ⟨#[]⟩, .slice none 0 0] 54 (0, 0)) := by
            rw [alloc_far _ _ (by simp)]; exact alloc_here _ _
          have tB2 : ((w6.alloc (.cells #[.int .u8 0, .int .i64 0, .string ⟨#[]⟩, .slice none 0 0] 54)).alloc (.cells #[] 54)).drew.heap[w6.heap.size]? = some (.cells #[.int .u8 0, .int .i64 0, .string ⟨#[]⟩, .slice none 0 0] 54 (0, 0)) := tB
          have qb1 : (0 : Int) ≤ (i : Int) := by omega
          have qb2 : (0 : Int) ≤ (i : Int) + 1 := by omega
          have qb3 : (i : Int) ≤ (i : Int) + 1 := by omega
          have qb4 : (i : Int) + 1 ≤ ((T i).ns.length : Int) := by omega
          have qb5 : (i : Int) ≤ ((T i).ns.length : Int) := by omega
          have qb6 : (i : Int) + 1 ≤ (ns.length : Int) := by omega
          have qb7 : (i : Int) ≤ (ns.length : Int) := by omega
          go_region_held3 (fun w' => (w'.cell? ⟨w.heap.size, 0, none⟩ = some (.int .u8 k0) ∧ w'.cell? ⟨w.heap.size, 1, none⟩ = some (.int .i64 k1) ∧ w'.cell? ⟨w.heap.size, 2, none⟩ = some (.string k2) ∧ w'.cell? ⟨w.heap.size, 3, none⟩ = some (.slice k3 k4 k5)) ∧ UnW w k0 k1 k2 k3 k4 k5 u0 u1 u2 u3 u4 u5 w' ∧ Below w6.heap.size w6 w')
            (first | with_reducible exact t1.limbs t2 | with_reducible exact (t3 _).limbs (t4 _) | with_reducible exact (t5 _).limbs (t6 _) | with_reducible exact (t15 _ _).limbs (t16 _ _) | with_reducible exact (t17 _ _).limbs (t18 _ _) | with_reducible exact hU7.limbs hB7 | with_reducible exact (t8 _).limbs (t7 _) | with_reducible exact (t9 _ _ _ _ _).limbs (t10 _ _ _ _ _) | with_reducible exact (t11 _ _ _ _).limbs (t12 _ _ _ _) | with_reducible exact (t13 _ _ _ _).limbs (t14 _ _ _ _) | go_keep | (refine ⟨⟨?_, ?_, ?_, ?_⟩, ?_, ?_⟩ <;> first | assumption | go_keep))
            (first | (go_at_call 86; refine (KS _ _ (by first | assumption | with_reducible exact t15 _ _ | with_reducible exact t17 _ _ | exact t3 _ | exact t1 | exact t5 _) (by first | assumption | with_reducible exact t16 _ _ | with_reducible exact t18 _ _ | exact t4 _ | exact t2 | exact t6 _) (by first | omega | (simp; done) | (simp; omega)) (by first | omega | (simp; done) | (simp; omega))).mono ?_; rintro e w7 ⟨v0, v1, v2, v3, v4, v5, rfl, hb7, hr7, hU7, hB7, hz7⟩; obtain ⟨y0, y1, y2, y3, _⟩ := cells4 hU7.body; have zA := hz7 (w6.heap.size + 1); have zB := hz7 w6.heap.size; clear hz7; (try simp only [tA2, true_implies] at zA); (try simp only [tB2, true_implies] at zB); have t7 : ∀ o, Below w6.heap.size w6 (w7.alloc o) := (fun o => hB7.alloc hB7.size o); have t8 := (fun o => hU7.keep ((Below.refl _ w7).alloc (Nat.le_refl _) o)); have hs7 := hB7.size; have t9 : ∀ o z0 z1 z2 z3, UnW w k0 k1 k2 k3 k4 k5 u0 u1 u2 u3 u4 u5 (set4 (w7.alloc o) w7.heap.size z0 z1 z2 z3) := (fun o z0 z1 z2 z3 => (t8 o).set _ (by omega) z0 z1 z2 z3); have t10 : ∀ o z0 z1 z2 z3, Below w6.heap.size w6 (set4 (w7.alloc o) w7.heap.size z0 z1 z2 z3) := (fun o z0 z1 z2 z3 => set4_below (t7 o) hs7 z0 z1 z2 z3); have t11 : ∀ z0 z1 z2 z3, UnW w k0 k1 k2 k3 k4 k5 u0 u1 u2 u3 u4 u5 (set4 w7 (w6.heap.size + 1) z0 z1 z2 z3) := (fun z0 z1 z2 z3 => hU7.set _ (by omega) z0 z1 z2 z3); have t12 : ∀ z0 z1 z2 z3, Below w6.heap.size w6 (set4 w7 (w6.heap.size + 1) z0 z1 z2 z3) := (fun z0 z1 z2 z3 => set4_below hB7 (by omega) z0 z1 z2 z3); have t13 : ∀ z0 z1 z2 z3, UnW w k0 k1 k2 k3 k4 k5 u0 u1 u2 u3 u4 u5 (set4 w7 w6.heap.size z0 z1 z2 z3) := (fun z0 z1 z2 z3 => hU7.set _ (by omega) z0 z1 z2 z3); have t14 : ∀ z0 z1 z2 z3, Below w6.heap.size w6 (set4 w7 w6.heap.size z0 z1 z2 z3) := (fun z0 z1 z2 z3 => set4_below hB7 (by omega) z0 z1 z2 z3)))
          all_goals first
            | (
              (with_reducible show Exit.then _ _ _ _ (World.alloc w7 _))
              have A1 := t8 (tmO v0 v1 v2 v3 v4 v5)
              have A2 := alloc_here w7 (tmO v0 v1 v2 v3 v4 v5)
              have A3 : Rep (MidS S w (w7.alloc (tmO v0 v1 v2 v3 v4 v5))) (w7.alloc (tmO v0 v1 v2 v3 v4 v5)) (subS n c (.var d) (T i).b).1 (.agg #[.int .u8 v0, .int .i64 v1, .string v2, .slice v3 v4 v5]) := by
                refine hr7.keep (fun g hg => alloc_far _ _ ?_) (fun g hg => ?_)
                · rcases hg with (hg | hg) | hg
                  · rcases hg with hg | hg
                    · have := hS g hg; omega
                    · have := hg.2; omega
                  · have := hb7.size; simp at this; omega
                  · exact hg.2
                · rcases hg with (hg | hg) | hg
                  · exact hg.imp id (fun h => ⟨h.1, by simp; omega⟩)
                  · exact .inr ⟨by omega, by have := hb7.size; simp at this ⊢; omega⟩
                  · exact .inr ⟨by have := hg.1; simp at this; omega, by have := hg.2; simp; omega⟩
              have A4 : w.heap.size + 3 ≤ w7.heap.size := by omega
              generalize w7.heap.size = p at A2 A4 ⊢
              generalize w7.alloc (tmO v0 v1 v2 v3 v4 v5) = W9 at A1 A2 A3 ⊢)
            | (
              (with_reducible show Exit.then _ _ _ _ (World.setCell (World.setCell (World.setCell (World.setCell w7 ⟨w6.heap.size + 1, 0, none⟩ _) _ _) _ _) _ _))
              have zh := (hb7.block (w6.heap.size + 1) (by simp)).trans tA2
              have A1 := t11 (.int .u8 v0) (.int .i64 v1) (.string v2) (.slice v3 v4 v5)
              have A2 := set4_here zh (.int .u8 v0) (.int .i64 v1) (.string v2) (.slice v3 v4 v5)
              have A3 : Rep (MidS S w (set4 w7 (w6.heap.size + 1) (.int .u8 v0) (.int .i64 v1) (.string v2) (.slice v3 v4 v5))) (set4 w7 (w6.heap.size + 1) (.int .u8 v0) (.int .i64 v1) (.string v2) (.slice v3 v4 v5)) (subS n c (.var d) (T i).b).1 (.agg #[.int .u8 v0, .int .i64 v1, .string v2, .slice v3 v4 v5]) := by
                refine hr7.keep (fun g hg => set4_far _ _ _ _ _ _ _ ?_) (fun g hg => ?_)
                · rcases hg with (hg | hg) | hg
                  · rcases hg with hg | hg
                    · have := hS g hg; omega
                    · have := hg.2; omega
                  · omega
                  · have := hg.1; simp at this; omega
                · unfold MidS; rw [set4_size]; rcases hg with (hg | hg) | hg
                  · exact hg.imp id (fun h => ⟨h.1, by omega⟩)
                  · exact .inr ⟨by omega, by have := hb7.size; simp at this; omega⟩
                  · exact .inr ⟨by have := hg.1; simp at this; omega, hg.2⟩
              have A4 : w.heap.size + 3 ≤ w6.heap.size + 1 := by omega
              dsimp only [set4] at A1 A2 A3
              generalize ((((w7.setCell ⟨w6.heap.size + 1, 0, none⟩ (.int .u8 v0)).setCell ⟨w6.heap.size + 1, 1, none⟩ (.int .i64 v1)).setCell ⟨w6.heap.size + 1, 2, none⟩ (.string v2)).setCell ⟨w6.heap.size + 1, 3, none⟩ (.slice v3 v4 v5)) = W9 at A1 A2 A3 ⊢
              generalize w6.heap.size + 1 = p at A2 A4 ⊢
              clear zh)
            | (
              (with_reducible show Exit.then _ _ _ _ (World.setCell (World.setCell (World.setCell (World.setCell w7 ⟨w6.heap.size, 0, none⟩ _) _ _) _ _) _ _))
              have zh := (hb7.block (w6.heap.size) (by simp; omega)).trans tB2
              have A1 := t13 (.int .u8 v0) (.int .i64 v1) (.string v2) (.slice v3 v4 v5)
              have A2 := set4_here zh (.int .u8 v0) (.int .i64 v1) (.string v2) (.slice v3 v4 v5)
              have A3 : Rep (MidS S w (set4 w7 (w6.heap.size) (.int .u8 v0) (.int .i64 v1) (.string v2) (.slice v3 v4 v5))) (set4 w7 (w6.heap.size) (.int .u8 v0) (.int .i64 v1) (.string v2) (.slice v3 v4 v5)) (subS n c (.var d) (T i).b).1 (.agg #[.int .u8 v0, .int .i64 v1, .string v2, .slice v3 v4 v5]) := by
                refine hr7.keep (fun g hg => set4_far _ _ _ _ _ _ _ ?_) (fun g hg => ?_)
                · rcases hg with (hg | hg) | hg
                  · rcases hg with hg | hg
                    · have := hS g hg; omega
                    · have := hg.2; omega
                  · omega
                  · have := hg.1; simp at this; omega
                · unfold MidS; rw [set4_size]; rcases hg with (hg | hg) | hg
                  · exact hg.imp id (fun h => ⟨h.1, by omega⟩)
                  · exact .inr ⟨by omega, by have := hb7.size; simp at this; omega⟩
                  · exact .inr ⟨by have := hg.1; simp at this; omega, hg.2⟩
              have A4 : w.heap.size + 3 ≤ w6.heap.size := by omega
              dsimp only [set4] at A1 A2 A3
              generalize ((((w7.setCell ⟨w6.heap.size, 0, none⟩ (.int .u8 v0)).setCell ⟨w6.heap.size, 1, none⟩ (.int .i64 v1)).setCell ⟨w6.heap.size, 2, none⟩ (.string v2)).setCell ⟨w6.heap.size, 3, none⟩ (.slice v3 v4 v5)) = W9 at A1 A2 A3 ⊢
              generalize w6.heap.size = p at A2 A4 ⊢
              clear zh)
          all_goals
            obtain ⟨e0, e1, e2, e3, _⟩ := cells4 A2
            obtain ⟨e4, e5, e6, e7, e8, e9, e10, e11⟩ := cells4 A1.body
            have hSt := MidAt.store (s := T (i + 1)) A1 hS (by rw [HST2.out]; exact A3)
            clear KS q5 q6 t1 t2 t3 t4 t5 t6 t7 t8 t9 t10 t11 t12 t13 t14 t15 t16 t17 t18 tA tA2 tB tB2 zA zB hb7 hr7 hU7 hB7 y0 y1 y2 y3 c0 c1 c2 c3
            go_wp2_with fail
          all_goals go_region
          all_goals go_wp2_with fail
          all_goals
            refine ⟨⟨i + 1, v0, v1, v2, v3, v4, v5, by omega, by go_num, ?_, ?_, by rw [HST2.out], ?_⟩, by simp [intOf]; omega⟩
            · have e := set_bytes (T i).ns i d (by omega)
              rw [hKl] at e
              rw [HST2.out, e]
            · rw [HST2.out]
              first
                | (have e : (T i).ok = true := by assumption
                   rw [e, Bool.true_and])
                | (have e : (T i).ok = false := by first | assumption | (simpa using ‹¬ (T i).ok = true›)
                   rw [e, Bool.false_and])
            · first
                | exact hSt
                | exact hSt.keep hS ((Below.refl _ _).drew)
      · have hf : findI c (sfree u) < 0 := (findI_mem _ _).2 hfr
        have HS1 := Lib.hid (show T (i + 1) = T i by rw [HST.out, if_neg hfr])
        have HLF := Lib.hid hleft
        clear hfr hleft
        go_wp2_with (go_at_call 118; refine F.mono ?_; clear F; rintro e w4 ⟨rfl, rfl⟩)
        exact ⟨⟨i + 1, k0, k1, k2, k3, k4, k5, by omega, by go_num, by rw [HS1.out], by rw [HS1.out], by rw [HS1.out]; exact HLF.out, by rw [HS1.out]; exact hM⟩, by simp [intOf]; omega⟩
    · have hie : i = ns.length := by omega
      subst hie
      have hund : undS (subS n) ns b x u = ((T ns.length).ns, (subS n x u (T ns.length).b).1, (T ns.length).ok && (subS n x u (T ns.length).b).2) := by
        rw [HUN.out, if_neg (by rw [hleft]; decide)]
      have hU := hM.boxes
      have hR := hM.rep
      have hzr := hM.boxes.size
      have hlow : ∀ g, MidS S w wr g → g < wr.heap.size := fun g hg => by
        rcases hg with hg | hg
        · have := hS g hg; omega
        · exact hg.2
      have KS : ∀ W, UnW w k0 k1 k2 k3 k4 k5 u0 u1 u2 u3 u4 u5 W → Below wr.heap.size wr W →
          Calls Tryz.prog 86 #[.agg #[.int .u8 k0, .int .i64 k1, .string k2, .slice k3 k4 k5], .string ⟨#[x]⟩, .agg #[.int .u8 u0, .int .i64 u1, .string u2, .slice u3 u4 u5]] W fun e W' =>
            ∃ (v0 v1 : Int) (v2 : ByteArray) (v3 : Option Addr) (v4 v5 : Nat), e = .returned (.tuple #[.agg #[.int .u8 v0, .int .i64 v1, .string v2, .slice v3 v4 v5], .bool (subS n x u (T ns.length).b).2]) ∧ Below W.heap.size W W' ∧
              Rep (fun g => MidS S w wr g ∨ New W W' g) W' (subS n x u (T ns.length).b).1 (.agg #[.int .u8 v0, .int .i64 v1, .string v2, .slice v3 v4 v5]) ∧ UnW w k0 k1 k2 k3 k4 k5 u0 u1 u2 u3 u4 u5 W' ∧ Below wr.heap.size wr W' ∧ (∀ g, W.heap[g]? = some (tmO 0 0 ⟨#[]⟩ none 0 0) → W'.cell? ⟨g, 0, none⟩ = some (.int .u8 0) ∧ W'.cell? ⟨g, 1, none⟩ = some (.int .i64 0) ∧ W'.cell? ⟨g, 2, none⟩ = some (.string ⟨#[]⟩) ∧ W'.cell? ⟨g, 3, none⟩ = some (.slice none 0 0) ∧ W'.frozen? ⟨g, 0, none⟩ = false ∧ W'.frozen? ⟨g, 1, none⟩ = false ∧ W'.frozen? ⟨g, 2, none⟩ = false ∧ W'.frozen? ⟨g, 3, none⟩ = false) := by
        intro W hU1 hBW
        have C := ih (MidS S w wr) x (T ns.length).b u (.agg #[.int .u8 k0, .int .i64 k1, .string k2, .slice k3 k4 k5]) (.agg #[.int .u8 u0, .int .i64 u1, .string u2, .slice u3 u4 u5]) W (by rw [K.like.deep]; exact hd) hn (K.like.good hg) hu hud (by rw [K.like.many]; exact hp) hxn
          (fun g hg => by have := hlow g hg; have := hBW.size; omega)
          (hR.keep (fun g hg => hBW.block g (hlow g hg)) (fun g hg => hg))
          (hru.keep (fun g hg => (hU1.below.block g (hS g hg))) (fun g hg => .inl hg))
        refine C.mono fun e W' h => ?_
        obtain ⟨v, he, hb, hr⟩ := h
        obtain ⟨v0, v1, v2, v3, v4, v5, rfl⟩ := hr.junk
        exact ⟨v0, v1, v2, v3, v4, v5, he, hb, hr, hU1.keep hb, hBW.trans (hb.mono hBW.size), fun g hz => cells4 ((hb.block g (Array.getElem?_eq_some_iff.1 hz).1).trans hz)⟩
      obtain ⟨c0, c1, c2, c3, _⟩ := cells4 hU.body
      obtain ⟨d0, d1, d2, d3, _⟩ := cells4 hU.put
      have HUD := Lib.hid hund
      have HLF := Lib.hid hleft
      clear hund hleft
      go_wp2_with (go_at_call 86; refine (KS _ hU (Below.refl _ _)).mono ?_; clear KS; rintro e w7 ⟨v0, v1, v2, v3, v4, v5, rfl, hb7, hr7, hU7, hB7, _⟩; obtain ⟨r0, r1, r2, r3, f0, f1, f2, f3⟩ := cells4 hU7.res; have hs7 := hB7.size; clear c0 c1 c2 c3 d0 d1 d2 d3)
      have A1 := hU7.keep ((Below.refl _ w7).alloc (Nat.le_refl _) (tmO v0 v1 v2 v3 v4 v5))
      have A2 := alloc_here w7 (tmO v0 v1 v2 v3 v4 v5)
      have A3 : Rep (MidS S w (w7.alloc (tmO v0 v1 v2 v3 v4 v5))) (w7.alloc (tmO v0 v1 v2 v3 v4 v5)) (subS n x u (T ns.length).b).1 (.agg #[.int .u8 v0, .int .i64 v1, .string v2, .slice v3 v4 v5]) := by
        refine hr7.keep (fun g hg => alloc_far _ _ ?_) (fun g hg => ?_)
        · rcases hg with hg | hg
          · have := hlow g hg; omega
          · exact hg.2
        · rcases hg with hg | hg
          · exact hg.imp id (fun h => ⟨h.1, by simp; omega⟩)
          · exact .inr ⟨by have := hg.1; omega, by have := hg.2; simp; omega⟩
      have A4 : w.heap.size + 3 ≤ w7.heap.size := by omega
      clear r0 r1 r2 r3 f0 f1 f2 f3
      generalize w7.heap.size = p at A2 A4 ⊢
      generalize w7.alloc (tmO v0 v1 v2 v3 v4 v5) = W9 at A1 A2 A3 ⊢
      obtain ⟨e0, e1, e2, e3, _⟩ := cells4 A2
      obtain ⟨r0, r1, r2, r3, f0, f1, f2, f3⟩ := cells4 A1.res
      have hA := A1.below
      have hsz := A1.size
      have hund := HUD.out
      clear HUD HUN hr7 hb7 hU7 hB7 hs7
      cases hok : (T ns.length).ok
      · simp only [hok, Bool.false_and] at hund
        go_region
        all_goals go_wp2_with fail
        all_goals refine bodyPost_ret (v := .tuple #[.string ⟨(T ns.length).ns.toArray⟩, .agg #[.int .u8 v0, .int .i64 v1, .string v2, .slice v3 v4 v5], .bool false]) (by simp [results, Tryz.results119, go_sem, r0, r1, r2, r3]) rfl ?_
        all_goals rw [hund]
        all_goals refine ⟨_, rfl, ?_, A3.keep (fun g hg => ?_) (fun g hg => hg.imp id (fun h => ⟨by omega, by simpa [World.setCell] using h.2⟩))⟩
        all_goals first
          | exact (set4_below hA (by omega) _ _ _ _)
          | exact (set4_below hA (by omega) _ _ _ _).drew
          | exact (set4_below hA.drew (by omega) _ _ _ _)
          | exact (set4_far _ _ _ _ _ _ g (by rcases hg with hg | hg; (have := hS g hg; omega); (have := hg.1; omega)))
      · simp only [hok, Bool.true_and] at hund
        go_region
        all_goals go_wp2_with fail
        all_goals refine bodyPost_ret (v := .tuple #[.string ⟨(T ns.length).ns.toArray⟩, .agg #[.int .u8 v0, .int .i64 v1, .string v2, .slice v3 v4 v5], .bool (subS n x u (T ns.length).b).2]) (by simp [results, Tryz.results119, go_sem, r0, r1, r2, r3]) rfl ?_
        all_goals rw [hund]
        all_goals refine ⟨_, rfl, ?_, A3.keep (fun g hg => ?_) (fun g hg => hg.imp id (fun h => ⟨by omega, by simpa [World.setCell] using h.2⟩))⟩
        all_goals first
          | exact (set4_below hA (by omega) _ _ _ _)
          | exact (set4_below hA (by omega) _ _ _ _).drew
          | exact (set4_below hA.drew (by omega) _ _ _ _)
          | exact (set4_far _ _ _ _ _ _ g (by rcases hg with hg | hg; (have := hS g hg; omega); (have := hg.1; omega)))
end Go.Proofs.YtefmmgccdpfnaaaGreatDoor

/- The specification's putting: what a node comes to (pure), and terms without kids. -/
namespace Go.Proofs.YtefmmgccdpfnaaaGreatDoor
open Go.RowKit
open Ff
set_option linter.unusedVariables false

theorem undS_len (n : Nat) (ns : Text) (b : Tm) (x : UInt8) (u : Tm) : (undS (subS n) ns b x u).1.length = ns.length := by
  have K := (stepsS_keep (fun y d t hd => subS_like n y d t hd) (sfree u) x ns b ns.length).len
  unfold undS
  split
  · rfl
  · split <;> exact K
/-- What stands behind the kids in which a name is put at once. -/
theorem qual_plain {t : Tm} (h : bindsOf t = []) : qual t = t.kids := by unfold qual; rw [if_pos h]
theorem qual_bind {t : Tm} (h : bindsOf t ≠ []) : qual t = t.kids.dropLast := by unfold qual; rw [if_neg h]
theorem binds_kids {t : Tm} (h : bindsOf t ≠ []) : t.kids ≠ [] ∧ namesOf t = bindsOf t := by cases t <;> simp_all [bindsOf, Tm.kids, namesOf]
theorem plain_names {t : Tm} (hk : t.kids ≠ []) (h : bindsOf t = []) : namesOf t = [] := by cases t <;> simp_all [bindsOf, Tm.kids, namesOf]
theorem kid_last {t : Tm} (h : t.kids ≠ []) : t.kids[t.kids.length - 1]? = some (lastK t) := by cases t <;> simp_all [Tm.kids, lastK]
/-- A node that binds nothing. -/
theorem sub_plain (n : Nat) (x : UInt8) (u t : Tm) (hk : t.kids ≠ []) (hb : bindsOf t = []) :
    kindOf (subS (n + 1) x u t).1 = kindOf t ∧ numOf (subS (n + 1) x u t).1 = numOf t ∧ namesOf (subS (n + 1) x u t).1 = [] ∧ (subS (n + 1) x u t).1.kids = (qual t).map (fun s => (subS n x u s).1) ∧ (subS (n + 1) x u t).2 = (qual t).all (fun s => (subS n x u s).2) := by
  rw [(sub_node n x u t hk).1 hb, qual_plain hb]
  cases t <;> simp_all [bindsOf, Tm.kids, reTm, kindOf, numOf, namesOf]
/-- A node that binds names. -/
theorem sub_binds (n : Nat) (x : UInt8) (u t : Tm) (hb : bindsOf t ≠ []) :
    kindOf (subS (n + 1) x u t).1 = kindOf t ∧ numOf (subS (n + 1) x u t).1 = numOf t ∧ namesOf (subS (n + 1) x u t).1 = (undS (subS n) (bindsOf t) (lastK t) x u).1 ∧ (subS (n + 1) x u t).1.kids = (qual t).map (fun s => (subS n x u s).1) ++ [(undS (subS n) (bindsOf t) (lastK t) x u).2.1] ∧
      (subS (n + 1) x u t).2 = ((qual t).all (fun s => (subS n x u s).2) && (undS (subS n) (bindsOf t) (lastK t) x u).2.2) := by
  have hl := undS_len n (bindsOf t) (lastK t) x u
  rw [(sub_node n x u t (binds_kids hb).1).2 hb, qual_bind hb]
  cases t with
  | fn c b =>
    obtain ⟨c', e0⟩ := one_of hl
    have e : (undS (subS n) [c] b x u).1 = [c'] := e0
    simp [bindsOf, Tm.kids, reTm, kindOf, numOf, namesOf, lastK, e]
  | fix f c b =>
    obtain ⟨f', c', e0⟩ := two_of' hl
    have e : (undS (subS n) [f, c] b x u).1 = [f', c'] := e0
    simp [bindsOf, Tm.kids, reTm, kindOf, numOf, namesOf, lastK, e]
  | bind c v b =>
    obtain ⟨c', e0⟩ := one_of hl
    have e : (undS (subS n) [c] b x u).1 = [c'] := e0
    simp [bindsOf, Tm.kids, reTm, kindOf, numOf, namesOf, lastK, e]
  | num _ => exact absurd rfl hb
  | var _ => exact absurd rfl hb
  | app _ _ => exact absurd rfl hb
  | op _ _ _ => exact absurd rfl hb
  | sel _ _ _ => exact absurd rfl hb
theorem take_snoc {α : Type} {l : List α} {k : Nat} {s : α} (h : l[k]? = some s) : l.take (k + 1) = l.take k ++ [s] := by
  rw [List.take_add_one, h]
  rfl
theorem kind_sub_var (t : Tm) (h : t.kids ≠ []) (hg : t.good) : kindOf t ≠ 118 := by
  cases t with
  | op s l r => rcases hg.1 with h | h | h <;> subst h <;> simp [kindOf]
  | var c => exact absurd rfl h
  | num c => exact absurd rfl h
  | _ => simp [kindOf]

theorem UnW.grow {w W W' : World} {k n : Int} {s : ByteArray} {a : Option Addr} {l c : Nat} {k' n' : Int} {s' : ByteArray} {a' : Option Addr} {l' c' : Nat} {row : Option Nat} (h : UnW w k n s a l c k' n' s' a' l' c' W) (hg : W.grownBy W' row) (hr : ∀ g, row = some g → w.heap.size + 3 ≤ g) : UnW w k n s a l c k' n' s' a' l' c' W' := by
  have hs := h.size
  have key : ∀ j, j < w.heap.size + 3 → W'.heap[j]? = W.heap[j]? := fun j hj => hg.block j (by omega) (fun e => by have := hr j e.symm; omega)
  exact ⟨(key _ (by omega)).trans h.body, (key _ (by omega)).trans h.put, (key _ (by omega)).trans h.res, h.below.trans ⟨hg.os, hg.tape, hg.output, hg.size, fun j hj => key j (by omega)⟩, by have := hg.size; omega⟩
end Go.Proofs.YtefmmgccdpfnaaaGreatDoor
