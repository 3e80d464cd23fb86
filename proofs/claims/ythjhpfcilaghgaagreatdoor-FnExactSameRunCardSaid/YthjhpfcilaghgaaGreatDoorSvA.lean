import Derived.Test.YthjhpfcilaghgaaGreatDoorEvA
import Derived.Test.YthjhpfcilaghgaaGreatDoorEvF
import Derived.Test.YthjhpfcilaghgaaGreatDoorFrN
import Derived.Test.YthjhpfcilaghgaaGreatDoorMSc
/- The specification's runner in memory. -/
namespace Go.Proofs.YthjhpfcilaghgaaGreatDoor
open Go.RowKit Go.Shelf
open Ff
set_option linter.unusedVariables false
variable {X : Nat → Prop}

/-- The number that a part bears. -/
def numAt (t : Tm) (i : Nat) : Int := match t with | .num k => (k : Int) | _ => (i : Int)
/-- A part with the numbers that the specification gives. -/
inductive RepN (S : Nat → Prop) (w : World) : Tm → Nat → Value → Prop
  | mk (t : Tm) (i g cap : Nat) (c : Nat → Value) (hg : S g) (hc : ∀ k, k < 4 * t.kids.length → w.cell? ⟨g, k, none⟩ = some (c k))
      (hk : ∀ k s, t.kids[k]? = some s → RepN S w s (i + (before t k).length) (four c k)) : RepN S w t i (tmHeadA t (numAt t i) g cap)
theorem RepN.keep {S S' : Nat → Prop} {w w' : World} (H : ∀ g, S g → w'.heap[g]? = w.heap[g]? ∧ S' g) {t : Tm} {i : Nat} {v : Value} (h : RepN S w t i v) : RepN S' w' t i v := by
  induction h with
  | mk t i g cap c hg hc hk ih => exact .mk t i g cap c (H g hg).2 (fun k hk => (World.cell?_of_block (a := ⟨g, k, none⟩) (H g hg).1).trans (hc k hk)) ih
theorem RepN.any {S : Nat → Prop} {w : World} {t : Tm} {i : Nat} {v : Value} (h : RepN S w t i v) : RepA S w t v := by
  induction h with
  | mk t i g cap c hg hc hk ih => exact .mk t _ g cap c hg hc ih
/-- What names are, the oldest first. -/
def En.ents : En → List (UInt8 × Vl)
  | .nil => []
  | .cons c v e => e.ents ++ [(c, v)]
/-- Nine cells out of a row, but for the first. -/
def nine (c : Nat → Value) (k : Nat) : Value := .agg #[c (9 * k + 1), c (9 * k + 2), c (9 * k + 3), c (9 * k + 4), c (9 * k + 5), c (9 * k + 6), c (9 * k + 7), c (9 * k + 8)]
abbrev v8 (b : Bool) (n : Int) (k m : Int) (s : ByteArray) (a : Option Addr) (l c : Nat) (i : Int) (a2 : Option Addr) (l2 c2 : Nat) : Value :=
  .agg #[.bool b, .int .i64 n, .int .u8 k, .int .i64 m, .string s, .slice a l c, .int .i64 i, .slice a2 l2 c2]
abbrev num8 (n : Nat) : Value := v8 false (n : Int) 0 0 ⟨#[]⟩ none 0 0 0 none 0 0
mutual
/-- A value of a run. -/
inductive SV (S : Nat → Prop) (w : World) : Vl → Value → Prop
  | num (n : Nat) : SV S w (.num n) (num8 n)
  | clo (i : Nat) (t : Tm) (e : En) (k m : Int) (s : ByteArray) (a : Option Addr) (l c : Nat) (a2 : Option Addr) (l2 c2 : Nat) (ht : RepN S w t i (.agg #[.int .u8 k, .int .i64 m, .string s, .slice a l c])) (he : SE S w e (.slice a2 l2 c2)) : SV S w (.clo i t e) (v8 true 0 k m s a l c (i : Int) a2 l2 c2)
/-- What names are. -/
inductive SE (S : Nat → Prop) (w : World) : En → Value → Prop
  | nil (a : Addr) (c : Nat) : SE S w .nil (.slice (some a) 0 c)
  | mk (e : En) (g cap : Nat) (c : Nat → Value) (hg : S g) (hc : ∀ k, k < 9 * e.ents.length → w.cell? ⟨g, k, none⟩ = some (c k))
      (hn : ∀ k x v, e.ents[k]? = some (x, v) → c (9 * k) = .string ⟨#[x]⟩) (hv : ∀ k x v, e.ents[k]? = some (x, v) → SV S w v (nine c k)) : SE S w e (.slice (some ⟨g, 0, none⟩) e.ents.length cap)
end
section
variable {S S' : Nat → Prop} {w w' : World} (H : ∀ g, S g → w'.heap[g]? = w.heap[g]? ∧ S' g)
include H
theorem SV.keep {v : Vl} {x : Value} (h : SV S w v x) : SV S' w' v x :=
  SV.rec (motive_1 := fun v x _ => SV S' w' v x) (motive_2 := fun e x _ => SE S' w' e x) (fun n => .num n) (fun i t e k m s a l c a2 l2 c2 ht he ih => .clo i t e k m s a l c a2 l2 c2 (ht.keep H) ih) (fun a c => .nil a c)
    (fun e g cap c hg hc hn hv ih => .mk e g cap c (H g hg).2 (fun k hk => (World.cell?_of_block (a := ⟨g, k, none⟩) (H g hg).1).trans (hc k hk)) hn (fun k x v h => ih k x v h)) h
theorem SE.keep {e : En} {x : Value} (h : SE S w e x) : SE S' w' e x :=
  SE.rec (motive_1 := fun v x _ => SV S' w' v x) (motive_2 := fun e x _ => SE S' w' e x) (fun n => .num n) (fun i t e k m s a l c a2 l2 c2 ht he ih => .clo i t e k m s a l c a2 l2 c2 (ht.keep H) ih) (fun a c => .nil a c)
    (fun e g cap c hg hc hn hv ih => .mk e g cap c (H g hg).2 (fun k hk => (World.cell?_of_block (a := ⟨g, k, none⟩) (H g hg).1).trans (hc k hk)) hn (fun k x v h => ih k x v h)) h
end
theorem SV.form {S : Nat → Prop} {w : World} {v : Vl} {x : Value} (h : SV S w v x) : ∃ b n k m s a l c i a2 l2 c2, x = v8 b n k m s a l c i a2 l2 c2 := by cases h <;> exact ⟨_, _, _, _, _, _, _, _, _, _, _, _, rfl⟩
theorem SE.form {S : Nat → Prop} {w : World} {e : En} {x : Value} (h : SE S w e x) : ∃ a c, x = .slice (some a) e.ents.length c := by cases h <;> exact ⟨_, _, rfl⟩
/-- The first cells of the specification's run. -/
def runL (s : St) (en : Int) (cv av : Value) : List Value := [.int .i64 en, .int .i64 (s.steps : Int), .int .i64 (s.calls : Int), .int .i64 (s.clos : Int), .int .i64 (s.capt : Int), .int .i64 (s.deepest : Int), .int .i64 (s.depth : Int), cv, av]
/-- The specification's run in memory. -/
structure RunS (X : Nat → Prop) (rb : Nat) (cv av : Value) (w : World) (s : St) (en : Int) : Prop where
  cs : ∀ k v, (runL s en cv av)[k]? = some v → w.cell? ⟨rb, k, none⟩ = some v
  made : ∀ k, k < 200 → ∃ n : Int, w.cell? ⟨rb, 9 + k, none⟩ = some (.int .i64 n)
  fz : ∀ k, w.frozen? ⟨rb, k, none⟩ = false
  row : w.ownsRow (rb + 1) 3 1 cv s.called.length (intsV s.called)
  rowA : ∃ n xs, n ≤ s.called.length ∧ w.ownsRow (rb + 1) 160 2 av n xs
  sep : ∀ j, cv.ownBlock = some j → av.ownBlock ≠ some j
  priv : ∀ g, X g → g < w.heap.size
/-- .. that has ended. -/
structure DeadS (X : Nat → Prop) (rb : Nat) (w : World) (en : Int) : Prop where
  c0 : w.cell? ⟨rb, 0, none⟩ = some (.int .i64 en)
  c1 : ∃ n : Int, w.cell? ⟨rb, 1, none⟩ = some (.int .i64 n)
  c6 : ∃ n : Int, w.cell? ⟨rb, 6, none⟩ = some (.int .i64 n)
  fz : ∀ k, w.frozen? ⟨rb, k, none⟩ = false
  ne : en ≠ 0
/-- What lay elsewhere lies as it lay. -/
structure KepS (rb : Nat) (cv av : Value) (w : World) (cv' av' : Value) (w' : World) : Prop where
  os : w'.os = w.os
  tape : w'.tape = w.tape
  output : w'.output = w.output
  size : w.heap.size ≤ w'.heap.size
  block : ∀ j, j < w.heap.size → j ≠ rb → cv.ownBlock ≠ some j → av.ownBlock ≠ some j → w'.heap[j]? = w.heap[j]?
  own : ∀ j, cv'.ownBlock = some j ∨ av'.ownBlock = some j → cv.ownBlock = some j ∨ av.ownBlock = some j ∨ w.heap.size ≤ j
def SafeS (X : Nat → Prop) (rb : Nat) (cv av : Value) (w : World) (g : Nat) : Prop := g < w.heap.size ∧ g ≠ rb ∧ cv.ownBlock ≠ some g ∧ av.ownBlock ≠ some g ∧ ¬ X g
theorem KepS.refl (rb : Nat) (cv av : Value) (w : World) : KepS rb cv av w cv av w := ⟨rfl, rfl, rfl, Nat.le_refl _, fun _ _ _ _ _ => rfl, fun _ h => h.elim .inl (fun h => .inr (.inl h))⟩
theorem KepS.trans {rb : Nat} {c0 a0 c1 a1 c2 a2 : Value} {w0 w1 w2 : World} (h : KepS rb c0 a0 w0 c1 a1 w1) (k : KepS rb c1 a1 w1 c2 a2 w2) : KepS rb c0 a0 w0 c2 a2 w2 := by
  refine ⟨k.os.trans h.os, k.tape.trans h.tape, k.output.trans h.output, Nat.le_trans h.size k.size, fun j hj hr hc ha => ?_, fun j hj => ?_⟩
  · rw [k.block j (Nat.lt_of_lt_of_le hj h.size) hr (fun e => (h.own j (.inl e)).elim hc (fun e => e.elim ha (fun h => by omega))) (fun e => (h.own j (.inr e)).elim hc (fun e => e.elim ha (fun h => by omega)))]
    exact h.block j hj hr hc ha
  · rcases k.own j hj with h1 | h1 | h1
    · exact h.own j (.inl h1)
    · exact h.own j (.inr h1)
    · exact .inr (.inr (Nat.le_trans h.size h1))
theorem KepS.below {rb : Nat} {cv av : Value} {w w' : World} (h : Below w.heap.size w w') : KepS rb cv av w cv av w' := ⟨h.os, h.tape, h.output, h.size, fun j hj _ _ _ => h.block j hj, fun _ h => h.elim .inl (fun h => .inr (.inl h))⟩
theorem KepS.safe {rb : Nat} {c0 a0 c1 a1 : Value} {w0 w1 : World} (h : KepS rb c0 a0 w0 c1 a1 w1) {g : Nat} (hs : SafeS X rb c0 a0 w0 g) : w1.heap[g]? = w0.heap[g]? ∧ SafeS X rb c1 a1 w1 g :=
  ⟨h.block g hs.1 hs.2.1 hs.2.2.1 hs.2.2.2.1, Nat.lt_of_lt_of_le hs.1 h.size, hs.2.1, fun e => (h.own g (.inl e)).elim hs.2.2.1 (fun e => e.elim hs.2.2.2.1 (fun k => by have := hs.1; omega)), fun e => (h.own g (.inr e)).elim hs.2.2.1 (fun e => e.elim hs.2.2.2.1 (fun k => by have := hs.1; omega)), hs.2.2.2.2⟩
theorem KepS.cell {rb : Nat} {c0 a0 c1 a1 : Value} {w0 w1 : World} (h : KepS rb c0 a0 w0 c1 a1 w1) {g k : Nat} {v : Value} (hs : SafeS X rb c0 a0 w0 g) (hc : w0.cell? ⟨g, k, none⟩ = some v) : w1.cell? ⟨g, k, none⟩ = some v := (World.cell?_of_block (a := ⟨g, k, none⟩) (h.safe hs).1).trans hc
theorem KepS.hide {rb : Nat} {c0 a0 c1 a1 : Value} {w0 w1 : World} (h : KepS rb c0 a0 w0 c1 a1 w1) {b : Nat} (hb : w0.heap.size ≤ b) (g : Nat) (hs : SafeS X rb c0 a0 w0 g) : w1.heap[g]? = w0.heap[g]? ∧ SafeS (AndX X b) rb c1 a1 w1 g :=
  have k := h.safe hs
  ⟨k.1, k.2.1, k.2.2.1, k.2.2.2.1, k.2.2.2.2.1, fun e => e.elim k.2.2.2.2.2 (fun e => by have := hs.1; omega)⟩
theorem RunS.lt {rb : Nat} {cv av : Value} {w : World} {s : St} {en : Int} (h : RunS X rb cv av w s en) : rb < w.heap.size := World.block_lt_of_cell? w ⟨rb, 0, none⟩ (h.cs 0 _ rfl)
theorem RunS.below {rb : Nat} {cv av : Value} {w w' : World} {s : St} {en : Int} (h : RunS X rb cv av w s en) (hb : Below w.heap.size w w') : RunS X rb cv av w' s en := by
  have hl := h.lt
  have q : ∀ k v, w.cell? ⟨rb, k, none⟩ = some v → w'.cell? ⟨rb, k, none⟩ = some v := fun k v hv => (hb.cell (p := ⟨rb, k, none⟩) hl).trans hv
  obtain ⟨na, xs, hna, hA⟩ := h.rowA
  exact ⟨fun k v hk => q _ _ (h.cs k v hk), fun k hk => (h.made k hk).imp fun n hn => q _ _ hn, fun k => (hb.frozen (p := ⟨rb, k, none⟩) hl).trans (h.fz k),
    World.ownsRow.kept (row := none) h.row (grown_none hb) (by rcases ho : cv.ownBlock with _ | j; exact .inl rfl; exact .inr (by simp)), ⟨na, xs, hna, World.ownsRow.kept (row := none) hA (grown_none hb) (by rcases ho : av.ownBlock with _ | j; exact .inl rfl; exact .inr (by simp))⟩, h.sep, fun g hg => Nat.lt_of_lt_of_le (h.priv g hg) hb.size⟩
theorem RunS.hide {rb : Nat} {cv av : Value} {w : World} {s : St} {en : Int} (h : RunS X rb cv av w s en) {b : Nat} (hb : b < w.heap.size) : RunS (AndX X b) rb cv av w s en :=
  ⟨h.cs, h.made, h.fz, h.row, h.rowA, h.sep, fun g hg => hg.elim (h.priv g) (fun e => by omega)⟩
theorem RunS.bare {rb : Nat} {cv av : Value} {w : World} {s : St} {en : Int} {b : Nat} (h : RunS (AndX X b) rb cv av w s en) : RunS X rb cv av w s en :=
  ⟨h.cs, h.made, h.fz, h.row, h.rowA, h.sep, fun g hg => h.priv g (.inl hg)⟩
theorem RunS.owns {rb : Nat} {cv av : Value} {w : World} {s : St} {en : Int} (h : RunS X rb cv av w s en) (j : Nat) (hj : cv.ownBlock = some j ∨ av.ownBlock = some j) : rb + 1 ≤ j ∧ j < w.heap.size := by
  obtain ⟨na, xs, hna, hA⟩ := h.rowA
  exact hj.elim (World.ownsRow.lt h.row j) (World.ownsRow.lt hA j)
theorem RunS.new {rb : Nat} {cv av : Value} {w W : World} {s : St} {en : Int} (h : RunS X rb cv av w s en) {g : Nat} (h1 : w.heap.size ≤ g) (h2 : g < W.heap.size) : SafeS X rb cv av W g :=
  ⟨h2, by have := h.lt; omega, fun e => by have := (h.owns g (.inl e)).2; omega, fun e => by have := (h.owns g (.inr e)).2; omega, fun e => by have := h.priv g e; omega⟩
theorem DeadS.below {rb : Nat} {w w' : World} {en : Int} (h : DeadS X rb w en) (hb : Below w.heap.size w w') : DeadS X rb w' en := by
  have hl := World.block_lt_of_cell? w ⟨rb, 0, none⟩ h.c0
  have q : ∀ k v, w.cell? ⟨rb, k, none⟩ = some v → w'.cell? ⟨rb, k, none⟩ = some v := fun k v hv => (hb.cell (p := ⟨rb, k, none⟩) hl).trans hv
  exact ⟨q _ _ h.c0, h.c1.imp fun n hn => q _ _ hn, h.c6.imp fun n hn => q _ _ hn, fun k => (hb.frozen (p := ⟨rb, k, none⟩) hl).trans (h.fz k), h.ne⟩
theorem KepS.set {rb : Nat} {c0 a0 cv av : Value} {w0 w : World} (h : KepS rb c0 a0 w0 cv av w) (k : Nat) (u : Value) : KepS rb c0 a0 w0 cv av (w.setCell ⟨rb, k, none⟩ u) :=
  h.trans ⟨rfl, rfl, rfl, by simp, fun j _ hr _ _ => Below.heap_setCell _ _ _ _ hr, fun _ h => h.elim .inl (fun h => .inr (.inl h))⟩
/-- A number of the run's is set. -/
theorem set_at {w : World} {rb : Nat} {u : Value} (k : Nat) {v0 : Value} (h : w.cell? ⟨rb, k, none⟩ = some v0) : (w.setCell ⟨rb, k, none⟩ u).cell? ⟨rb, k, none⟩ = some u := World.cell?_setCell_same _ _ _ h
theorem set_off (w : World) (b k j : Nat) (u : Value) (h : j ≠ k) : (w.setCell ⟨b, k, none⟩ u).cell? ⟨b, j, none⟩ = w.cell? ⟨b, j, none⟩ := World.cell?_setCell_other w _ _ u (fun e => h (by injection e with _ e; exact e.symm))
theorem RunS.at {rb : Nat} {cv av : Value} {w : World} {s : St} {en : Int} (h : RunS X rb cv av w s en) : w.cell? ⟨rb, 0, none⟩ = some (.int .i64 en) ∧ w.cell? ⟨rb, 1, none⟩ = some (.int .i64 (s.steps : Int)) ∧ w.cell? ⟨rb, 2, none⟩ = some (.int .i64 (s.calls : Int)) ∧ w.cell? ⟨rb, 3, none⟩ = some (.int .i64 (s.clos : Int)) ∧ w.cell? ⟨rb, 4, none⟩ = some (.int .i64 (s.capt : Int)) ∧ w.cell? ⟨rb, 5, none⟩ = some (.int .i64 (s.deepest : Int)) ∧ w.cell? ⟨rb, 6, none⟩ = some (.int .i64 (s.depth : Int)) ∧ w.cell? ⟨rb, 7, none⟩ = some cv ∧ w.cell? ⟨rb, 8, none⟩ = some av :=
  ⟨h.cs 0 _ rfl, h.cs 1 _ rfl, h.cs 2 _ rfl, h.cs 3 _ rfl, h.cs 4 _ rfl, h.cs 5 _ rfl, h.cs 6 _ rfl, h.cs 7 _ rfl, h.cs 8 _ rfl⟩
theorem row_set_e2 {w : World} {r sz : Nat} {cv : Value} {e : TypeId} {n : Nat} {xs : List Value} (h : w.ownsRow (r + 1) e sz cv n xs) (k : Nat) (u : Value) : (w.setCell ⟨r, k, none⟩ u).ownsRow (r + 1) e sz cv n xs := by
  obtain ⟨h1, h2 | ⟨g, cap, cur, hv, hb, hh, rest⟩⟩ := h
  · exact ⟨h1, .inl h2⟩
  · exact ⟨h1, .inr ⟨g, cap, cur, hv, hb, by rw [Below.heap_setCell _ _ _ _ (by show g ≠ r; omega)]; exact hh, rest⟩⟩
/-- One of the first cells is set. -/
theorem RunS.set {rb : Nat} {cv av : Value} {w : World} {s s' : St} {en en' : Int} (h : RunS X rb cv av w s en) (k : Nat) (u : Value) (hk : k < 9) (hc : (runL s en cv av).set k u = runL s' en' cv av) (hl : s'.called = s.called) : RunS X rb cv av (w.setCell ⟨rb, k, none⟩ u) s' en' := by
  obtain ⟨na, xs, hna, hA⟩ := h.rowA
  refine ⟨fun j v hj => ?_, fun j hj => ?_, fun j => ?_, by rw [hl]; exact row_set_e2 h.row k u, ⟨na, xs, by rw [hl]; exact hna, row_set_e2 hA k u⟩, h.sep, fun g hg => by simpa using h.priv g hg⟩
  · rw [← hc] at hj
    by_cases e : j = k
    · subst e
      have hlt : j < (runL s en cv av).length := by have := (List.getElem?_eq_some_iff.1 hj).1; simpa using this
      rw [List.getElem?_set_self hlt] at hj
      injection hj with hj
      subst hj
      exact set_at j (h.cs j _ (List.getElem?_eq_getElem hlt))
    · rw [List.getElem?_set_ne (Ne.symm e)] at hj
      rw [set_off _ _ _ _ _ e]
      exact h.cs j v hj
  · obtain ⟨n, hn⟩ := h.made j hj
    exact ⟨n, by rw [set_off _ _ _ _ _ (by omega)]; exact hn⟩
  · rw [World.frozen?_setCell]; exact h.fz j
theorem RunS.setMade {rb : Nat} {cv av : Value} {w : World} {s : St} {en : Int} (h : RunS X rb cv av w s en) (k : Nat) (n : Int) (hk : k < 200) : RunS X rb cv av (w.setCell ⟨rb, 9 + k, none⟩ (.int .i64 n)) s en := by
  obtain ⟨na, xs, hna, hA⟩ := h.rowA
  refine ⟨fun j v hj => ?_, fun j hj => ?_, fun j => ?_, row_set_e2 h.row _ _, ⟨na, xs, hna, row_set_e2 hA _ _⟩, h.sep, fun g hg => by simpa using h.priv g hg⟩
  · have hlt : j < 9 := by have := (List.getElem?_eq_some_iff.1 hj).1; simpa [runL] using this
    rw [set_off _ _ _ _ _ (by omega)]
    exact h.cs j v hj
  · by_cases e : j = k
    · subst e
      obtain ⟨m, hm⟩ := h.made j hj
      exact ⟨n, set_at _ hm⟩
    · obtain ⟨m, hm⟩ := h.made j hj
      exact ⟨m, by rw [set_off _ _ _ _ _ (by omega)]; exact hm⟩
  · rw [World.frozen?_setCell]; exact h.fz j
theorem RunS.dead {rb : Nat} {cv av : Value} {w : World} {s : St} {en : Int} (h : RunS X rb cv av w s en) (hne : en ≠ 0) : DeadS X rb w en := ⟨h.cs 0 _ rfl, ⟨_, h.cs 1 _ rfl⟩, ⟨_, h.cs 6 _ rfl⟩, h.fz, hne⟩
theorem DeadS.set {rb : Nat} {w : World} {en : Int} (h : DeadS X rb w en) (k : Nat) (n : Int) (hk : k ≠ 0) : DeadS X rb (w.setCell ⟨rb, k, none⟩ (.int .i64 n)) en := by
  obtain ⟨n1, h1⟩ := h.c1
  obtain ⟨n6, h6⟩ := h.c6
  refine ⟨by rw [set_off _ _ _ _ _ (Ne.symm hk)]; exact h.c0, ?_, ?_, fun j => by rw [World.frozen?_setCell]; exact h.fz j, h.ne⟩
  · by_cases e : 1 = k
    · subst e; exact ⟨n, set_at _ h1⟩
    · exact ⟨n1, by rw [set_off _ _ _ _ _ e]; exact h1⟩
  · by_cases e : 6 = k
    · subst e; exact ⟨n, set_at _ h6⟩
    · exact ⟨n6, by rw [set_off _ _ _ _ _ e]; exact h6⟩
end Go.Proofs.YthjhpfcilaghgaaGreatDoor
