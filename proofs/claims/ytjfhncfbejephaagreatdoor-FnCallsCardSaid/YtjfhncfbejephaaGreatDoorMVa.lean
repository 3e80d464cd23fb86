import Derived.Test.YtjfhncfbejephaaGreatDoorMEa
import Derived.Test.YtjfhncfbejephaaGreatDoorMEf
import Derived.Test.YtjfhncfbejephaaGreatDoorFrN
import Derived.Test.YtjfhncfbejephaaGreatDoorMSc
import Derived.Maps.AppendAt
import Derived.Deep.RegionLaw
/- The specification's runner in memory. -/
namespace Go.Proofs.YtjfhncfbejephaaGreatDoor
open Go.RowKit Go.Shelf
open Ff
set_option linter.unusedVariables false
variable {X : Nat → Prop}

/-- The number that a part bears. -/
def numAt (t : Tm) (i : Nat) : Int := match t with | .num k => (k : Int) | _ => (i : Int)
/-- A part with the numbers that the specification gives. -/
inductive RepN (S : Nat → Prop) (w : World) : Tm → Nat → Value → Prop
  | mk (t : Tm) (i g cap : Nat) (c : Nat → Value) (hg : S g) (hc : ∀ k, k < 4 * t.kids.length → w.cell? ⟨g, k, none⟩ = some (c k))
      (hk : ∀ k s, t.kids[k]? = some s → RepN S w s (i + (before t k).length) (four c k)) : RepN S w t i (tmHeadA t (numAt t i) g cap)
theorem RepN.keep {S S' : Nat → Prop} {w w' : World} (H : ∀ g, S g → w'.heap[g]? = w.heap[g]? ∧ S' g) {t : Tm} {i : Nat} {v : Value} (h : RepN S w t i v) : RepN S' w' t i v := by
  induction h with
  | mk t i g cap c hg hc hk ih => exact .mk t i g cap c (H g hg).2 (fun k hk => (World.cell?_of_block (a := ⟨g, k, none⟩) (H g hg).1).trans (hc k hk)) ih
theorem RepN.any {S : Nat → Prop} {w : World} {t : Tm} {i : Nat} {v : Value} (h : RepN S w t i v) : RepA S w t v := by
  induction h with
  | mk t i g cap c hg hc hk ih => exact .mk t _ g cap c hg hc ih
/-- What names are, the oldest first. -/
def En.ents : En → List (UInt8 × Vl)
  | .nil => []
  | .cons c v e => e.ents ++ [(c, v)]
/-- Nine cells out of a row, but for the first. -/
def nine (c : Nat → Value) (k : Nat) : Value := .agg #[c (9 * k + 1), c (9 * k + 2), c (9 * k + 3), c (9 * k + 4), c (9 * k + 5), c (9 * k + 6), c (9 * k + 7), c (9 * k + 8)]
abbrev v8 (b : Bool) (n : Int) (k m : Int) (s : ByteArray) (a : Option Addr) (l c : Nat) (i : Int) (a2 : Option Addr) (l2 c2 : Nat) : Value :=
  .agg #[.bool b, .int .i64 n, .int .u8 k, .int .i64 m, .string s, .slice a l c, .int .i64 i, .slice a2 l2 c2]
abbrev num8 (n : Nat) : Value := v8 false (n : Int) 0 0 ⟨#[]⟩ none 0 0 0 none 0 0
mutual
/-- A value of a run. -/
inductive SV (S : Nat → Prop) (w : World) : Vl → Value → Prop
  | num (n : Nat) : SV S w (.num n) (num8 n)
  | clo (i : Nat) (t : Tm) (e : En) (k m : Int) (s : ByteArray) (a : Option Addr) (l c : Nat) (a2 : Option Addr) (l2 c2 : Nat) (ht : RepN S w t i (.agg #[.int .u8 k, .int .i64 m, .string s, .slice a l c])) (he : SE S w e (.slice a2 l2 c2)) : SV S w (.clo i t e) (v8 true 0 k m s a l c (i : Int) a2 l2 c2)
/-- What names are. -/
inductive SE (S : Nat → Prop) (w : World) : En → Value → Prop
  | nil (a : Addr) (c : Nat) : SE S w .nil (.slice (some a) 0 c)
  | mk (e : En) (g cap : Nat) (c : Nat → Value) (hg : S g) (hc : ∀ k, k < 9 * e.ents.length → w.cell? ⟨g, k, none⟩ = some (c k))
      (hn : ∀ k x v, e.ents[k]? = some (x, v) → c (9 * k) = .string ⟨#[x]⟩) (hv : ∀ k x v, e.ents[k]? = some (x, v) → SV S w v (nine c k)) : SE S w e (.slice (some ⟨g, 0, none⟩) e.ents.length cap)
end
section
variable {S S' : Nat → Prop} {w w' : World} (H : ∀ g, S g → w'.heap[g]? = w.heap[g]? ∧ S' g)
include H
theorem SV.keep {v : Vl} {x : Value} (h : SV S w v x) : SV S' w' v x :=
  SV.rec (motive_1 := fun v x _ => SV S' w' v x) (motive_2 := fun e x _ => SE S' w' e x) (fun n => .num n) (fun i t e k m s a l c a2 l2 c2 ht he ih => .clo i t e k m s a l c a2 l2 c2 (ht.keep H) ih) (fun a c => .nil a c)
    (fun e g cap c hg hc hn hv ih => .mk e g cap c (H g hg).2 (fun k hk => (World.cell?_of_block (a := ⟨g, k, none⟩) (H g hg).1).trans (hc k hk)) hn (fun k x v h => ih k x v h)) h
theorem SE.keep {e : En} {x : Value} (h : SE S w e x) : SE S' w' e x :=
  SE.rec (motive_1 := fun v x _ => SV S' w' v x) (motive_2 := fun e x _ => SE S' w' e x) (fun n => .num n) (fun i t e k m s a l c a2 l2 c2 ht he ih => .clo i t e k m s a l c a2 l2 c2 (ht.keep H) ih) (fun a c => .nil a c)
    (fun e g cap c hg hc hn hv ih => .mk e g cap c (H g hg).2 (fun k hk => (World.cell?_of_block (a := ⟨g, k, none⟩) (H g hg).1).trans (hc k hk)) hn (fun k x v h => ih k x v h)) h
end
theorem SV.form {S : Nat → Prop} {w : World} {v : Vl} {x : Value} (h : SV S w v x) : ∃ b n k m s a l c i a2 l2 c2, x = v8 b n k m s a l c i a2 l2 c2 := by cases h <;> exact ⟨_, _, _, _, _, _, _, _, _, _, _, _, rfl⟩
theorem SE.form {S : Nat → Prop} {w : World} {e : En} {x : Value} (h : SE S w e x) : ∃ a c, x = .slice (some a) e.ents.length c := by cases h <;> exact ⟨_, _, rfl⟩
/-- The first cells of the specification's run. -/
def runL (s : St) (en : Int) (cv av : Value) : List Value := [.int .i64 en, .int .i64 (s.steps : Int), .int .i64 (s.calls : Int), .int .i64 (s.clos : Int), .int .i64 (s.capt : Int), .int .i64 (s.deepest : Int), .int .i64 (s.depth : Int), cv, av]
/-- The specification's run in memory. -/
structure RunS (X : Nat → Prop) (rb : Nat) (cv av : Value) (w : World) (s : St) (en : Int) : Prop where
  cs : ∀ k v, (runL s en cv av)[k]? = some v → w.cell? ⟨rb, k, none⟩ = some v
  made : ∀ k, k < 200 → ∃ n : Int, w.cell? ⟨rb, 9 + k, none⟩ = some (.int .i64 n)
  fz : ∀ k, w.frozen? ⟨rb, k, none⟩ = false
  row : w.ownsRow (rb + 1) 3 1 cv s.called.length (intsV s.called)
  rowA : ∃ n xs, n ≤ s.called.length ∧ w.ownsRow (rb + 1) 194 2 av n xs
  sep : ∀ j, cv.ownBlock = some j → av.ownBlock ≠ some j
  priv : ∀ g, X g → g < w.heap.size
/-- .. that has ended. -/
structure DeadS (X : Nat → Prop) (rb : Nat) (w : World) (en : Int) : Prop where
  c0 : w.cell? ⟨rb, 0, none⟩ = some (.int .i64 en)
  c1 : ∃ n : Int, w.cell? ⟨rb, 1, none⟩ = some (.int .i64 n)
  c6 : ∃ n : Int, w.cell? ⟨rb, 6, none⟩ = some (.int .i64 n)
  fz : ∀ k, w.frozen? ⟨rb, k, none⟩ = false
  ne : en ≠ 0
/-- What lay elsewhere lies as it lay. -/
structure KepS (rb : Nat) (cv av : Value) (w : World) (cv' av' : Value) (w' : World) : Prop where
  os : w'.os = w.os
  tape : w'.tape = w.tape
  output : w'.output = w.output
  size : w.heap.size ≤ w'.heap.size
  block : ∀ j, j < w.heap.size → j ≠ rb → cv.ownBlock ≠ some j → av.ownBlock ≠ some j → w'.heap[j]? = w.heap[j]?
  own : ∀ j, cv'.ownBlock = some j ∨ av'.ownBlock = some j → cv.ownBlock = some j ∨ av.ownBlock = some j ∨ w.heap.size ≤ j
def SafeS (X : Nat → Prop) (rb : Nat) (cv av : Value) (w : World) (g : Nat) : Prop := g < w.heap.size ∧ g ≠ rb ∧ cv.ownBlock ≠ some g ∧ av.ownBlock ≠ some g ∧ ¬ X g
theorem KepS.refl (rb : Nat) (cv av : Value) (w : World) : KepS rb cv av w cv av w := ⟨rfl, rfl, rfl, Nat.le_refl _, fun _ _ _ _ _ => rfl, fun _ h => h.elim .inl (fun h => .inr (.inl h))⟩
theorem KepS.trans {rb : Nat} {c0 a0 c1 a1 c2 a2 : Value} {w0 w1 w2 : World} (h : KepS rb c0 a0 w0 c1 a1 w1) (k : KepS rb c1 a1 w1 c2 a2 w2) : KepS rb c0 a0 w0 c2 a2 w2 := by
  refine ⟨k.os.trans h.os, k.tape.trans h.tape, k.output.trans h.output, Nat.le_trans h.size k.size, fun j hj hr hc ha => ?_, fun j hj => ?_⟩
  · rw [k.block j (Nat.lt_of_lt_of_le hj h.size) hr (fun e => (h.own j (.inl e)).elim hc (fun e => e.elim ha (fun h => by omega))) (fun e => (h.own j (.inr e)).elim hc (fun e => e.elim ha (fun h => by omega)))]
    exact h.block j hj hr hc ha
  · rcases k.own j hj with h1 | h1 | h1
    · exact h.own j (.inl h1)
    · exact h.own j (.inr h1)
    · exact .inr (.inr (Nat.le_trans h.size h1))
theorem KepS.below {rb : Nat} {cv av : Value} {w w' : World} (h : Below w.heap.size w w') : KepS rb cv av w cv av w' := ⟨h.os, h.tape, h.output, h.size, fun j hj _ _ _ => h.block j hj, fun _ h => h.elim .inl (fun h => .inr (.inl h))⟩
theorem KepS.safe {rb : Nat} {c0 a0 c1 a1 : Value} {w0 w1 : World} (h : KepS rb c0 a0 w0 c1 a1 w1) {g : Nat} (hs : SafeS X rb c0 a0 w0 g) : w1.heap[g]? = w0.heap[g]? ∧ SafeS X rb c1 a1 w1 g :=
  ⟨h.block g hs.1 hs.2.1 hs.2.2.1 hs.2.2.2.1, Nat.lt_of_lt_of_le hs.1 h.size, hs.2.1, fun e => (h.own g (.inl e)).elim hs.2.2.1 (fun e => e.elim hs.2.2.2.1 (fun k => by have := hs.1; omega)), fun e => (h.own g (.inr e)).elim hs.2.2.1 (fun e => e.elim hs.2.2.2.1 (fun k => by have := hs.1; omega)), hs.2.2.2.2⟩
theorem KepS.cell {rb : Nat} {c0 a0 c1 a1 : Value} {w0 w1 : World} (h : KepS rb c0 a0 w0 c1 a1 w1) {g k : Nat} {v : Value} (hs : SafeS X rb c0 a0 w0 g) (hc : w0.cell? ⟨g, k, none⟩ = some v) : w1.cell? ⟨g, k, none⟩ = some v := (World.cell?_of_block (a := ⟨g, k, none⟩) (h.safe hs).1).trans hc
theorem KepS.hide {rb : Nat} {c0 a0 c1 a1 : Value} {w0 w1 : World} (h : KepS rb c0 a0 w0 c1 a1 w1) {b : Nat} (hb : w0.heap.size ≤ b) (g : Nat) (hs : SafeS X rb c0 a0 w0 g) : w1.heap[g]? = w0.heap[g]? ∧ SafeS (AndX X b) rb c1 a1 w1 g :=
  have k := h.safe hs
  ⟨k.1, k.2.1, k.2.2.1, k.2.2.2.1, k.2.2.2.2.1, fun e => e.elim k.2.2.2.2.2 (fun e => by have := hs.1; omega)⟩
theorem RunS.lt {rb : Nat} {cv av : Value} {w : World} {s : St} {en : Int} (h : RunS X rb cv av w s en) : rb < w.heap.size := World.block_lt_of_cell? w ⟨rb, 0, none⟩ (h.cs 0 _ rfl)
theorem RunS.below {rb : Nat} {cv av : Value} {w w' : World} {s : St} {en : Int} (h : RunS X rb cv av w s en) (hb : Below w.heap.size w w') : RunS X rb cv av w' s en := by
  have hl := h.lt
  have q : ∀ k v, w.cell? ⟨rb, k, none⟩ = some v → w'.cell? ⟨rb, k, none⟩ = some v := fun k v hv => (hb.cell (p := ⟨rb, k, none⟩) hl).trans hv
  obtain ⟨na, xs, hna, hA⟩ := h.rowA
  exact ⟨fun k v hk => q _ _ (h.cs k v hk), fun k hk => (h.made k hk).imp fun n hn => q _ _ hn, fun k => (hb.frozen (p := ⟨rb, k, none⟩) hl).trans (h.fz k),
    World.ownsRow.kept (row := none) h.row (grown_none hb) (by rcases ho : cv.ownBlock with _ | j; exact .inl rfl; exact .inr (by simp)), ⟨na, xs, hna, World.ownsRow.kept (row := none) hA (grown_none hb) (by rcases ho : av.ownBlock with _ | j; exact .inl rfl; exact .inr (by simp))⟩, h.sep, fun g hg => Nat.lt_of_lt_of_le (h.priv g hg) hb.size⟩
theorem RunS.hide {rb : Nat} {cv av : Value} {w : World} {s : St} {en : Int} (h : RunS X rb cv av w s en) {b : Nat} (hb : b < w.heap.size) : RunS (AndX X b) rb cv av w s en :=
  ⟨h.cs, h.made, h.fz, h.row, h.rowA, h.sep, fun g hg => hg.elim (h.priv g) (fun e => by omega)⟩
theorem RunS.bare {rb : Nat} {cv av : Value} {w : World} {s : St} {en : Int} {b : Nat} (h : RunS (AndX X b) rb cv av w s en) : RunS X rb cv av w s en :=
  ⟨h.cs, h.made, h.fz, h.row, h.rowA, h.sep, fun g hg => h.priv g (.inl hg)⟩
theorem RunS.owns {rb : Nat} {cv av : Value} {w : World} {s : St} {en : Int} (h : RunS X rb cv av w s en) (j : Nat) (hj : cv.ownBlock = some j ∨ av.ownBlock = some j) : rb + 1 ≤ j ∧ j < w.heap.size := by
  obtain ⟨na, xs, hna, hA⟩ := h.rowA
  exact hj.elim (World.ownsRow.lt h.row j) (World.ownsRow.lt hA j)
theorem RunS.new {rb : Nat} {cv av : Value} {w W : World} {s : St} {en : Int} (h : RunS X rb cv av w s en) {g : Nat} (h1 : w.heap.size ≤ g) (h2 : g < W.heap.size) : SafeS X rb cv av W g :=
  ⟨h2, by have := h.lt; omega, fun e => by have := (h.owns g (.inl e)).2; omega, fun e => by have := (h.owns g (.inr e)).2; omega, fun e => by have := h.priv g e; omega⟩
theorem DeadS.below {rb : Nat} {w w' : World} {en : Int} (h : DeadS X rb w en) (hb : Below w.heap.size w w') : DeadS X rb w' en := by
  have hl := World.block_lt_of_cell? w ⟨rb, 0, none⟩ h.c0
  have q : ∀ k v, w.cell? ⟨rb, k, none⟩ = some v → w'.cell? ⟨rb, k, none⟩ = some v := fun k v hv => (hb.cell (p := ⟨rb, k, none⟩) hl).trans hv
  exact ⟨q _ _ h.c0, h.c1.imp fun n hn => q _ _ hn, h.c6.imp fun n hn => q _ _ hn, fun k => (hb.frozen (p := ⟨rb, k, none⟩) hl).trans (h.fz k), h.ne⟩
theorem KepS.set {rb : Nat} {c0 a0 cv av : Value} {w0 w : World} (h : KepS rb c0 a0 w0 cv av w) (k : Nat) (u : Value) : KepS rb c0 a0 w0 cv av (w.setCell ⟨rb, k, none⟩ u) :=
  h.trans ⟨rfl, rfl, rfl, by simp, fun j _ hr _ _ => Below.heap_setCell _ _ _ _ hr, fun _ h => h.elim .inl (fun h => .inr (.inl h))⟩
/-- A number of the run's is set. -/
theorem set_at {w : World} {rb : Nat} {u : Value} (k : Nat) {v0 : Value} (h : w.cell? ⟨rb, k, none⟩ = some v0) : (w.setCell ⟨rb, k, none⟩ u).cell? ⟨rb, k, none⟩ = some u := World.cell?_setCell_same _ _ _ h
theorem set_off (w : World) (b k j : Nat) (u : Value) (h : j ≠ k) : (w.setCell ⟨b, k, none⟩ u).cell? ⟨b, j, none⟩ = w.cell? ⟨b, j, none⟩ := World.cell?_setCell_other w _ _ u (fun e => h (by injection e with _ e; exact e.symm))
theorem RunS.at {rb : Nat} {cv av : Value} {w : World} {s : St} {en : Int} (h : RunS X rb cv av w s en) : w.cell? ⟨rb, 0, none⟩ = some (.int .i64 en) ∧ w.cell? ⟨rb, 1, none⟩ = some (.int .i64 (s.steps : Int)) ∧ w.cell? ⟨rb, 2, none⟩ = some (.int .i64 (s.calls : Int)) ∧ w.cell? ⟨rb, 3, none⟩ = some (.int .i64 (s.clos : Int)) ∧ w.cell? ⟨rb, 4, none⟩ = some (.int .i64 (s.capt : Int)) ∧ w.cell? ⟨rb, 5, none⟩ = some (.int .i64 (s.deepest : Int)) ∧ w.cell? ⟨rb, 6, none⟩ = some (.int .i64 (s.depth : Int)) ∧ w.cell? ⟨rb, 7, none⟩ = some cv ∧ w.cell? ⟨rb, 8, none⟩ = some av :=
  ⟨h.cs 0 _ rfl, h.cs 1 _ rfl, h.cs 2 _ rfl, h.cs 3 _ rfl, h.cs 4 _ rfl, h.cs 5 _ rfl, h.cs 6 _ rfl, h.cs 7 _ rfl, h.cs 8 _ rfl⟩
theorem row_set_e2 {w : World} {r sz : Nat} {cv : Value} {e : TypeId} {n : Nat} {xs : List Value} (h : w.ownsRow (r + 1) e sz cv n xs) (k : Nat) (u : Value) : (w.setCell ⟨r, k, none⟩ u).ownsRow (r + 1) e sz cv n xs := by
  obtain ⟨h1, h2 | ⟨g, cap, cur, hv, hb, hh, rest⟩⟩ := h
  · exact ⟨h1, .inl h2⟩
  · exact ⟨h1, .inr ⟨g, cap, cur, hv, hb, by rw [Below.heap_setCell _ _ _ _ (by show g ≠ r; omega)]; exact hh, rest⟩⟩
/-- One of the first cells is set. -/
theorem RunS.set {rb : Nat} {cv av : Value} {w : World} {s s' : St} {en en' : Int} (h : RunS X rb cv av w s en) (k : Nat) (u : Value) (hk : k < 9) (hc : (runL s en cv av).set k u = runL s' en' cv av) (hl : s'.called = s.called) : RunS X rb cv av (w.setCell ⟨rb, k, none⟩ u) s' en' := by
  obtain ⟨na, xs, hna, hA⟩ := h.rowA
  refine ⟨fun j v hj => ?_, fun j hj => ?_, fun j => ?_, by rw [hl]; exact row_set_e2 h.row k u, ⟨na, xs, by rw [hl]; exact hna, row_set_e2 hA k u⟩, h.sep, fun g hg => by simpa using h.priv g hg⟩
  · rw [← hc] at hj
    by_cases e : j = k
    · subst e
      have hlt : j < (runL s en cv av).length := by have := (List.getElem?_eq_some_iff.1 hj).1; simpa using this
      rw [List.getElem?_set_self hlt] at hj
      injection hj with hj
      subst hj
      exact set_at j (h.cs j _ (List.getElem?_eq_getElem hlt))
    · rw [List.getElem?_set_ne (Ne.symm e)] at hj
      rw [set_off _ _ _ _ _ e]
      exact h.cs j v hj
  · obtain ⟨n, hn⟩ := h.made j hj
    exact ⟨n, by rw [set_off _ _ _ _ _ (by omega)]; exact hn⟩
  · rw [World.frozen?_setCell]; exact h.fz j
theorem RunS.setMade {rb : Nat} {cv av : Value} {w : World} {s : St} {en : Int} (h : RunS X rb cv av w s en) (k : Nat) (n : Int) (hk : k < 200) : RunS X rb cv av (w.setCell ⟨rb, 9 + k, none⟩ (.int .i64 n)) s en := by
  obtain ⟨na, xs, hna, hA⟩ := h.rowA
  refine ⟨fun j v hj => ?_, fun j hj => ?_, fun j => ?_, row_set_e2 h.row _ _, ⟨na, xs, hna, row_set_e2 hA _ _⟩, h.sep, fun g hg => by simpa using h.priv g hg⟩
  · have hlt : j < 9 := by have := (List.getElem?_eq_some_iff.1 hj).1; simpa [runL] using this
    rw [set_off _ _ _ _ _ (by omega)]
    exact h.cs j v hj
  · by_cases e : j = k
    · subst e
      obtain ⟨m, hm⟩ := h.made j hj
      exact ⟨n, set_at _ hm⟩
    · obtain ⟨m, hm⟩ := h.made j hj
      exact ⟨m, by rw [set_off _ _ _ _ _ (by omega)]; exact hm⟩
  · rw [World.frozen?_setCell]; exact h.fz j
theorem RunS.dead {rb : Nat} {cv av : Value} {w : World} {s : St} {en : Int} (h : RunS X rb cv av w s en) (hne : en ≠ 0) : DeadS X rb w en := ⟨h.cs 0 _ rfl, ⟨_, h.cs 1 _ rfl⟩, ⟨_, h.cs 6 _ rfl⟩, h.fz, hne⟩
theorem DeadS.set {rb : Nat} {w : World} {en : Int} (h : DeadS X rb w en) (k : Nat) (n : Int) (hk : k ≠ 0) : DeadS X rb (w.setCell ⟨rb, k, none⟩ (.int .i64 n)) en := by
  obtain ⟨n1, h1⟩ := h.c1
  obtain ⟨n6, h6⟩ := h.c6
  refine ⟨by rw [set_off _ _ _ _ _ (Ne.symm hk)]; exact h.c0, ?_, ?_, fun j => by rw [World.frozen?_setCell]; exact h.fz j, h.ne⟩
  · by_cases e : 1 = k
    · subst e; exact ⟨n, set_at _ h1⟩
    · exact ⟨n1, by rw [set_off _ _ _ _ _ e]; exact h1⟩
  · by_cases e : 6 = k
    · subst e; exact ⟨n, set_at _ h6⟩
    · exact ⟨n6, by rw [set_off _ _ _ _ _ e]; exact h6⟩
end Go.Proofs.YtjfhncfbejephaaGreatDoor

/- The specification's names of a run: one name more. -/
namespace Go.Proofs.YtjfhncfbejephaaGreatDoor
open Go.RowKit Go.Shelf
open Ff
set_option linter.unusedVariables false
variable {X : Nat → Prop}
attribute [local irreducible] Calls

theorem Tryz.infoBound : (Tryz.prog.info? 192).map (fun i => (i.zero, i.size, i.bytes)) = some (some (.agg #[.string ⟨#[]⟩, .bool false, .int .i64 0, .int .u8 0, .int .i64 0, .string ⟨#[]⟩, .slice none 0 0, .int .i64 0, .slice none 0 0]), 9, 120) := by kernel_rfl
/-- An append at a step of a region that draws. -/
theorem step_append_at {ops : Array Oper} {o : Oper} {a : Act} {K : Act → World → Prop} {Q : Exit → Act → World → Prop} {E : Prop} (W : World) (hgd : o.guard = none) (s x : Operand)
    (ho : o.op = .call { callee := .builtin .append, args := #[s, x], argTypes := #[83, 83] })
    (base : Nat) (v : Value) (n : Nat) (xs : List Value) (hs : a.eval s = v) (hown : W.ownsRow base 192 9 v n xs) (ad : Addr) (m c : Nat) (news : List Value) (hx : a.eval x = .slice (some ad) m c) (hl : news.length = m * 9) (hnews : ∀ j u, news[j]? = some u → W.cell? (ad.add j) = some u) (h1 : ∀ u ∈ news, u.oneCell' = true)
    (hn : n + m ≤ 4000) (hbase : base ≤ W.heap.size)
    (h : ∀ v' w', w'.ownsRow base 192 9 v' (n + m) (xs ++ news) → W.grownBy w' v.ownBlock → (v' = .slice none 0 0 ↔ v = .slice none 0 0 ∧ m = 0) → (v'.ownBlock = v.ownBlock ∨ v'.ownBlock = some W.heap.size) → K (a.put o.dst v') w') :
    if Region.wanted o (yielded ops a.tmps) = true then Oper.wp Tryz.prog o a W K Q else E := by
  obtain ⟨i0, hi0, hz0, hz1, hz2⟩ := info_parts Tryz.infoBound
  have hw : Region.wanted o (yielded ops a.tmps) = true := by simp [Region.wanted, hgd]
  rw [if_pos hw]
  obtain ⟨v', w', hr, h2, h3, h4, h5⟩ := run_append_own_at (P := Tryz.prog) W base 83 o.type 192 i0 _ 9 120 Tryz.underlying83 hi0 hz0 hz1 hz2 rfl (by decide) v n xs hown ad m c news hl hnews h1 (by unfold maxLen; omega) (by omega) hbase
  unfold Oper.wp execOp
  simp only [ho, resolve, invoke, builtin, Sem.run_bind, Sem.run_pure, Result.andThen_ok, List.map_toArray, List.map_cons, List.map_nil, hs, hx, hr]
  exact h v' w' h2 h3 h4 h5
theorem En.ents_len (e : En) : e.ents.length = e.names.length := by
  induction e using En.rec (motive_1 := fun _ => True) with
  | nil => rfl
  | cons d v e _ ih => simp [En.ents, En.names, ih]
  | num n => trivial
  | clo i t e _ => trivial
theorem nine_of {c : Nat → Value} {k : Nat} {S : Nat → Prop} {w : World} {v : Vl} (h : SV S w v (nine c k)) : ∀ r, r < 8 → (c (9 * k + 1 + r)).oneCell' = true := by
  obtain ⟨b, n, kk, m, s, a, l, cc, i, a2, l2, c2, he⟩ := h.form
  unfold nine at he
  simp only [Value.agg.injEq, Array.mk.injEq, List.cons.injEq, and_true] at he
  obtain ⟨e0, e1, e2, e3, e4, e5, e6, e7⟩ := he
  intro r hr
  have : r = 0 ∨ r = 1 ∨ r = 2 ∨ r = 3 ∨ r = 4 ∨ r = 5 ∨ r = 6 ∨ r = 7 := by omega
  rcases this with rfl | rfl | rfl | rfl | rfl | rfl | rfl | rfl
  · rw [e0]; rfl
  · rw [show 9 * k + 1 + 1 = 9 * k + 2 by omega, e1]; rfl
  · rw [show 9 * k + 1 + 2 = 9 * k + 3 by omega, e2]; rfl
  · rw [show 9 * k + 1 + 3 = 9 * k + 4 by omega, e3]; rfl
  · rw [show 9 * k + 1 + 4 = 9 * k + 5 by omega, e4]; rfl
  · rw [show 9 * k + 1 + 5 = 9 * k + 6 by omega, e5]; rfl
  · rw [show 9 * k + 1 + 6 = 9 * k + 7 by omega, e6]; rfl
  · rw [show 9 * k + 1 + 7 = 9 * k + 8 by omega, e7]; rfl
/-- The row of what names are. -/
structure EntRow (S : Nat → Prop) (w : World) (e : En) (xs : List Value) : Prop where
  len : xs.length = e.ents.length * 9
  one : ∀ u ∈ xs, u.oneCell' = true
  name : ∀ k x v, e.ents[k]? = some (x, v) → xs[9 * k]? = some (.string ⟨#[x]⟩)
  val : ∀ k x v, e.ents[k]? = some (x, v) → SV S w v (nine (fun j => (xs[j]?).getD undef) k)
theorem SE.row {S : Nat → Prop} {w : World} {e : En} {a : Addr} {n c : Nat} (h : SE S w e (.slice (some a) n c)) : n = e.ents.length ∧ ∃ xs, EntRow S w e xs ∧ ∀ j u, xs[j]? = some u → w.cell? (a.add j) = some u := by
  cases h with
  | nil => exact ⟨rfl, [], ⟨rfl, by simp, by simp [En.ents], by simp [En.ents]⟩, by simp⟩
  | mk e g cap c hg hc hn hv =>
    refine ⟨rfl, (List.range (9 * e.ents.length)).map c, ⟨by simp; omega, fun u hu => ?_, fun k x v hk => ?_, fun k x v hk => ?_⟩, fun j u hj => ?_⟩
    · obtain ⟨j, hj, rfl⟩ := List.mem_map.1 hu
      have hj2 := List.mem_range.1 hj
      have hq : j / 9 < e.ents.length := by omega
      obtain ⟨p, hp⟩ : ∃ p, e.ents[j / 9]? = some p := ⟨_, List.getElem?_eq_getElem hq⟩
      by_cases hr : j % 9 = 0
      · have := hn _ _ _ hp
        rw [show 9 * (j / 9) = j by omega] at this
        rw [this]; rfl
      · have := nine_of (hv _ _ _ hp) (j % 9 - 1) (by omega)
        rwa [show 9 * (j / 9) + 1 + (j % 9 - 1) = j by omega] at this
    · have hk2 := (List.getElem?_eq_some_iff.1 hk).1
      rw [List.getElem?_map, List.getElem?_range (by omega)]
      simp [hn k x v hk]
    · have hk2 := (List.getElem?_eq_some_iff.1 hk).1
      have e8 : nine (fun j => (((List.range (9 * e.ents.length)).map c)[j]?).getD undef) k = nine c k := by
        have q : ∀ r, r < 9 → (((List.range (9 * e.ents.length)).map c)[9 * k + r]?).getD undef = c (9 * k + r) := fun r hr => by
          rw [List.getElem?_map, List.getElem?_range (by omega)]; rfl
        unfold nine
        dsimp only
        rw [q 1 (by omega), q 2 (by omega), q 3 (by omega), q 4 (by omega), q 5 (by omega), q 6 (by omega), q 7 (by omega), q 8 (by omega)]
      rw [e8]
      exact hv k x v hk
    · have hj2 : j < 9 * e.ents.length := by simpa using (List.getElem?_eq_some_iff.1 hj).1
      rw [List.getElem?_map, List.getElem?_range hj2] at hj
      simp only [Option.map_some, Option.some.injEq] at hj
      rw [show (⟨g, 0, none⟩ : Addr).add j = ⟨g, j, none⟩ by simp [Addr.add]; omega, hc j hj2, hj]
theorem EntRow.keep {S S' : Nat → Prop} {w w' : World} (H : ∀ g, S g → w'.heap[g]? = w.heap[g]? ∧ S' g) {e : En} {xs : List Value} (h : EntRow S w e xs) : EntRow S' w' e xs := ⟨h.len, h.one, h.name, fun k x v hk => (h.val k x v hk).keep H⟩
/-- One entry more. -/
theorem EntRow.cons {S : Nat → Prop} {w : World} {e : En} {xs : List Value} (h : EntRow S w e xs) {c : UInt8} {v : Vl} {b : Bool} {n k m : Int} {s : ByteArray} {a : Option Addr} {l cp : Nat} {i : Int} {a2 : Option Addr} {l2 c2 : Nat} (hv : SV S w v (v8 b n k m s a l cp i a2 l2 c2)) :
    EntRow S w (.cons c v e) (xs ++ [.string ⟨#[c]⟩, .bool b, .int .i64 n, .int .u8 k, .int .i64 m, .string s, .slice a l cp, .int .i64 i, .slice a2 l2 c2]) := by
  have hl := h.len
  refine ⟨by simp [En.ents, hl]; omega, fun u hu => ?_, fun j x y hj => ?_, fun j x y hj => ?_⟩
  · rcases List.mem_append.1 hu with hu | hu
    · exact h.one u hu
    · simp only [List.mem_cons, List.not_mem_nil, or_false] at hu
      rcases hu with rfl | rfl | rfl | rfl | rfl | rfl | rfl | rfl | rfl <;> rfl
  · by_cases hlt : j < e.ents.length
    · rw [En.ents, List.getElem?_append_left hlt] at hj
      rw [List.getElem?_append_left (by omega)]
      exact h.name j x y hj
    · rw [En.ents, List.getElem?_append_right (by omega)] at hj
      obtain rfl : j = e.ents.length := by have := (List.getElem?_eq_some_iff.1 hj).1; simp at this; omega
      simp at hj
      obtain ⟨rfl, rfl⟩ := hj
      rw [List.getElem?_append_right (by omega), show 9 * e.ents.length - xs.length = 0 by omega]
      rfl
  · by_cases hlt : j < e.ents.length
    · rw [En.ents, List.getElem?_append_left hlt] at hj
      have q : ∀ r, r < 9 → (xs ++ [.string ⟨#[c]⟩, .bool b, .int .i64 n, .int .u8 k, .int .i64 m, .string s, .slice a l cp, .int .i64 i, .slice a2 l2 c2])[9 * j + r]? = xs[9 * j + r]? := fun r hr => List.getElem?_append_left (by omega)
      unfold nine
      dsimp only
      rw [q 1 (by omega), q 2 (by omega), q 3 (by omega), q 4 (by omega), q 5 (by omega), q 6 (by omega), q 7 (by omega), q 8 (by omega)]
      exact h.val j x y hj
    · rw [En.ents, List.getElem?_append_right (by omega)] at hj
      obtain rfl : j = e.ents.length := by have := (List.getElem?_eq_some_iff.1 hj).1; simp at this; omega
      simp at hj
      obtain ⟨rfl, rfl⟩ := hj
      have q : ∀ r, r < 9 → (xs ++ [.string ⟨#[c]⟩, .bool b, .int .i64 n, .int .u8 k, .int .i64 m, .string s, .slice a l cp, .int .i64 i, .slice a2 l2 c2])[9 * e.ents.length + r]? = ([.string ⟨#[c]⟩, .bool b, .int .i64 n, .int .u8 k, .int .i64 m, .string s, .slice a l cp, .int .i64 i, .slice a2 l2 c2] : List Value)[r]? := fun r hr => by
        rw [List.getElem?_append_right (by omega), show 9 * e.ents.length + r - xs.length = r by omega]
      unfold nine
      dsimp only
      rw [q 1 (by omega), q 2 (by omega), q 3 (by omega), q 4 (by omega), q 5 (by omega), q 6 (by omega), q 7 (by omega), q 8 (by omega)]
      exact hv
/-- A row that is owned is what names are. -/
theorem EntRow.se {S : Nat → Prop} {w : World} {e : En} {xs : List Value} {base : Nat} {v : Value} (h : EntRow S w e xs) (hown : w.ownsRow base 192 9 v e.ents.length xs) (hn : 0 < e.ents.length) (hS : ∀ g, base ≤ g → g < w.heap.size → S g) : SE S w e v := by
  obtain ⟨g, cap, rfl, hg, hlt⟩ := hown.form hn
  have hc := hown.cells (g := g) rfl
  refine .mk e g cap (fun j => (xs[j]?).getD undef) (hS g hg hlt) (fun k hk => ?_) (fun k x y hk => ?_) h.val
  · obtain ⟨u, hu⟩ : ∃ u, xs[k]? = some u := ⟨_, List.getElem?_eq_getElem (by have := h.len; omega)⟩
    have := hc k u hu
    rw [show (⟨g, 0, none⟩ : Addr).add k = ⟨g, k, none⟩ by simp [Addr.add]; omega] at this
    rw [this, hu]; rfl
  · show (xs[9 * k]?).getD undef = _
    rw [h.name k x y hk]; rfl
end Go.Proofs.YtjfhncfbejephaaGreatDoor

/- The specification's l3With. -/
namespace Go.Proofs.YtjfhncfbejephaaGreatDoor
open Go.RowKit Go.Shelf
open Ff
set_option linter.unusedVariables false
variable {X : Nat → Prop}
attribute [local irreducible] Calls

theorem empty_row {W : World} {h base : Nat} (hh : W.heap[h]? = some (.cells #[] 192 (0, 0))) (hb : base ≤ h) : W.ownsRow base 192 9 (.slice (some ⟨h, 0, none⟩) 0 0) 0 [] := by
  refine ⟨rfl, .inr ⟨h, 0, #[], rfl, hb, hh, ?_⟩⟩
  simp [maxLen]
/-- A row is kept by what makes a block. -/
theorem row_alloc {W : World} {base sz n : Nat} {t : TypeId} {v : Value} {xs : List Value} (h : W.ownsRow base t sz v n xs) (o : Obj) : (W.alloc o).ownsRow base t sz v n xs :=
  World.ownsRow.kept (row := none) h (World.grownBy_alloc W o none) (by rcases ho : v.ownBlock with _ | j; exact .inl rfl; exact .inr (by simp))
/-- The cells of nine in a block. -/
theorem alloc_at2 (W : World) (o1 o2 : Obj) : ((W.alloc o1).alloc o2).heap[W.heap.size + 1]? = some o2 := by
  have := World.alloc_heap_new (W.alloc o1) o2
  simpa using this
theorem below1 (W0 : World) (o : Obj) : Below W0.heap.size W0 (W0.alloc o).drew := ((Below.refl _ W0).alloc (Nat.le_refl _) o).drew
theorem below2 (W0 : World) (o1 o2 : Obj) : Below W0.heap.size W0 ((W0.alloc o1).alloc o2).drew := (((Below.refl _ W0).alloc (Nat.le_refl _) o1).alloc (by simp) o2).drew
theorem below_row {w W W' : World} {row : Option Nat} (h : Below w.heap.size w W) (hg : W.grownBy W' row) (hr : ∀ j, row = some j → w.heap.size ≤ j) : Below w.heap.size w W' :=
  h.trans ⟨hg.os, hg.tape, hg.output, hg.size, fun k hk => hg.block k (by have := h.size; omega) (fun e => by have := hr k e.symm; omega)⟩
theorem own_up {v v1 : Value} {W W0 : World} (h : v1.ownBlock = v.ownBlock ∨ v1.ownBlock = some W.heap.size) (hv : ∀ j, v.ownBlock = some j → W0.heap.size ≤ j) (hW : W0.heap.size ≤ W.heap.size) : ∀ j, v1.ownBlock = some j → W0.heap.size ≤ j := fun j hj => by
  rcases h with h | h <;> rw [h] at hj
  · exact hv j hj
  · injection hj with hj; omega
theorem keep_cells {w W : World} {xs : List Value} {a : Addr} (hx : ∀ j u, xs[j]? = some u → w.cell? (a.add j) = some u) (hb : Below w.heap.size w W) : ∀ j u, xs[j]? = some u → W.cell? (a.add j) = some u := fun j u hj =>
  (hb.cell (World.block_lt_of_cell? w _ (hx j u hj))).trans (hx j u hj)
set_option maxRecDepth 100000 in
set_option maxHeartbeats 4000000 in
theorem swith_c (S : Nat → Prop) (e : En) (c : UInt8) (v : Vl) (ev x : Value) (w : World) (hE : SE S w e ev) (hV : SV S w v x) (hS : ∀ g, S g → g < w.heap.size) (hl : e.ents.length ≤ 900) :
    Calls Tryz.prog 71 #[ev, .string ⟨#[c]⟩, x] w fun e' w' => ∃ y, e' = .returned y ∧ Below w.heap.size w w' ∧ SE (fun g => S g ∨ w.heap.size ≤ g ∧ g < w'.heap.size) w' (.cons c v e) y := by
  obtain ⟨b, n, k, m, s, a, l, cp, i, a2, l2, c2, rfl⟩ := hV.form
  obtain ⟨ae, ce, rfl⟩ := hE.form
  obtain ⟨_, xs, hrow, hxs⟩ := hE.row
  have hb0 := (Below.refl w.heap.size w).alloc (Nat.le_refl _) (.cells #[.bool b, .int .i64 n, .int .u8 k, .int .i64 m, .string s, .slice a l cp, .int .i64 i, .slice a2 l2 c2] 114)
  go_enter Tryz.func71, Tryz.ntmps71
  go_wp2_with fail
  generalize hW0 : w.alloc (.cells #[.bool b, .int .i64 n, .int .u8 k, .int .i64 m, .string s, .slice a l cp, .int .i64 i, .slice a2 l2 c2] 114) = W0 at hb0 ⊢
  have z : ∀ j u, [.bool b, .int .i64 n, .int .u8 k, .int .i64 m, .string s, .slice a l cp, .int .i64 i, .slice a2 l2 c2][j]? = some u → W0.cell? ⟨w.heap.size, j, none⟩ = some u := fun j u hu => by rw [← hW0]; exact newAt w _ rfl _ _ j u hu
  have z0 := z 0 _ rfl
  have z1 := z 1 _ rfl
  have z2 := z 2 _ rfl
  have z3 := z 3 _ rfl
  have z4 := z 4 _ rfl
  have z5 := z 5 _ rfl
  have z6 := z 6 _ rfl
  have z7 := z 7 _ rfl
  have hs0 : W0.heap.size = w.heap.size + 1 := by rw [← hW0]; simp
  clear z hW0
  have HS := Lib.hid hs0
  clear hs0
  have box : ∀ w', Below W0.heap.size W0 w' → w'.cell? ⟨w.heap.size, 0, none⟩ = some (.bool b) ∧ w'.cell? ⟨w.heap.size, 1, none⟩ = some (.int .i64 n) ∧ w'.cell? ⟨w.heap.size, 2, none⟩ = some (.int .u8 k) ∧ w'.cell? ⟨w.heap.size, 3, none⟩ = some (.int .i64 m) ∧ w'.cell? ⟨w.heap.size, 4, none⟩ = some (.string s) ∧ w'.cell? ⟨w.heap.size, 5, none⟩ = some (.slice a l cp) ∧ w'.cell? ⟨w.heap.size, 6, none⟩ = some (.int .i64 i) ∧ w'.cell? ⟨w.heap.size, 7, none⟩ = some (.slice a2 l2 c2) := fun w' hb => ⟨(hb.cell (by have := HS.out; show w.heap.size < _; omega)).trans z0, (hb.cell (by have := HS.out; show w.heap.size < _; omega)).trans z1, (hb.cell (by have := HS.out; show w.heap.size < _; omega)).trans z2, (hb.cell (by have := HS.out; show w.heap.size < _; omega)).trans z3, (hb.cell (by have := HS.out; show w.heap.size < _; omega)).trans z4, (hb.cell (by have := HS.out; show w.heap.size < _; omega)).trans z5, (hb.cell (by have := HS.out; show w.heap.size < _; omega)).trans z6, (hb.cell (by have := HS.out; show w.heap.size < _; omega)).trans z7⟩
  go_region_held3 (fun w' => w'.cell? ⟨w.heap.size, 0, none⟩ = some (.bool b) ∧ w'.cell? ⟨w.heap.size, 1, none⟩ = some (.int .i64 n) ∧ w'.cell? ⟨w.heap.size, 2, none⟩ = some (.int .u8 k) ∧ w'.cell? ⟨w.heap.size, 3, none⟩ = some (.int .i64 m) ∧ w'.cell? ⟨w.heap.size, 4, none⟩ = some (.string s) ∧ w'.cell? ⟨w.heap.size, 5, none⟩ = some (.slice a l cp) ∧ w'.cell? ⟨w.heap.size, 6, none⟩ = some (.int .i64 i) ∧ w'.cell? ⟨w.heap.size, 7, none⟩ = some (.slice a2 l2 c2)) (first | (refine ⟨?_, ?_, ?_, ?_, ?_, ?_, ?_, ?_⟩ <;> assumption) | go_keep)
    (first | ((refine step_append_at _ (by rfl) _ _ (by rfl) w.heap.size _ 0 [] (by rfl) (empty_row (alloc_at W0 (.cells #[] 192)) (by have := HS.out; omega)) ae e.ents.length ce xs (by rfl) hrow.len (keep_cells hxs (hb0.trans ((below1 W0 (.cells #[] 192)).mono hb0.size))) hrow.one (by omega) (by have := HS.out; simp; omega) ?_); intro v1 w3 hown1 hgr1 hnil1 hwh1; have hb3 := below_row (below1 W0 (.cells #[] 192)) hgr1 (by intro j hj; simp [Value.ownBlock] at hj; omega); have hv1 := own_up (W0 := W0) hwh1 (by intro j hj; simp [Value.ownBlock] at hj; omega) (by have q := hgr1.size; simp; first | done | omega); obtain ⟨y0, y1, y2, y3, y4, y5, y6, y7⟩ := box _ hb3) | ((refine step_append_at _ (by rfl) _ _ (by rfl) w.heap.size _ 0 [] (by rfl) (empty_row (alloc_old (alloc_at W0 (.cells #[] 192))) (by have := HS.out; omega)) ae e.ents.length ce xs (by rfl) hrow.len (keep_cells hxs (hb0.trans ((below2 W0 (.cells #[] 192) (.cells #[.string ⟨#[c]⟩, .bool b, .int .i64 n, .int .u8 k, .int .i64 m, .string s, .slice a l cp, .int .i64 i, .slice a2 l2 c2] 192)).mono hb0.size))) hrow.one (by omega) (by have := HS.out; simp; omega) ?_); intro v1 w3 hown1 hgr1 hnil1 hwh1; have hb3 := below_row (below2 W0 (.cells #[] 192) (.cells #[.string ⟨#[c]⟩, .bool b, .int .i64 n, .int .u8 k, .int .i64 m, .string s, .slice a l cp, .int .i64 i, .slice a2 l2 c2] 192)) hgr1 (by intro j hj; simp [Value.ownBlock] at hj; omega); have hv1 := own_up (W0 := W0) hwh1 (by intro j hj; simp [Value.ownBlock] at hj; omega) (by have q := hgr1.size; simp; first | done | omega); obtain ⟨y0, y1, y2, y3, y4, y5, y6, y7⟩ := box _ hb3) | ((refine step_append_at _ (by rfl) _ _ (by rfl) w.heap.size _ 0 [] (by rfl) (empty_row (alloc_at2 W0 (.cells #[.string ⟨#[c]⟩, .bool b, .int .i64 n, .int .u8 k, .int .i64 m, .string s, .slice a l cp, .int .i64 i, .slice a2 l2 c2] 192) (.cells #[] 192)) (by have := HS.out; omega)) ae e.ents.length ce xs (by rfl) hrow.len (keep_cells hxs (hb0.trans ((below2 W0 (.cells #[.string ⟨#[c]⟩, .bool b, .int .i64 n, .int .u8 k, .int .i64 m, .string s, .slice a l cp, .int .i64 i, .slice a2 l2 c2] 192) (.cells #[] 192)).mono hb0.size))) hrow.one (by omega) (by have := HS.out; simp; omega) ?_); intro v1 w3 hown1 hgr1 hnil1 hwh1; have hb3 := below_row (below2 W0 (.cells #[.string ⟨#[c]⟩, .bool b, .int .i64 n, .int .u8 k, .int .i64 m, .string s, .slice a l cp, .int .i64 i, .slice a2 l2 c2] 192) (.cells #[] 192)) hgr1 (by intro j hj; simp [Value.ownBlock] at hj; omega); have hv1 := own_up (W0 := W0) hwh1 (by intro j hj; simp [Value.ownBlock] at hj; omega) (by have q := hgr1.size; simp; first | done | omega); obtain ⟨y0, y1, y2, y3, y4, y5, y6, y7⟩ := box _ hb3) | ((refine step_append_at _ (by rfl) _ _ (by rfl) w.heap.size v1 (0 + e.ents.length) ([] ++ xs) (by rfl) (row_alloc hown1 (.cells #[.string ⟨#[c]⟩, .bool b, .int .i64 n, .int .u8 k, .int .i64 m, .string s, .slice a l cp, .int .i64 i, .slice a2 l2 c2] 192)) ⟨w3.heap.size, 0, none⟩ 1 1 [.string ⟨#[c]⟩, .bool b, .int .i64 n, .int .u8 k, .int .i64 m, .string s, .slice a l cp, .int .i64 i, .slice a2 l2 c2] (by rfl) rfl (nine_block (t := 192) (alloc_at w3 (.cells #[.string ⟨#[c]⟩, .bool b, .int .i64 n, .int .u8 k, .int .i64 m, .string s, .slice a l cp, .int .i64 i, .slice a2 l2 c2] 192))) (by simp [Value.oneCell']) (by omega) (by have := hb3.size; have := HS.out; simp; omega) ?_); intro v2 w5 hown2 hgr2 hnil2 hwh2; have hb5 := below_row (hb3.alloc hb3.size (.cells #[.string ⟨#[c]⟩, .bool b, .int .i64 n, .int .u8 k, .int .i64 m, .string s, .slice a l cp, .int .i64 i, .slice a2 l2 c2] 192)) hgr2 hv1; obtain ⟨y0, y1, y2, y3, y4, y5, y6, y7⟩ := box _ hb5) | ((refine step_append_at _ (by rfl) _ _ (by rfl) w.heap.size v1 (0 + e.ents.length) ([] ++ xs) (by rfl) (hown1) ⟨(W0.heap.size + 1), 0, none⟩ 1 1 [.string ⟨#[c]⟩, .bool b, .int .i64 n, .int .u8 k, .int .i64 m, .string s, .slice a l cp, .int .i64 i, .slice a2 l2 c2] (by rfl) rfl (nine_block (t := 192) ((hgr1.block (W0.heap.size + 1) (by simp) (by simp [Value.ownBlock])).trans (alloc_at2 W0 (.cells #[] 192) (.cells #[.string ⟨#[c]⟩, .bool b, .int .i64 n, .int .u8 k, .int .i64 m, .string s, .slice a l cp, .int .i64 i, .slice a2 l2 c2] 192)))) (by simp [Value.oneCell']) (by omega) (by have := hb3.size; have := HS.out; simp; omega) ?_); intro v2 w5 hown2 hgr2 hnil2 hwh2; have hb5 := below_row (hb3) hgr2 hv1; obtain ⟨y0, y1, y2, y3, y4, y5, y6, y7⟩ := box _ hb5) | ((refine step_append_at _ (by rfl) _ _ (by rfl) w.heap.size v1 (0 + e.ents.length) ([] ++ xs) (by rfl) (hown1) ⟨W0.heap.size, 0, none⟩ 1 1 [.string ⟨#[c]⟩, .bool b, .int .i64 n, .int .u8 k, .int .i64 m, .string s, .slice a l cp, .int .i64 i, .slice a2 l2 c2] (by rfl) rfl (nine_block (t := 192) ((hgr1.block W0.heap.size (by simp; omega) (by simp [Value.ownBlock])).trans (alloc_old (alloc_at W0 (.cells #[.string ⟨#[c]⟩, .bool b, .int .i64 n, .int .u8 k, .int .i64 m, .string s, .slice a l cp, .int .i64 i, .slice a2 l2 c2] 192))))) (by simp [Value.oneCell']) (by omega) (by have := hb3.size; have := HS.out; simp; omega) ?_); intro v2 w5 hown2 hgr2 hnil2 hwh2; have hb5 := below_row (hb3) hgr2 hv1; obtain ⟨y0, y1, y2, y3, y4, y5, y6, y7⟩ := box _ hb5))
  all_goals
    go_wp2_with fail
    go_ret
    have hbw := hb0.trans (hb5.mono hb0.size)
    have H : ∀ g, S g → w5.heap[g]? = w.heap[g]? ∧ (S g ∨ w.heap.size ≤ g ∧ g < w5.heap.size) := fun g hg => ⟨hbw.block g (hS g hg), .inl hg⟩
    exact ⟨_, rfl, hbw, ((hrow.keep H).cons (hV.keep H)).se (base := w.heap.size) (by simpa [En.ents] using hown2) (by simp [En.ents]) (fun g h1 h2 => .inr ⟨h1, h2⟩)⟩
end Go.Proofs.YtjfhncfbejephaaGreatDoor

/- The specification's run: what a name is, whether it goes on, its end. -/
namespace Go.Proofs.YtjfhncfbejephaaGreatDoor
open Go.RowKit Go.Shelf
open Ff
set_option linter.unusedVariables false
variable {X : Nat → Prop}
attribute [local irreducible] Calls

theorem eight_of {w : World} {b : Nat} {z0 z1 z2 z3 z4 z5 z6 z7 : Value} {t : TypeId} (h : w.heap[b]? = some (.cells #[z0, z1, z2, z3, z4, z5, z6, z7] t (0, 0))) : w.cell? ⟨b, 0, none⟩ = some z0 ∧ w.cell? ⟨b, 1, none⟩ = some z1 ∧ w.cell? ⟨b, 2, none⟩ = some z2 ∧ w.cell? ⟨b, 3, none⟩ = some z3 ∧ w.cell? ⟨b, 4, none⟩ = some z4 ∧ w.cell? ⟨b, 5, none⟩ = some z5 ∧ w.cell? ⟨b, 6, none⟩ = some z6 ∧ w.cell? ⟨b, 7, none⟩ = some z7 ∧ ∀ k, w.frozen? ⟨b, k, none⟩ = false := by
  refine ⟨?_, ?_, ?_, ?_, ?_, ?_, ?_, ?_, fun k => ?_⟩ <;> simp [World.cell?, World.frozen?, h]
/-- Eight stores. -/
def set8 (w : World) (B : Nat) (u0 u1 u2 u3 u4 u5 u6 u7 : Value) : World := ((((((((w.setCell ⟨B, 0, none⟩ u0).setCell ⟨B, 1, none⟩ u1).setCell ⟨B, 2, none⟩ u2).setCell ⟨B, 3, none⟩ u3).setCell ⟨B, 4, none⟩ u4).setCell ⟨B, 5, none⟩ u5).setCell ⟨B, 6, none⟩ u6).setCell ⟨B, 7, none⟩ u7)
theorem set_cells_at {w : World} {b : Nat} {cs : Array Value} {T : TypeId} (hb : w.heap[b]? = some (.cells cs T (0, 0))) (i : Nat) (v : Value) : (w.setCell ⟨b, i, none⟩ v).heap[b]? = some (.cells (cs.setIfInBounds i v) T (0, 0)) := by
  simp [World.setCell, Array.getElem?_modify, hb]
theorem set8_heap (w : World) (B : Nat) (u0 u1 u2 u3 u4 u5 u6 u7 : Value) {j : Nat} (h : j ≠ B) : (set8 w B u0 u1 u2 u3 u4 u5 u6 u7).heap[j]? = w.heap[j]? := by
  unfold set8
  rw [Below.heap_setCell _ _ _ _ (by exact h), Below.heap_setCell _ _ _ _ (by exact h), Below.heap_setCell _ _ _ _ (by exact h), Below.heap_setCell _ _ _ _ (by exact h), Below.heap_setCell _ _ _ _ (by exact h), Below.heap_setCell _ _ _ _ (by exact h), Below.heap_setCell _ _ _ _ (by exact h), Below.heap_setCell _ _ _ _ (by exact h)]
theorem set8_size (w : World) (B : Nat) (u0 u1 u2 u3 u4 u5 u6 u7 : Value) : (set8 w B u0 u1 u2 u3 u4 u5 u6 u7).heap.size = w.heap.size := by simp [set8]
theorem set8_at {w : World} {B : Nat} {z0 z1 z2 z3 z4 z5 z6 z7 : Value} {t : TypeId} (h : w.heap[B]? = some (.cells #[z0, z1, z2, z3, z4, z5, z6, z7] t (0, 0))) (u0 u1 u2 u3 u4 u5 u6 u7 : Value) : (set8 w B u0 u1 u2 u3 u4 u5 u6 u7).heap[B]? = some (.cells #[u0, u1, u2, u3, u4, u5, u6, u7] t (0, 0)) := by
  unfold set8
  have h0 := set_cells_at h 0 u0
  have h1 := set_cells_at h0 1 u1
  have h2 := set_cells_at h1 2 u2
  have h3 := set_cells_at h2 3 u3
  have h4 := set_cells_at h3 4 u4
  have h5 := set_cells_at h4 5 u5
  have h6 := set_cells_at h5 6 u6
  have h7 := set_cells_at h6 7 u7
  simpa using h7

theorem find_ents {e : En} {x : UInt8} {v : Vl} (h : e.find x = some v) : ∃ c u e', e = .cons c u e' ∧ (c = x ∧ u = v ∨ c ≠ x ∧ e'.find x = some v) := by
  cases e with
  | nil => simp [En.find] at h
  | cons c u e' =>
    refine ⟨c, u, e', rfl, ?_⟩
    by_cases hc : c = x
    · simp only [En.find, if_pos hc] at h
      injection h with h
      exact .inl ⟨hc, h⟩
    · simp only [En.find, if_neg hc] at h
      exact .inr ⟨hc, h⟩
set_option maxRecDepth 100000 in
set_option maxHeartbeats 4000000 in
theorem sfind_c (S : Nat → Prop) (e : En) (x : UInt8) (v : Vl) (ev : Value) (w : World) (hE : SE S w e ev) (hf : e.find x = some v) (hl : e.ents.length ≤ 900) :
    Calls Tryz.prog 70 #[ev, .string ⟨#[x]⟩] w fun e' w' => ∃ y, e' = .returned y ∧ SV S w v y ∧ Below w.heap.size w w' := by
  cases hE with
  | nil a c => simp [En.find] at hf
  | mk e g cap c hg hc hn hv =>
    have hpos : 0 < e.ents.length := by obtain ⟨_, _, _, rfl, _⟩ := find_ents hf; simp [En.ents]
    have hb1 := (Below.refl w.heap.size w).alloc (Nat.le_refl _) (.cells #[.bool false, .int .i64 0, .int .u8 0, .int .i64 0, .string ⟨#[]⟩, .slice none 0 0, .int .i64 0, .slice none 0 0] 114)
    have hz := World.alloc_heap_new w (.cells #[.bool false, .int .i64 0, .int .u8 0, .int .i64 0, .string ⟨#[]⟩, .slice none 0 0, .int .i64 0, .slice none 0 0] 114)
    go_enter Tryz.func70, Tryz.ntmps70
    go_wp2_with fail
    generalize w.alloc (.cells #[.bool false, .int .i64 0, .int .u8 0, .int .i64 0, .string ⟨#[]⟩, .slice none 0 0, .int .i64 0, .slice none 0 0] 114) = W1 at hb1 hz ⊢
    have HC := Lib.hid hc
    have HN := Lib.hid hn
    have HV := Lib.hid hv
    have HZ := Lib.hid hz
    clear hc hn hv hz
    go_loopw [5] (fun i wr => ∃ (k : Nat) (e' : En), i = .int .i64 (k : Int) ∧ e'.ents.length = k + 1 ∧ e'.ents = e.ents.take (k + 1) ∧ e'.find x = some v ∧ wr = W1) (fun i _ => (intOf i).toNat)
    case atStart => exact ⟨e.ents.length - 1, e, by go_num, by omega, by rw [List.take_of_length_le (by omega)], hf, rfl⟩
    case round =>
      obtain ⟨k, e', rfl, hlen, htk, hf', rfl⟩ := hrel
      obtain ⟨d, u, e2, rfl, hor⟩ := find_ents hf'
      have hk : k < e.ents.length := by have := congrArg List.length htk; simp at this; omega
      have hent : e.ents[k]? = some (d, u) := by
        have h1 : (e.ents.take (k + 1))[k]? = e.ents[k]? := by rw [List.getElem?_take]; simp
        rw [← h1, ← htk, En.ents, List.getElem?_append_right (by simp [En.ents] at hlen; omega)]
        simp [En.ents] at hlen
        simp [hlen]
      have hvk := HV.out k d u hent
      obtain ⟨b, n, kk, m, s, a, l, cc, i, a2, l2, c2, he⟩ := hvk.form
      have he' := he
      unfold nine at he
      simp only [Value.agg.injEq, Array.mk.injEq, List.cons.injEq, and_true] at he
      obtain ⟨i0, i1, i2, i3, i4, i5, i6, i7⟩ := he
      have hlt : g < wr.heap.size := by
        have := HC.out 0 (by omega)
        exact Nat.lt_of_lt_of_le (World.block_lt_of_cell? w _ this) hb1.size
      have hgw : g < w.heap.size := World.block_lt_of_cell? w _ (HC.out 0 (by omega))
      have cell : ∀ r, r < 9 → wr.cell? ⟨g, k * 9 + r, none⟩ = some (c (9 * k + r)) := fun r hr => by
        rw [Nat.mul_comm k 9]; exact (hb1.cell (p := ⟨g, 9 * k + r, none⟩) hgw).trans (HC.out _ (by omega))
      have e0 : wr.cell? ⟨g, k * 9, none⟩ = some (.string ⟨#[d]⟩) := by rw [← HN.out k d u hent]; exact cell 0 (by omega)
      have q1 := cell 1 (by omega)
      have q2 := cell 2 (by omega)
      have q3 := cell 3 (by omega)
      have q4 := cell 4 (by omega)
      have q5 := cell 5 (by omega)
      have q6 := cell 6 (by omega)
      have q7 := cell 7 (by omega)
      have q8 := cell 8 (by omega)
      rw [i0] at q1
      rw [i1] at q2
      rw [i2] at q3
      rw [i3] at q4
      rw [i4] at q5
      rw [i5] at q6
      rw [i6] at q7
      rw [i7] at q8
      rw [he'] at hvk
      have HE := Lib.hid hent
      have HT := Lib.hid htk
      have HO := Lib.hid hor
      have HL := Lib.hid hlen
      clear cell i0 i1 i2 i3 i4 i5 i6 i7 he' hent htk hor hf' hf hlen
      by_cases hd : d = x
      · subst hd
        obtain rfl : u = v := HO.out.elim (fun h => h.2) (fun h => absurd rfl h.1)
        obtain ⟨z0, z1, z2, z3, z4, z5, z6, z7, zf⟩ := eight_of HZ.out
        go_wp2_with fail
        have h8 := eight_of (set8_at HZ.out (.bool b) (.int .i64 n) (.int .u8 kk) (.int .i64 m) (.string s) (.slice a l cc) (.int .i64 i) (.slice a2 l2 c2))
        obtain ⟨y0, y1, y2, y3, y4, y5, y6, y7, _⟩ := h8
        unfold set8 at y0 y1 y2 y3 y4 y5 y6 y7
        refine bodyPost_ret (v := v8 b n kk m s a l cc i a2 l2 c2) (by simp [results, Tryz.results70, go_sem, y0, y1, y2, y3, y4, y5, y6, y7]) rfl ?_
        refine ⟨_, rfl, hvk, ?_⟩
        exact (((((((hb1.setCell (p := ⟨w.heap.size, 0, none⟩) (Nat.le_refl _) _).setCell (p := ⟨w.heap.size, 1, none⟩) (Nat.le_refl _) _).setCell (p := ⟨w.heap.size, 2, none⟩) (Nat.le_refl _) _).setCell (p := ⟨w.heap.size, 3, none⟩) (Nat.le_refl _) _).setCell (p := ⟨w.heap.size, 4, none⟩) (Nat.le_refl _) _).setCell (p := ⟨w.heap.size, 5, none⟩) (Nat.le_refl _) _).setCell (p := ⟨w.heap.size, 6, none⟩) (Nat.le_refl _) _).setCell (p := ⟨w.heap.size, 7, none⟩) (Nat.le_refl _) _
      · have hdx : (d == x) = false := by simpa using hd
        have hf2 : e2.find x = some v := HO.out.elim (fun h => absurd h.1 hd) (fun h => h.2)
        have HF := Lib.hid hf2
        clear hf2
        have hp2 : 0 < e2.ents.length := by obtain ⟨_, _, _, rfl, _⟩ := find_ents HF.out; simp [En.ents]
        go_wp2_with fail
        have l2 : e2.ents.length = k := by have := HL.out; simpa [En.ents] using this
        have t2 : e2.ents = e.ents.take k := by
          have h := congrArg (List.take k) HT.out
          rw [En.ents, List.take_append_of_le_length (by omega), List.take_of_length_le (by omega), List.take_take, Nat.min_eq_left (by omega)] at h
          exact h
        exact ⟨⟨k - 1, e2, by go_num, by omega, by rw [show k - 1 + 1 = k by omega]; exact t2, HF.out, trivial⟩, by simp [intOf]; omega⟩
/-- Whether the run goes on. -/
theorem goes_c (rb : Nat) (en : Int) (w : World) (h : w.cell? ⟨rb, 0, none⟩ = some (.int .i64 en)) : Calls Tryz.prog 69 #[ptr rb] w fun e' w' => e' = .returned (.bool (en == 0)) ∧ w' = w := by
  go_enter Tryz.func69, Tryz.ntmps69
  go_wp2_with fail
  go_ret
  exact ⟨rfl, rfl⟩
abbrev zero8 : Value := v8 false 0 0 0 ⟨#[]⟩ none 0 0 0 none 0 0
/-- The run's end. -/
theorem stop_live (rb : Nat) (en : Int) (w : World) (h : w.cell? ⟨rb, 0, none⟩ = some (.int .i64 0)) (hf : w.frozen? ⟨rb, 0, none⟩ = false) : Calls Tryz.prog 68 #[ptr rb, .int .i64 en] w fun e' w' => e' = .returned zero8 ∧ w' = (w.setCell ⟨rb, 0, none⟩ (.int .i64 en)).alloc (.cells #[.bool false, .int .i64 0, .int .u8 0, .int .i64 0, .string ⟨#[]⟩, .slice none 0 0, .int .i64 0, .slice none 0 0] 114) := by
  have hl := World.block_lt_of_cell? w ⟨rb, 0, none⟩ h
  have hb1 := (Below.refl w.heap.size w).alloc (Nat.le_refl _) (.cells #[.bool false, .int .i64 0, .int .u8 0, .int .i64 0, .string ⟨#[]⟩, .slice none 0 0, .int .i64 0, .slice none 0 0] 114)
  have h2 := (hb1.cell (p := ⟨rb, 0, none⟩) hl).trans h
  have C := goes_c rb 0 _ h2
  go_enter Tryz.func68, Tryz.ntmps68
  go_wp2_with fail
  refine C.mono ?_
  rintro e' w' ⟨rfl, rfl⟩
  clear C
  go_wp2_with fail
  refine bodyPost_ret (v := zero8) (by simp [results, Tryz.results68, go_sem]) rfl ⟨rfl, rfl⟩
theorem stop_dead (rb : Nat) (en e0 : Int) (w : World) (h : w.cell? ⟨rb, 0, none⟩ = some (.int .i64 e0)) (hne : e0 ≠ 0) : Calls Tryz.prog 68 #[ptr rb, .int .i64 en] w fun e' w' => e' = .returned zero8 ∧ Below w.heap.size w w' := by
  have hl := World.block_lt_of_cell? w ⟨rb, 0, none⟩ h
  have hb1 := (Below.refl w.heap.size w).alloc (Nat.le_refl _) (.cells #[.bool false, .int .i64 0, .int .u8 0, .int .i64 0, .string ⟨#[]⟩, .slice none 0 0, .int .i64 0, .slice none 0 0] 114)
  have h2 := (hb1.cell (p := ⟨rb, 0, none⟩) hl).trans h
  have C := goes_c rb e0 _ h2
  have e1 : (e0 == 0) = false := by simpa using hne
  rw [e1] at C
  go_enter Tryz.func68, Tryz.ntmps68
  go_wp2_with fail
  refine C.mono ?_
  rintro e' w' ⟨rfl, rfl⟩
  clear C
  go_wp2_with fail
  refine bodyPost_ret (v := zero8) (by simp [results, Tryz.results68, go_sem]) rfl ⟨rfl, hb1⟩
end Go.Proofs.YtjfhncfbejephaaGreatDoor
