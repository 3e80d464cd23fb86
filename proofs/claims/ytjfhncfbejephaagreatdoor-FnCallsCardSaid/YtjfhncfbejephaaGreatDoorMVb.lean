import Derived.Test.YtjfhncfbejephaaGreatDoorMVa
import Derived.Test.YtjfhncfbejephaaGreatDoorMEf
/- The specification's eval: where the run has ended. -/
namespace Go.Proofs.YtjfhncfbejephaaGreatDoor
open Go.RowKit Go.Shelf
open Ff
set_option linter.unusedVariables false
variable {X : Nat → Prop}
attribute [local irreducible] Calls

/-- A term's cells, whatever they are. -/
abbrev t4 (k m : Int) (s : ByteArray) (a : Option Addr) (l c : Nat) : Value := .agg #[.int .u8 k, .int .i64 m, .string s, .slice a l c]
/-- The boxes with which eval begins. -/
def sW (w : World) (k m : Int) (s : ByteArray) (a : Option Addr) (l c : Nat) : World := (w.alloc (.cells #[.int .u8 k, .int .i64 m, .string s, .slice a l c] 78)).alloc (.cells #[.bool false, .int .i64 0, .int .u8 0, .int .i64 0, .string ⟨#[]⟩, .slice none 0 0, .int .i64 0, .slice none 0 0] 114)
theorem sW_facts (w : World) (k m : Int) (s : ByteArray) (a : Option Addr) (l c : Nat) : (sW w k m s a l c).heap.size = w.heap.size + 2 ∧ Below w.heap.size w (sW w k m s a l c) ∧ (sW w k m s a l c).cell? ⟨w.heap.size, 0, none⟩ = some (.int .u8 k) ∧ (sW w k m s a l c).cell? ⟨w.heap.size, 1, none⟩ = some (.int .i64 m) ∧ (sW w k m s a l c).cell? ⟨w.heap.size, 2, none⟩ = some (.string s) ∧ (sW w k m s a l c).cell? ⟨w.heap.size, 3, none⟩ = some (.slice a l c) ∧
    ∃ z0 z1 z2 z3 z4 z5 z6 z7, (sW w k m s a l c).heap[w.heap.size + 1]? = some (.cells #[z0, z1, z2, z3, z4, z5, z6, z7] 114 (0, 0)) := by
  refine ⟨by simp [sW], ((Below.refl _ w).alloc (Nat.le_refl _) _).alloc (by simp) _, by simp [sW, go_sem], by simp [sW, go_sem], by simp [sW, go_sem], by simp [sW, go_sem], .bool false, .int .i64 0, .int .u8 0, .int .i64 0, .string ⟨#[]⟩, .slice none 0 0, .int .i64 0, .slice none 0 0, ?_⟩
  exact alloc_at2 w (.cells #[.int .u8 k, .int .i64 m, .string s, .slice a l c] 78) _
/-- What a run that has ended leaves. -/
def DeadP (X : Nat → Prop) (rb : Nat) (cv av : Value) (w : World) (en : Int) (e' : Ending) (w' : World) : Prop := e' = .returned zero8 ∧ DeadS X rb w' en ∧ ∃ cv' av', KepS rb cv av w cv' av' w'
theorem KepS.setNew {rb : Nat} {cv av c1 a1 : Value} {w W : World} (h : KepS rb cv av w c1 a1 W) {g : Nat} (h1 : w.heap.size ≤ g) (k : Nat) (u : Value) : KepS rb cv av w c1 a1 (W.setCell ⟨g, k, none⟩ u) :=
  ⟨h.os, h.tape, h.output, by simpa using h.size, fun j hj hr hc ha => (Below.heap_setCell _ _ _ _ (by show j ≠ g; omega)).trans (h.block j hj hr hc ha), h.own⟩
theorem DeadS.setNew {rb : Nat} {w : World} {en : Int} (h : DeadS X rb w en) {g : Nat} (hg : g ≠ rb) (k : Nat) (u : Value) : DeadS X rb (w.setCell ⟨g, k, none⟩ u) en := by
  have q : ∀ j, (w.setCell ⟨g, k, none⟩ u).cell? ⟨rb, j, none⟩ = w.cell? ⟨rb, j, none⟩ := fun j => set_far w g k u rb j (Ne.symm hg)
  exact ⟨by rw [q]; exact h.c0, by rw [q]; exact h.c1, by rw [q]; exact h.c6, fun j => by rw [World.frozen?_setCell]; exact h.fz j, h.ne⟩
theorem DeadS.set8 {rb : Nat} {w : World} {en : Int} (h : DeadS X rb w en) {g : Nat} (hg : g ≠ rb) (u0 u1 u2 u3 u4 u5 u6 u7 : Value) : DeadS X rb (set8 w g u0 u1 u2 u3 u4 u5 u6 u7) en := by
  unfold Proofs.YtjfhncfbejephaaGreatDoor.set8
  exact (((((((h.setNew hg _ _).setNew hg _ _).setNew hg _ _).setNew hg _ _).setNew hg _ _).setNew hg _ _).setNew hg _ _).setNew hg _ _
theorem KepS.set8 {rb : Nat} {cv av c1 a1 : Value} {w W : World} (h : KepS rb cv av w c1 a1 W) {g : Nat} (h1 : w.heap.size ≤ g) (u0 u1 u2 u3 u4 u5 u6 u7 : Value) : KepS rb cv av w c1 a1 (set8 W g u0 u1 u2 u3 u4 u5 u6 u7) := by
  unfold Proofs.YtjfhncfbejephaaGreatDoor.set8
  exact (((((((h.setNew h1 _ _).setNew h1 _ _).setNew h1 _ _).setNew h1 _ _).setNew h1 _ _).setNew h1 _ _).setNew h1 _ _).setNew h1 _ _
set_option maxRecDepth 100000 in
set_option maxHeartbeats 4000000 in
theorem dead_eval (rb : Nat) (en : Int) (k m : Int) (s : ByteArray) (a : Option Addr) (l c : Nat) (a2 : Option Addr) (l2 c2 : Nat) (cv av : Value) (w : World) (h : DeadS X rb w en) :
    Calls Tryz.prog 47 #[ptr rb, t4 k m s a l c, .slice a2 l2 c2] w (DeadP X rb cv av w en) := by
  obtain ⟨n1, hn1⟩ := h.c1
  have hl : rb < w.heap.size := World.block_lt_of_cell? w ⟨rb, 0, none⟩ h.c0
  have e1 : (en == 0) = false := by simpa using h.ne
  go_enter Tryz.func47, Tryz.ntmps47
  obtain ⟨ws, wb, x0, x1, x2, x3, z0, z1, z2, z3, z4, z5, z6, z7, zz⟩ := sW_facts w k m s a l c
  have hD := h.below wb
  obtain ⟨y0, _, _, fz, _⟩ := hD
  have y1 := (wb.cell (p := ⟨rb, 1, none⟩) hl).trans hn1
  have hD := h.below wb
  generalize hW : sW w k m s a l c = W at ws wb x0 x1 x2 x3 zz hD y0 y1 fz
  unfold sW at hW
  have K1 : ∀ u, KepS rb cv av w cv av (W.setCell ⟨rb, 1, none⟩ u) := fun u => (KepS.below wb).set 1 u
  have D1 : ∀ n, DeadS X rb (W.setCell ⟨rb, 1, none⟩ (.int .i64 n)) en := fun n => hD.set 1 n (by decide)
  have hz1 : ∀ u, (W.setCell ⟨rb, 1, none⟩ u).heap[w.heap.size + 1]? = some (.cells #[z0, z1, z2, z3, z4, z5, z6, z7] 114 (0, 0)) := fun u => by rw [Below.heap_setCell _ _ _ _ (by show w.heap.size + 1 ≠ rb; omega)]; exact zz
  by_cases hgt : 1500 < wrap64 (n1 + 1)
  · go_wp2_with fail
    refine (stop_dead rb 2 en _ (D1 _).c0 h.ne).mono ?_
    rintro e' w2 ⟨rfl, hb2⟩
    have D2 := (D1 _).below hb2
    have K2 := (K1 _).trans (KepS.below (rb := rb) (cv := cv) (av := av) hb2)
    have hz2 := (hb2.block (w.heap.size + 1) (by simp; omega)).trans (hz1 _)
    go_wp2_with fail
    refine (goes_c rb en _ D2.c0).mono ?_
    rw [e1]
    rintro e' w3 ⟨rfl, rfl⟩
    obtain ⟨t0, t1, t2, t3, t4, t5, t6, t7, tff⟩ := eight_of hz2
    go_wp2_with fail
    have h8 := eight_of (set8_at hz2 (.bool false) (.int .i64 0) (.int .u8 0) (.int .i64 0) (.string ⟨#[]⟩) (.slice none 0 0) (.int .i64 0) (.slice none 0 0))
    obtain ⟨y0, y1, y2, y3, y4, y5, y6, y7, _⟩ := h8
    unfold set8 at y0 y1 y2 y3 y4 y5 y6 y7
    refine bodyPost_ret (v := zero8) (by simp [results, Tryz.results47, go_sem, y0, y1, y2, y3, y4, y5, y6, y7]) rfl ?_
    exact ⟨rfl, D2.set8 (by omega) _ _ _ _ _ _ _ _, cv, av, K2.set8 (by omega) _ _ _ _ _ _ _ _⟩
  · go_wp2_with fail
    have D2 := D1 (wrap64 (n1 + 1))
    have K2 := K1 (.int .i64 (wrap64 (n1 + 1)))
    have hz2 := hz1 (.int .i64 (wrap64 (n1 + 1)))
    generalize (W.setCell ⟨rb, 1, none⟩ (.int .i64 (wrap64 (n1 + 1)))) = w2 at D2 K2 hz2 ⊢
    refine (goes_c rb en _ D2.c0).mono ?_
    rw [e1]
    rintro e' w3 ⟨rfl, rfl⟩
    obtain ⟨t0, t1, t2, t3, t4, t5, t6, t7, tff⟩ := eight_of hz2
    go_wp2_with fail
    have h8 := eight_of (set8_at hz2 (.bool false) (.int .i64 0) (.int .u8 0) (.int .i64 0) (.string ⟨#[]⟩) (.slice none 0 0) (.int .i64 0) (.slice none 0 0))
    obtain ⟨y0, y1, y2, y3, y4, y5, y6, y7, _⟩ := h8
    unfold set8 at y0 y1 y2 y3 y4 y5 y6 y7
    refine bodyPost_ret (v := zero8) (by simp [results, Tryz.results47, go_sem, y0, y1, y2, y3, y4, y5, y6, y7]) rfl ?_
    exact ⟨rfl, D2.set8 (by omega) _ _ _ _ _ _ _ _, cv, av, K2.set8 (by omega) _ _ _ _ _ _ _ _⟩
end Go.Proofs.YtjfhncfbejephaaGreatDoor

/- The specification's eval: numbers, names and functions. Written by genS.py. -/
namespace Go.Proofs.YtjfhncfbejephaaGreatDoor
open Go.RowKit Go.Shelf
open Ff
set_option linter.unusedVariables false
variable {X : Nat → Prop}
attribute [local irreducible] Calls

/-- What is evaluated comes to, in the specification's memory. -/
def SPost (X : Nat → Prop) (rb : Nat) (cv av : Value) (w : World) (o : Ou) (e' : Ending) (w' : World) : Prop := match o with
  | .ok v s' => ∃ x cv' av', e' = .returned x ∧ SV (SafeS X rb cv' av' w') w' v x ∧ RunS X rb cv' av' w' s' 0 ∧ KepS rb cv av w cv' av' w'
  | .fault => DeadP X rb cv av w 1 e' w'
  | .long => DeadP X rb cv av w 2 e' w'
def enO : Ou → Int
  | .fault => 1
  | _ => 2
theorem sPost_bad {o : Ou} (h : o.bad) (rb : Nat) (cv av : Value) (w : World) (e' : Ending) (w' : World) : SPost X rb cv av w o e' w' ↔ DeadP X rb cv av w (enO o) e' w' := by cases o; exact h.elim; exact Iff.rfl; exact Iff.rfl
def SEvC (n : Nat) : Prop := ∀ (X : Nat → Prop) (t : Tm) (i : Nat) (e : En) (s : St) (rb : Nat) (cv av tv vv : Value) (w : World), 1501 ≤ s.steps + n → StB s → TmOk t i e → RunS X rb cv av w s 0 → RepN (SafeS X rb cv av w) w t i tv → SE (SafeS X rb cv av w) w e vv →
  Calls Tryz.prog 47 #[ptr rb, tv, vv] w (SPost X rb cv av w (ev n t i e s))
theorem RunS.setOther {rb : Nat} {cv av : Value} {w : World} {s : St} {en : Int} (h : RunS X rb cv av w s en) {g : Nat} (h1 : g ≠ rb) (h2 : cv.ownBlock ≠ some g) (h3 : av.ownBlock ≠ some g) (k : Nat) (u : Value) : RunS X rb cv av (w.setCell ⟨g, k, none⟩ u) s en := by
  obtain ⟨na, xs, hna, hA⟩ := h.rowA
  have q : ∀ j, (w.setCell ⟨g, k, none⟩ u).cell? ⟨rb, j, none⟩ = w.cell? ⟨rb, j, none⟩ := fun j => set_far w g k u rb j (Ne.symm h1)
  have ro : ∀ {v : Value} {t : TypeId} {sz n : Nat} {ys : List Value}, v.ownBlock ≠ some g → w.ownsRow (rb + 1) t sz v n ys → (w.setCell ⟨g, k, none⟩ u).ownsRow (rb + 1) t sz v n ys := fun {v t sz n ys} hv hrow => by
    obtain ⟨h3, h2 | ⟨g', cap, cur, hq, hb, hh, rest⟩⟩ := hrow
    · exact ⟨h3, .inl h2⟩
    · exact ⟨h3, .inr ⟨g', cap, cur, hq, hb, (Below.heap_setCell _ _ _ _ (by show g' ≠ g; rintro rfl; exact hv (by rw [hq]; rfl))).trans hh, rest⟩⟩
  exact ⟨fun j v hj => by rw [q]; exact h.cs j v hj, fun j hj => by rw [q]; exact h.made j hj, fun j => by rw [World.frozen?_setCell]; exact h.fz j, ro h2 h.row, ⟨na, xs, hna, ro h3 hA⟩, h.sep, fun g hg => by simpa using h.priv g hg⟩
theorem RunS.set8 {rb : Nat} {cv av : Value} {w : World} {s : St} {en : Int} (h : RunS X rb cv av w s en) {g : Nat} (h1 : g ≠ rb) (h2 : cv.ownBlock ≠ some g) (h3 : av.ownBlock ≠ some g) (u0 u1 u2 u3 u4 u5 u6 u7 : Value) : RunS X rb cv av (set8 w g u0 u1 u2 u3 u4 u5 u6 u7) s en := by
  unfold Proofs.YtjfhncfbejephaaGreatDoor.set8
  exact (((((((h.setOther h1 h2 h3 _ _).setOther h1 h2 h3 _ _).setOther h1 h2 h3 _ _).setOther h1 h2 h3 _ _).setOther h1 h2 h3 _ _).setOther h1 h2 h3 _ _).setOther h1 h2 h3 _ _).setOther h1 h2 h3 _ _
theorem RepN.head {S : Nat → Prop} {w : World} {t : Tm} {i : Nat} {v : Value} (h : RepN S w t i v) : ∃ g cap, v = tmHeadA t (numAt t i) g cap ∧ S g ∧ ∀ k s, t.kids[k]? = some s → ∃ kk mm ss aa ll cc, w.cell? ⟨g, 4 * k, none⟩ = some (.int .u8 kk) ∧ w.cell? ⟨g, 4 * k + 1, none⟩ = some (.int .i64 mm) ∧ w.cell? ⟨g, 4 * k + 2, none⟩ = some (.string ss) ∧ w.cell? ⟨g, 4 * k + 3, none⟩ = some (.slice aa ll cc) ∧ RepN S w s (i + (before t k).length) (t4 kk mm ss aa ll cc) := by
  cases h with
  | mk t i g cap c hg hc hk =>
    refine ⟨g, cap, rfl, hg, fun k s hs => ?_⟩
    have h1 := hk k s hs
    have hlt := (List.getElem?_eq_some_iff.1 hs).1
    obtain ⟨kk, mm, ss, aa, ll, cc, he⟩ := h1.any.junk
    have he2 := he
    unfold four at he
    simp only [Value.agg.injEq, Array.mk.injEq, List.cons.injEq, and_true] at he
    obtain ⟨i0, i1, i2, i3⟩ := he
    rw [he2] at h1
    exact ⟨kk, mm, ss, aa, ll, cc, by rw [hc _ (by omega), i0], by rw [hc _ (by omega), i1], by rw [hc _ (by omega), i2], by rw [hc _ (by omega), i3], h1⟩
/-- The end of what evaluates: the value lies in the result's own block. -/
theorem sv_out {rb B : Nat} {cv av cv' av' : Value} {w w3 : World} {s0 s' : St} {v : Vl} {b : Bool} {n k m : Int} {ss : ByteArray} {a : Option Addr} {l c : Nat} {i : Int} {a2 : Option Addr} {l2 c2 : Nat} (hR : RunS X rb cv av w s0 0) (hB : w.heap.size ≤ B) (hBl : B < w3.heap.size) (hv : SV (SafeS (AndX X B) rb cv' av' w3) w3 v (v8 b n k m ss a l c i a2 l2 c2)) (hR3 : RunS (AndX X B) rb cv' av' w3 s' 0) (K3 : KepS rb cv av w cv' av' w3) (ho : ∀ j, cv'.ownBlock = some j ∨ av'.ownBlock = some j → j ≠ B) :
    SPost X rb cv av w (.ok v s') (.returned (v8 b n k m ss a l c i a2 l2 c2)) (set8 w3 B (.bool b) (.int .i64 n) (.int .u8 k) (.int .i64 m) (.string ss) (.slice a l c) (.int .i64 i) (.slice a2 l2 c2)) := by
  have hrb := hR.lt
  refine ⟨_, cv', av', rfl, hv.keep (fun g hg => ⟨set8_heap _ _ _ _ _ _ _ _ _ _ (fun e => hg.2.2.2.2 (.inr e)), by rw [set8_size]; exact hg.1, hg.2.1, hg.2.2.1, hg.2.2.2.1, fun e => hg.2.2.2.2 (.inl e)⟩), (hR3.bare).set8 (by omega) (fun e => ho B (.inl e) rfl) (fun e => ho B (.inr e) rfl) _ _ _ _ _ _ _ _, K3.set8 hB _ _ _ _ _ _ _ _⟩
theorem dead_out {rb B : Nat} {cv av cv1 av1 : Value} {w w2 w3 : World} {en : Int} {e' : Ending} (hB : w.heap.size ≤ B) (hrb : rb < w.heap.size) (K : KepS rb cv av w cv1 av1 w2) (h : DeadP (AndX X B) rb cv1 av1 w2 en e' w3) : DeadP X rb cv av w en (.returned zero8) (set8 w3 B (.bool false) (.int .i64 0) (.int .u8 0) (.int .i64 0) (.string ⟨#[]⟩) (.slice none 0 0) (.int .i64 0) (.slice none 0 0)) := by
  obtain ⟨h1, h2, cv', av', h3⟩ := h
  have h4 : DeadS X rb w3 en := ⟨h2.c0, h2.c1, h2.c6, h2.fz, h2.ne⟩
  exact ⟨rfl, h4.set8 (by omega) _ _ _ _ _ _ _ _, cv', av', (K.trans h3).set8 hB _ _ _ _ _ _ _ _⟩
set_option maxRecDepth 100000 in
set_option maxHeartbeats 8000000 in
theorem sev_num (n : Nat) (ih : SEvC n) (k : Nat) (i : Nat) (e : En) (s : St) (rb : Nat) (cv av tv vv : Value) (w : World) (hn : 1501 ≤ s.step.steps + n) (hs : s.steps < 1500) (hB : StB s) (hok : TmOk (.num k) i e) (hR : RunS X rb cv av w s 0) (hP : RepN (SafeS X rb cv av w) w (.num k) i tv) (hE : SE (SafeS X rb cv av w) w e vv) :
    Calls Tryz.prog 47 #[ptr rb, tv, vv] w (SPost X rb cv av w (evB (ev n) (.num k) i e s.step)) := by
  obtain ⟨g, cap, rfl, hg, hkids⟩ := hP.head
  obtain ⟨ae, ce, rfl⟩ := hE.form
  have hlen := hok.room
  rw [← En.ents_len] at hlen
  have hB2 : StB s.step := ⟨hs, by simp only [St.step]; have := hB.calls; omega, by simp only [St.step]; have := hB.clos; omega, by simp only [St.step]; have := hB.capt; omega, hB.deepest, hB.depth, hB.called, hB.froms, hB.encl⟩
  have hcs : s.step.calls < s.step.steps := by simp only [St.step]; have := hB.calls; omega
  have hdep : s.step.depth = s.depth := rfl
  have hrb := hR.lt
  have hgl := hg.1
  show Calls Tryz.prog 47 #[ptr rb, .agg #[.int .u8 110, .int .i64 (k : Int), .string ⟨#[]⟩, .slice (some ⟨g, 0, none⟩) 0 cap], .slice (some ae) e.ents.length ce] w _
  obtain ⟨ws, wb, x0, x1, x2, x3, z0, z1, z2, z3, z4, z5, z6, z7, zz⟩ := sW_facts w 110 (k : Int) ⟨#[]⟩ (some ⟨g, 0, none⟩) 0 cap
  have hR1 := (hR.below wb).hide (b := w.heap.size + 1) (by omega)
  go_enter Tryz.func47, Tryz.ntmps47
  generalize hW : sW w 110 (k : Int) ⟨#[]⟩ (some ⟨g, 0, none⟩) 0 cap = W at ws wb x0 x1 x2 x3 zz hR1
  unfold sW at hW
  obtain ⟨y0, y1, _⟩ := hR1.at
  have fz := hR1.fz
  have hR2 : RunS (AndX X (w.heap.size + 1)) rb cv av (W.setCell ⟨rb, 1, none⟩ (.int .i64 ((s.steps : Int) + 1))) s.step 0 := hR1.set 1 _ (by decide) (by simp [runL, St.step]) rfl
  have K2 := (KepS.below (rb := rb) (cv := cv) (av := av) wb).set 1 (.int .i64 ((s.steps : Int) + 1))
  have K12 := (KepS.refl rb cv av W).set 1 (.int .i64 ((s.steps : Int) + 1))
  have G := goes_c rb 0 _ hR2.at.1
  go_wp2_with fail
  refine G.mono ?_
  rintro e' w' ⟨rfl, rfl⟩
  clear G y0 y1 fz
  have o0 : rb ≠ w.heap.size := by omega
  have o1 : rb ≠ w.heap.size + 1 := by omega
  have x0 := (set_far W rb 1 (.int .i64 ((s.steps : Int) + 1)) w.heap.size 0 (Ne.symm o0)).trans x0
  have x1 := (set_far W rb 1 (.int .i64 ((s.steps : Int) + 1)) w.heap.size 1 (Ne.symm o0)).trans x1
  have x2 := (set_far W rb 1 (.int .i64 ((s.steps : Int) + 1)) w.heap.size 2 (Ne.symm o0)).trans x2
  have x3 := (set_far W rb 1 (.int .i64 ((s.steps : Int) + 1)) w.heap.size 3 (Ne.symm o0)).trans x3
  have zz := (Below.heap_setCell W ⟨rb, 1, none⟩ (.int .i64 ((s.steps : Int) + 1)) (w.heap.size + 1) (Ne.symm o1)).trans zz
  have hz : (W.setCell ⟨rb, 1, none⟩ (.int .i64 ((s.steps : Int) + 1))).heap.size = w.heap.size + 2 := by simp [ws]
  generalize (W.setCell ⟨rb, 1, none⟩ (.int .i64 ((s.steps : Int) + 1))) = w2 at hR2 K2 K12 x0 x1 x2 x3 zz hz ⊢
  have H2 := K2.hide (X := X) (b := w.heap.size + 1) (Nat.le_succ _)
  have hown : ∀ (cv2 av2 : Value) (w4 : World), KepS rb cv av w2 cv2 av2 w4 → ∀ j, cv2.ownBlock = some j ∨ av2.ownBlock = some j → j ≠ w.heap.size + 1 := fun cv2 av2 w4 hK j hj e => by
    rcases hK.own j hj with h | h | h
    · have := (hR.owns j (.inl h)).2; omega
    · have := (hR.owns j (.inr h)).2; omega
    · omega
  have sB : SafeS X rb cv av w2 (w.heap.size + 1) := hR.new (Nat.le_succ _) (by omega)
  have sb : SafeS X rb cv av w2 w.heap.size := hR.new (Nat.le_refl _) (by omega)
  have sg := (K2.safe hg).2
  have hfin : ∀ (cv2 av2 : Value) (w4 : World), KepS rb cv av w2 cv2 av2 w4 → w4.heap[w.heap.size + 1]? = some (.cells #[z0, z1, z2, z3, z4, z5, z6, z7] 114 (0, 0)) := fun cv2 av2 w4 hK => (hK.safe sB).1.trans zz
  obtain ⟨t0, t1, t2, t3, t4, t5, t6, t7, tff⟩ := eight_of zz
  go_wp2_with fail
  have h8 := eight_of (set8_at zz (.bool false) (.int .i64 (k : Int)) (.int .u8 0) (.int .i64 0) (.string ⟨#[]⟩) (.slice none 0 0) (.int .i64 0) (.slice none 0 0))
  obtain ⟨r0, r1, r2, r3, r4, r5, r6, r7, _⟩ := h8
  unfold set8 at r0 r1 r2 r3 r4 r5 r6 r7
  refine bodyPost_ret (v := num8 k) (by simp [results, Tryz.results47, go_sem, r0, r1, r2, r3, r4, r5, r6, r7]) rfl ?_
  exact sv_out hR (Nat.le_succ _) (by omega) (.num k) hR2 K2 (hown _ _ _ (KepS.refl _ _ _ _))
set_option maxRecDepth 100000 in
set_option maxHeartbeats 8000000 in
theorem sev_var (n : Nat) (ih : SEvC n) (c : UInt8) (i : Nat) (e : En) (s : St) (rb : Nat) (cv av tv vv : Value) (w : World) (hn : 1501 ≤ s.step.steps + n) (hs : s.steps < 1500) (hB : StB s) (hok : TmOk (.var c) i e) (hR : RunS X rb cv av w s 0) (hP : RepN (SafeS X rb cv av w) w (.var c) i tv) (hE : SE (SafeS X rb cv av w) w e vv) (v : Vl) (hv : e.find c = some v) :
    Calls Tryz.prog 47 #[ptr rb, tv, vv] w (SPost X rb cv av w (evB (ev n) (.var c) i e s.step)) := by
  obtain ⟨g, cap, rfl, hg, hkids⟩ := hP.head
  obtain ⟨ae, ce, rfl⟩ := hE.form
  have hlen := hok.room
  rw [← En.ents_len] at hlen
  have hB2 : StB s.step := ⟨hs, by simp only [St.step]; have := hB.calls; omega, by simp only [St.step]; have := hB.clos; omega, by simp only [St.step]; have := hB.capt; omega, hB.deepest, hB.depth, hB.called, hB.froms, hB.encl⟩
  have hcs : s.step.calls < s.step.steps := by simp only [St.step]; have := hB.calls; omega
  have hdep : s.step.depth = s.depth := rfl
  have hrb := hR.lt
  have hgl := hg.1
  show Calls Tryz.prog 47 #[ptr rb, .agg #[.int .u8 118, .int .i64 (i : Int), .string ⟨#[c]⟩, .slice (some ⟨g, 0, none⟩) 0 cap], .slice (some ae) e.ents.length ce] w _
  obtain ⟨ws, wb, x0, x1, x2, x3, z0, z1, z2, z3, z4, z5, z6, z7, zz⟩ := sW_facts w 118 (i : Int) ⟨#[c]⟩ (some ⟨g, 0, none⟩) 0 cap
  have hR1 := (hR.below wb).hide (b := w.heap.size + 1) (by omega)
  go_enter Tryz.func47, Tryz.ntmps47
  generalize hW : sW w 118 (i : Int) ⟨#[c]⟩ (some ⟨g, 0, none⟩) 0 cap = W at ws wb x0 x1 x2 x3 zz hR1
  unfold sW at hW
  obtain ⟨y0, y1, _⟩ := hR1.at
  have fz := hR1.fz
  have hR2 : RunS (AndX X (w.heap.size + 1)) rb cv av (W.setCell ⟨rb, 1, none⟩ (.int .i64 ((s.steps : Int) + 1))) s.step 0 := hR1.set 1 _ (by decide) (by simp [runL, St.step]) rfl
  have K2 := (KepS.below (rb := rb) (cv := cv) (av := av) wb).set 1 (.int .i64 ((s.steps : Int) + 1))
  have K12 := (KepS.refl rb cv av W).set 1 (.int .i64 ((s.steps : Int) + 1))
  have G := goes_c rb 0 _ hR2.at.1
  go_wp2_with fail
  refine G.mono ?_
  rintro e' w' ⟨rfl, rfl⟩
  clear G y0 y1 fz
  have o0 : rb ≠ w.heap.size := by omega
  have o1 : rb ≠ w.heap.size + 1 := by omega
  have x0 := (set_far W rb 1 (.int .i64 ((s.steps : Int) + 1)) w.heap.size 0 (Ne.symm o0)).trans x0
  have x1 := (set_far W rb 1 (.int .i64 ((s.steps : Int) + 1)) w.heap.size 1 (Ne.symm o0)).trans x1
  have x2 := (set_far W rb 1 (.int .i64 ((s.steps : Int) + 1)) w.heap.size 2 (Ne.symm o0)).trans x2
  have x3 := (set_far W rb 1 (.int .i64 ((s.steps : Int) + 1)) w.heap.size 3 (Ne.symm o0)).trans x3
  have zz := (Below.heap_setCell W ⟨rb, 1, none⟩ (.int .i64 ((s.steps : Int) + 1)) (w.heap.size + 1) (Ne.symm o1)).trans zz
  have hz : (W.setCell ⟨rb, 1, none⟩ (.int .i64 ((s.steps : Int) + 1))).heap.size = w.heap.size + 2 := by simp [ws]
  generalize (W.setCell ⟨rb, 1, none⟩ (.int .i64 ((s.steps : Int) + 1))) = w2 at hR2 K2 K12 x0 x1 x2 x3 zz hz ⊢
  have H2 := K2.hide (X := X) (b := w.heap.size + 1) (Nat.le_succ _)
  have hown : ∀ (cv2 av2 : Value) (w4 : World), KepS rb cv av w2 cv2 av2 w4 → ∀ j, cv2.ownBlock = some j ∨ av2.ownBlock = some j → j ≠ w.heap.size + 1 := fun cv2 av2 w4 hK j hj e => by
    rcases hK.own j hj with h | h | h
    · have := (hR.owns j (.inl h)).2; omega
    · have := (hR.owns j (.inr h)).2; omega
    · omega
  have sB : SafeS X rb cv av w2 (w.heap.size + 1) := hR.new (Nat.le_succ _) (by omega)
  have sb : SafeS X rb cv av w2 w.heap.size := hR.new (Nat.le_refl _) (by omega)
  have sg := (K2.safe hg).2
  have hfin : ∀ (cv2 av2 : Value) (w4 : World), KepS rb cv av w2 cv2 av2 w4 → w4.heap[w.heap.size + 1]? = some (.cells #[z0, z1, z2, z3, z4, z5, z6, z7] 114 (0, 0)) := fun cv2 av2 w4 hK => (hK.safe sB).1.trans zz
  have HEV : evB (ev n) (.var c) i e s.step = .ok v s.step := by show (match e.find c with | some v => Ou.ok v s.step | none => .fault) = _; rw [hv]
  have HE := Lib.hid HEV
  clear HEV
  have C := sfind_c _ e c v _ w2 (hE.keep H2) hv (by omega)
  have HV := Lib.hid hv
  clear hv
  go_wp2_with fail
  refine C.mono ?_
  rintro e' w4 ⟨x, rfl, hx, hb4⟩
  obtain ⟨bq, nq, kq, mq, sq, aq, lq, cq, iq, aq2, lq2, cq2, rfl⟩ := hx.form
  have hs4 := hb4.size
  have K4 := KepS.below (rb := rb) (cv := cv) (av := av) hb4
  have hz4 := hfin _ _ _ K4
  obtain ⟨t0, t1, t2, t3, t4, t5, t6, t7, tff⟩ := eight_of hz4
  go_wp2_with fail
  have h8 := eight_of (set8_at hz4 (.bool bq) (.int .i64 nq) (.int .u8 kq) (.int .i64 mq) (.string sq) (.slice aq lq cq) (.int .i64 iq) (.slice aq2 lq2 cq2))
  obtain ⟨r0, r1, r2, r3, r4, r5, r6, r7, _⟩ := h8
  unfold set8 at r0 r1 r2 r3 r4 r5 r6 r7
  refine bodyPost_ret (v := v8 bq nq kq mq sq aq lq cq iq aq2 lq2 cq2) (by simp [results, Tryz.results47, go_sem, r0, r1, r2, r3, r4, r5, r6, r7]) rfl ?_
  rw [HE.out]
  exact sv_out hR (Nat.le_succ _) (by omega) (hx.keep (fun g hg => K4.safe hg)) (hR2.below hb4) (K2.trans K4) (hown _ _ _ K4)
end Go.Proofs.YtjfhncfbejephaaGreatDoor
