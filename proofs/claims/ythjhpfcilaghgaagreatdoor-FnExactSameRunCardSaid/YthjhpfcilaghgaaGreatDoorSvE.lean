import Derived.Test.YthjhpfcilaghgaaGreatDoorSvD
import Derived.Test.YthjhpfcilaghgaaGreatDoorEvG
/- The specification's eval: where the run has ended. -/
namespace Go.Proofs.YthjhpfcilaghgaaGreatDoor
open Go.RowKit Go.Shelf
open Ff
set_option linter.unusedVariables false
variable {X : Nat → Prop}
attribute [local irreducible] Calls

/-- A term's cells, whatever they are. -/
abbrev t4 (k m : Int) (s : ByteArray) (a : Option Addr) (l c : Nat) : Value := .agg #[.int .u8 k, .int .i64 m, .string s, .slice a l c]
/-- The boxes with which eval begins. -/
def sW (w : World) (k m : Int) (s : ByteArray) (a : Option Addr) (l c : Nat) : World := (w.alloc (.cells #[.int .u8 k, .int .i64 m, .string s, .slice a l c] 45)).alloc (.cells #[.bool false, .int .i64 0, .int .u8 0, .int .i64 0, .string ⟨#[]⟩, .slice none 0 0, .int .i64 0, .slice none 0 0] 71)
theorem sW_facts (w : World) (k m : Int) (s : ByteArray) (a : Option Addr) (l c : Nat) : (sW w k m s a l c).heap.size = w.heap.size + 2 ∧ Below w.heap.size w (sW w k m s a l c) ∧ (sW w k m s a l c).cell? ⟨w.heap.size, 0, none⟩ = some (.int .u8 k) ∧ (sW w k m s a l c).cell? ⟨w.heap.size, 1, none⟩ = some (.int .i64 m) ∧ (sW w k m s a l c).cell? ⟨w.heap.size, 2, none⟩ = some (.string s) ∧ (sW w k m s a l c).cell? ⟨w.heap.size, 3, none⟩ = some (.slice a l c) ∧
    ∃ z0 z1 z2 z3 z4 z5 z6 z7, (sW w k m s a l c).heap[w.heap.size + 1]? = some (.cells #[z0, z1, z2, z3, z4, z5, z6, z7] 71 (0, 0)) := by
  refine ⟨by simp [sW], ((Below.refl _ w).alloc (Nat.le_refl _) _).alloc (by simp) _, by simp [sW, go_sem], by simp [sW, go_sem], by simp [sW, go_sem], by simp [sW, go_sem], .bool false, .int .i64 0, .int .u8 0, .int .i64 0, .string ⟨#[]⟩, .slice none 0 0, .int .i64 0, .slice none 0 0, ?_⟩
  exact alloc_at2 w (.cells #[.int .u8 k, .int .i64 m, .string s, .slice a l c] 45) _
/-- What a run that has ended leaves. -/
def DeadP (X : Nat → Prop) (rb : Nat) (cv av : Value) (w : World) (en : Int) (e' : Ending) (w' : World) : Prop := e' = .returned zero8 ∧ DeadS X rb w' en ∧ ∃ cv' av', KepS rb cv av w cv' av' w'
theorem KepS.setNew {rb : Nat} {cv av c1 a1 : Value} {w W : World} (h : KepS rb cv av w c1 a1 W) {g : Nat} (h1 : w.heap.size ≤ g) (k : Nat) (u : Value) : KepS rb cv av w c1 a1 (W.setCell ⟨g, k, none⟩ u) :=
  ⟨h.os, h.tape, h.output, by simpa using h.size, fun j hj hr hc ha => (Below.heap_setCell _ _ _ _ (by show j ≠ g; omega)).trans (h.block j hj hr hc ha), h.own⟩
theorem DeadS.setNew {rb : Nat} {w : World} {en : Int} (h : DeadS X rb w en) {g : Nat} (hg : g ≠ rb) (k : Nat) (u : Value) : DeadS X rb (w.setCell ⟨g, k, none⟩ u) en := by
  have q : ∀ j, (w.setCell ⟨g, k, none⟩ u).cell? ⟨rb, j, none⟩ = w.cell? ⟨rb, j, none⟩ := fun j => set_far w g k u rb j (Ne.symm hg)
  exact ⟨by rw [q]; exact h.c0, by rw [q]; exact h.c1, by rw [q]; exact h.c6, fun j => by rw [World.frozen?_setCell]; exact h.fz j, h.ne⟩
theorem DeadS.set8 {rb : Nat} {w : World} {en : Int} (h : DeadS X rb w en) {g : Nat} (hg : g ≠ rb) (u0 u1 u2 u3 u4 u5 u6 u7 : Value) : DeadS X rb (set8 w g u0 u1 u2 u3 u4 u5 u6 u7) en := by
  unfold Proofs.YthjhpfcilaghgaaGreatDoor.set8
  exact (((((((h.setNew hg _ _).setNew hg _ _).setNew hg _ _).setNew hg _ _).setNew hg _ _).setNew hg _ _).setNew hg _ _).setNew hg _ _
theorem KepS.set8 {rb : Nat} {cv av c1 a1 : Value} {w W : World} (h : KepS rb cv av w c1 a1 W) {g : Nat} (h1 : w.heap.size ≤ g) (u0 u1 u2 u3 u4 u5 u6 u7 : Value) : KepS rb cv av w c1 a1 (set8 W g u0 u1 u2 u3 u4 u5 u6 u7) := by
  unfold Proofs.YthjhpfcilaghgaaGreatDoor.set8
  exact (((((((h.setNew h1 _ _).setNew h1 _ _).setNew h1 _ _).setNew h1 _ _).setNew h1 _ _).setNew h1 _ _).setNew h1 _ _).setNew h1 _ _
set_option maxRecDepth 100000 in
set_option maxHeartbeats 4000000 in
theorem dead_eval (rb : Nat) (en : Int) (k m : Int) (s : ByteArray) (a : Option Addr) (l c : Nat) (a2 : Option Addr) (l2 c2 : Nat) (cv av : Value) (w : World) (h : DeadS X rb w en) :
    Calls Tryz.prog 43 #[ptr rb, t4 k m s a l c, .slice a2 l2 c2] w (DeadP X rb cv av w en) := by
  obtain ⟨n1, hn1⟩ := h.c1
  have hl : rb < w.heap.size := World.block_lt_of_cell? w ⟨rb, 0, none⟩ h.c0
  have e1 : (en == 0) = false := by simpa using h.ne
  go_enter Tryz.func43, Tryz.ntmps43
  obtain ⟨ws, wb, x0, x1, x2, x3, z0, z1, z2, z3, z4, z5, z6, z7, zz⟩ := sW_facts w k m s a l c
  have hD := h.below wb
  obtain ⟨y0, _, _, fz, _⟩ := hD
  have y1 := (wb.cell (p := ⟨rb, 1, none⟩) hl).trans hn1
  have hD := h.below wb
  generalize hW : sW w k m s a l c = W at ws wb x0 x1 x2 x3 zz hD y0 y1 fz
  unfold sW at hW
  have K1 : ∀ u, KepS rb cv av w cv av (W.setCell ⟨rb, 1, none⟩ u) := fun u => (KepS.below wb).set 1 u
  have D1 : ∀ n, DeadS X rb (W.setCell ⟨rb, 1, none⟩ (.int .i64 n)) en := fun n => hD.set 1 n (by decide)
  have hz1 : ∀ u, (W.setCell ⟨rb, 1, none⟩ u).heap[w.heap.size + 1]? = some (.cells #[z0, z1, z2, z3, z4, z5, z6, z7] 71 (0, 0)) := fun u => by rw [Below.heap_setCell _ _ _ _ (by show w.heap.size + 1 ≠ rb; omega)]; exact zz
  by_cases hgt : 1500 < wrap64 (n1 + 1)
  · go_wp2_with fail
    refine (stop_dead rb 2 en _ (D1 _).c0 h.ne).mono ?_
    rintro e' w2 ⟨rfl, hb2⟩
    have D2 := (D1 _).below hb2
    have K2 := (K1 _).trans (KepS.below (rb := rb) (cv := cv) (av := av) hb2)
    have hz2 := (hb2.block (w.heap.size + 1) (by simp; omega)).trans (hz1 _)
    go_wp2_with fail
    refine (goes_c rb en _ D2.c0).mono ?_
    rw [e1]
    rintro e' w3 ⟨rfl, rfl⟩
    obtain ⟨t0, t1, t2, t3, t4, t5, t6, t7, tf⟩ := eight_of hz2
    go_wp2_with fail
    have h8 := eight_of (set8_at hz2 (.bool false) (.int .i64 0) (.int .u8 0) (.int .i64 0) (.string ⟨#[]⟩) (.slice none 0 0) (.int .i64 0) (.slice none 0 0))
    obtain ⟨y0, y1, y2, y3, y4, y5, y6, y7, _⟩ := h8
    unfold set8 at y0 y1 y2 y3 y4 y5 y6 y7
    refine bodyPost_ret (v := zero8) (by simp [results, Tryz.results43, go_sem, y0, y1, y2, y3, y4, y5, y6, y7]) rfl ?_
    exact ⟨rfl, D2.set8 (by omega) _ _ _ _ _ _ _ _, cv, av, K2.set8 (by omega) _ _ _ _ _ _ _ _⟩
  · go_wp2_with fail
    have D2 := D1 (wrap64 (n1 + 1))
    have K2 := K1 (.int .i64 (wrap64 (n1 + 1)))
    have hz2 := hz1 (.int .i64 (wrap64 (n1 + 1)))
    generalize (W.setCell ⟨rb, 1, none⟩ (.int .i64 (wrap64 (n1 + 1)))) = w2 at D2 K2 hz2 ⊢
    refine (goes_c rb en _ D2.c0).mono ?_
    rw [e1]
    rintro e' w3 ⟨rfl, rfl⟩
    obtain ⟨t0, t1, t2, t3, t4, t5, t6, t7, tf⟩ := eight_of hz2
    go_wp2_with fail
    have h8 := eight_of (set8_at hz2 (.bool false) (.int .i64 0) (.int .u8 0) (.int .i64 0) (.string ⟨#[]⟩) (.slice none 0 0) (.int .i64 0) (.slice none 0 0))
    obtain ⟨y0, y1, y2, y3, y4, y5, y6, y7, _⟩ := h8
    unfold set8 at y0 y1 y2 y3 y4 y5 y6 y7
    refine bodyPost_ret (v := zero8) (by simp [results, Tryz.results43, go_sem, y0, y1, y2, y3, y4, y5, y6, y7]) rfl ?_
    exact ⟨rfl, D2.set8 (by omega) _ _ _ _ _ _ _ _, cv, av, K2.set8 (by omega) _ _ _ _ _ _ _ _⟩
end Go.Proofs.YthjhpfcilaghgaaGreatDoor
