import Derived.Test.YtfjpkihebfdmpaaGreatDoorSvF
/- The specification's eval: too many steps. Written by genS.py. -/
namespace Go.Proofs.YtfjpkihebfdmpaaGreatDoor
open Go.RowKit Go.Shelf
open Ff
set_option linter.unusedVariables false
variable {X : Nat → Prop}
attribute [local irreducible] Calls

theorem RunS.ends {rb : Nat} {cv av : Value} {w : World} {s : St} (h : RunS X rb cv av w s 0) (n : Int) : DeadS X rb ((w.setCell ⟨rb, 1, none⟩ (.int .i64 n)).setCell ⟨rb, 0, none⟩ (.int .i64 2)) 2 := by
  have h0 := h.at.1
  have h1 := h.at.2.1
  have h6 := h.at.2.2.2.2.2.2.1
  exact ⟨set_at 0 ((set_off _ _ _ _ _ (by decide)).trans h0), ⟨n, (set_off _ _ _ _ _ (by decide)).trans (set_at 1 h1)⟩, ⟨_, (set_off _ _ _ _ _ (by decide)).trans ((set_off _ _ _ _ _ (by decide)).trans h6)⟩, fun k => by rw [World.frozen?_setCell, World.frozen?_setCell]; exact h.fz k, by decide⟩
set_option maxRecDepth 100000 in
set_option maxHeartbeats 4000000 in
theorem sev_long (s : St) (rb : Nat) (en : Int) (k m : Int) (ss : ByteArray) (a : Option Addr) (l c : Nat) (a2 : Option Addr) (l2 c2 : Nat) (cv av : Value) (w : World) (hs : s.steps = 1500) (hR : RunS X rb cv av w s 0) :
    Calls Tryz.prog 42 #[ptr rb, t4 k m ss a l c, .slice a2 l2 c2] w (DeadP X rb cv av w 2) := by
  have hl := hR.lt
  go_enter Tryz.func42, Tryz.ntmps42
  obtain ⟨ws, wb, x0, x1, x2, x3, z0, z1, z2, z3, z4, z5, z6, z7, zz⟩ := sW_facts w k m ss a l c
  have hR1 := hR.below wb
  obtain ⟨y0, y1, _⟩ := hR1.at
  have fz := hR1.fz
  rw [hs] at y1
  generalize hW : sW w k m ss a l c = W at ws wb x0 x1 x2 x3 zz hR1 y0 y1 fz
  unfold sW at hW
  have K1 := ((KepS.below (rb := rb) (cv := cv) (av := av) wb).set 1 (.int .i64 1501)).set 0 (.int .i64 2)
  have D1 := hR1.ends 1501
  have y01 := (set_off W rb 1 0 (.int .i64 1501) (by decide)).trans y0
  have f01 : (W.setCell ⟨rb, 1, none⟩ (.int .i64 1501)).frozen? ⟨rb, 0, none⟩ = false := by rw [World.frozen?_setCell]; exact fz 0
  have hz1 : ((W.setCell ⟨rb, 1, none⟩ (.int .i64 1501)).setCell ⟨rb, 0, none⟩ (.int .i64 2)).heap[w.heap.size + 1]? = some (.cells #[z0, z1, z2, z3, z4, z5, z6, z7] 69 (0, 0)) := by rw [Below.heap_setCell _ _ _ _ (by show w.heap.size + 1 ≠ rb; omega), Below.heap_setCell _ _ _ _ (by show w.heap.size + 1 ≠ rb; omega)]; exact zz
  go_wp2_with fail
  refine (stop_live rb 2 _ y01 f01).mono ?_
  rintro e' w2 ⟨rfl, hw2⟩
  have hb2 := (Below.refl _ ((W.setCell ⟨rb, 1, none⟩ (.int .i64 1501)).setCell ⟨rb, 0, none⟩ (.int .i64 2))).alloc (Nat.le_refl _) (.cells #[.bool false, .int .i64 0, .int .u8 0, .int .i64 0, .string ⟨#[]⟩, .slice none 0 0, .int .i64 0, .slice none 0 0] 69)
  have D2 := D1.below hb2
  have K2 := K1.trans (KepS.below (rb := rb) (cv := cv) (av := av) hb2)
  have hz2 := (hb2.block (w.heap.size + 1) (by simp; omega)).trans hz1
  rw [← hw2] at D2 K2 hz2
  clear hw2 hb2 hz1 y01 f01 D1 K1
  go_wp2_with fail
  refine (goes_c rb 2 _ D2.c0).mono ?_
  rintro e' w3 ⟨rfl, rfl⟩
  obtain ⟨t0, t1, t2, t3, t4, t5, t6, t7, tf⟩ := eight_of hz2
  go_wp2_with fail
  have h8 := eight_of (set8_at hz2 (.bool false) (.int .i64 0) (.int .u8 0) (.int .i64 0) (.string ⟨#[]⟩) (.slice none 0 0) (.int .i64 0) (.slice none 0 0))
  obtain ⟨y0, y1, y2, y3, y4, y5, y6, y7, _⟩ := h8
  unfold set8 at y0 y1 y2 y3 y4 y5 y6 y7
  refine bodyPost_ret (v := zero8) (by simp [results, Tryz.results42, go_sem, y0, y1, y2, y3, y4, y5, y6, y7]) rfl ?_
  exact ⟨rfl, D2.set8 (by omega) _ _ _ _ _ _ _ _, cv, av, K2.set8 (by omega) _ _ _ _ _ _ _ _⟩
end Go.Proofs.YtfjpkihebfdmpaaGreatDoor
