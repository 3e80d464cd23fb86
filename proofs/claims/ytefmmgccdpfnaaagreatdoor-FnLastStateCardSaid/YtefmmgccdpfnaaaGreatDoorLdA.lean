import Derived.Test.YtefmmgccdpfnaaaGreatDoorMLa
import Derived.Test.YtefmmgccdpfnaaaGreatDoorMSk
import Derived.Deep.RegionHeld3
/- Draws of chapters 3 and 4 (without the evaluator). -/
namespace Go.Proofs.YtefmmgccdpfnaaaGreatDoor
open Go.RowKit
open Ff
set_option linter.unusedVariables false
attribute [local irreducible] goT runN Calls

theorem closed_g {b : Nat} {a : Option Addr} {l c p : Nat} {w0 w : World} (h : DG b a l c w0 p w) (s : Text) (hs : s.length ≤ 2000) :
    Calls Tryz.prog 94 #[.string ⟨s.toArray⟩] w fun e w' => e = .returned (.bool (closedB (readS s))) ∧ DG b a l c w0 p w' :=
  (sIsClosed_c s w (by omega)).mono fun e w' ⟨he, hb⟩ => ⟨he, h.out hb⟩
set_option maxHeartbeats 1000000 in
theorem good3_c (b : Nat) (a : Option Addr) (l c p : Nat) (w0 w : World) (hD : DG b a l c w0 p w) (hp : p ≤ 20000) :
    Calls Tryz.prog 75 #[.pointer (some ⟨b, 0, none⟩)] w fun e w' => ∃ (s : Text) (p' : Nat), e = .returned (.string ⟨s.toArray⟩) ∧ s.length ≤ 2000 ∧ p' ≤ p + 3100 ∧ DG b a l c w0 p' w' := by
  go_enter Tryz.func75, Tryz.ntmps75
  go_wp2_with fail
  refine (good_c _ _ _ _ _ _ _ _ hD (by omega)).mono ?_; rintro e w2 ⟨s, p2, rfl, hs, hs2, hp2, hD2⟩
  obtain ⟨⟨s⟩⟩ := s
  rw [show (⟨⟨s⟩⟩ : ByteArray) = ⟨s.toArray⟩ from rfl] at hs2 ⊢
  rw [size_data] at hs2
  clear hs
  go_wp2_with fail
  refine (closed_g hD2 s hs2).mono ?_; rintro e w3 ⟨rfl, hD3⟩
  cases closedB (readS s)
  · go_wp2_with fail
    refine (pick_g hD3 _ (by omega) (by omega) (by omega)).mono ?_; rintro e w4 ⟨k4, rfl, hk4, hD4⟩
    go_wp2_with fail
    refine (known_g hD4 k4 _ hk4 (by omega)).mono ?_; rintro e w5 ⟨u, rfl, hu, hu2, hD5⟩
    go_wp2_with fail
    go_ret
    obtain ⟨⟨u⟩⟩ := u
    rw [show (⟨⟨u⟩⟩ : ByteArray) = ⟨u.toArray⟩ from rfl, size_data] at hu2
    exact ⟨u, _, rfl, by omega, by omega, hD5⟩
  · go_wp2_with fail
    go_ret
    exact ⟨s, _, rfl, hs2, by omega, hD3⟩
set_option maxHeartbeats 1000000 in
theorem any3_c (b : Nat) (a : Option Addr) (l c p : Nat) (w0 w : World) (hD : DG b a l c w0 p w) (hp : p ≤ 10000) :
    Calls Tryz.prog 44 #[.pointer (some ⟨b, 0, none⟩)] w fun e w' => ∃ (s : Text) (p' : Nat), e = .returned (.string ⟨s.toArray⟩) ∧ s.length ≤ 5000 ∧ p' ≤ p + 5000 ∧ DG b a l c w0 p' w' := by
  go_enter Tryz.func44, Tryz.ntmps44
  go_wp2_with fail
  refine (pick_g hD _ (by omega) (by omega) (by omega)).mono ?_; rintro e w1 ⟨k1, rfl, hk1, hD1⟩
  go_wp2_with fail
  · refine (any_c _ _ _ _ _ _ _ hD1 (by omega)).mono ?_; rintro e w2 ⟨s, p2, rfl, hs, hp2, hD2⟩
    go_wp2_with fail
    go_ret
    exact ⟨s, _, rfl, hs, by omega, hD2⟩
  · refine (good3_c _ _ _ _ _ _ _ hD1 (by omega)).mono ?_; rintro e w2 ⟨s, p2, rfl, hs, hp2, hD2⟩
    go_wp2_with fail
    go_ret
    exact ⟨s, _, rfl, by omega, by omega, hD2⟩
theorem dg_alloc {b : Nat} {a : Option Addr} {l c p : Nat} {w0 w : World} (h : DG b a l c w0 p w) (o : Obj) : DG b a l c w0 p (w.alloc o) := h.out ((Below.refl _ _).alloc (Nat.le_refl _) _)
theorem gb_drew {A B : World} {r : Option Nat} (h : A.grownBy B r) : A.grownBy B.drew r := ⟨h.os, h.tape, h.output, h.size, h.block⟩
theorem gb_alloc {A B : World} {r : Option Nat} (h : A.grownBy B r) (o : Obj) : A.grownBy (B.alloc o) r := grownBy_alloc h o
theorem gb_set {A B : World} {r : Option Nat} {bx i : Nat} (h : A.grownBy B r) (hb : A.heap.size ≤ bx) (v : Value) : A.grownBy (B.setCell ⟨bx, i, none⟩ v) r := ⟨h.os, h.tape, h.output, by simpa [World.setCell] using h.size, fun k hk hkr => (Below.heap_setCell _ _ _ _ (by show k ≠ bx; omega)).trans (h.block k hk hkr)⟩
theorem gb_below {A B C : World} {r : Option Nat} (h : A.grownBy B r) (hb : Below B.heap.size B C) : A.grownBy C r := grownBy_trans h ⟨hb.os, hb.tape, hb.output, hb.size, fun k hk _ => hb.block k hk⟩
theorem box_pick {W0 w4 : World} {o : Obj} {b : Nat} (h : (W0.drew.alloc o).grownBy w4 (some b)) (hne : W0.heap.size ≠ b) : w4.heap[W0.heap.size]? = some o :=
  (h.block W0.heap.size (by rw [World.size_alloc]; exact Nat.lt_succ_self _) (fun e => hne (Option.some.inj e))).trans (alloc_here W0.drew o)
theorem box_go {w4 w5 : World} {o : Obj} (h : Below (w4.alloc o).heap.size (w4.alloc o) w5) : w5.heap[w4.heap.size]? = some o := (h.block w4.heap.size (by rw [World.size_alloc]; exact Nat.lt_succ_self _)).trans (alloc_here w4 o)
theorem dg_set {b bx i : Nat} {a : Option Addr} {l c p : Nat} {w0 w : World} (h : DG b a l c w0 p w) (hbx : w0.heap.size ≤ bx) (hne : bx ≠ b) (v : Value) (hb : b < bx) : DG b a l c w0 p (w.setCell ⟨bx, i, none⟩ v) := by
  have far : ∀ k, k ≠ bx → (w.setCell ⟨bx, i, none⟩ v).heap[k]? = w.heap[k]? := fun k hk => Below.heap_setCell _ _ _ _ hk
  refine ⟨⟨?_, ?_, ?_, ?_, h.dr.hl⟩, ⟨h.gr.os, h.gr.tape, h.gr.output, by simpa [World.setCell] using h.gr.size, fun k hk hkr => (far k (by omega)).trans (h.gr.block k hk hkr)⟩⟩
  · exact (World.cell?_of_block (far b (fun e => hne e.symm))).trans h.dr.c0
  · exact (World.cell?_of_block (far b (fun e => hne e.symm))).trans h.dr.c1
  · exact (World.frozen?_of_block (far b (fun e => hne e.symm))).trans h.dr.f1
  · rcases h.dr.src with h0 | ⟨g, o, ha, hg, hz⟩
    · exact .inl h0
    · refine .inr ⟨g, o, ha, hg, fun j hj => ?_⟩
      obtain ⟨z, h1, h2⟩ := hz j hj
      exact ⟨z, h1, (World.cell?_of_block (far g (by omega))).trans h2⟩
theorem fresh_text (t : Tm) (h : StateOk t) : (textN t).length ≤ 4500 := by
  have := text_len t
  have := h.many
  omega
/-- Behind the region: the box of the state that l4Go has made. -/
structure SomeW (b : Nat) (a : Option Addr) (l c p : Nat) (w0 : World) (T : Tm) (bx : Nat) (z0 z1 : Int) (z2 : ByteArray) (z3 : Option Addr) (z4 z5 : Nat) (W6 : World) : Prop where
  dg : DG b a l c w0 p W6
  box : W6.cell? ⟨bx, 0, none⟩ = some (.int .u8 z0) ∧ W6.cell? ⟨bx, 1, none⟩ = some (.int .i64 z1) ∧ W6.cell? ⟨bx, 2, none⟩ = some (.string z2) ∧ W6.cell? ⟨bx, 3, none⟩ = some (.slice z3 z4 z5)
  rep : Rep (fun g => g < W6.heap.size) W6 T (.agg #[.int .u8 z0, .int .i64 z1, .string z2, .slice z3 z4 z5])
theorem some_late {b : Nat} {a : Option Addr} {l c p : Nat} {w0 w1 w2 Wg w5 : World} {T : Tm} {z0 z1 : Int} {z2 : ByteArray} {z3 : Option Addr} {z4 z5 : Nat} (hD : DG b a l c w0 p w5) (h25 : w2.heap.size ≤ w5.heap.size) (hr : Rep (fun g => New w1 w2 g ∨ New Wg w5 g) w5 T (.agg #[.int .u8 z0, .int .i64 z1, .string z2, .slice z3 z4 z5])) :
    SomeW b a l c p w0 T w5.heap.size z0 z1 z2 z3 z4 z5 (w5.alloc (tmO z0 z1 z2 z3 z4 z5)) := by
  obtain ⟨c0, c1, c2, c3, _⟩ := cells4 (alloc_here w5 (tmO z0 z1 z2 z3 z4 z5))
  have zs : (w5.alloc (tmO z0 z1 z2 z3 z4 z5)).heap.size = w5.heap.size + 1 := by simp
  exact ⟨dg_alloc hD _, ⟨c0, c1, c2, c3⟩, hr.keep (fun g hg => alloc_far _ _ (by rcases hg with h | h; have := h.2; omega; exact h.2)) (fun g hg => by rcases hg with h | h; have := h.2; omega; have := h.2; omega)⟩
theorem some_early {b : Nat} {a : Option Addr} {l c p bx : Nat} {w0 w1 w2 Wg w5 : World} {T : Tm} {z0 z1 : Int} {z2 : ByteArray} {z3 : Option Addr} {z4 z5 : Nat} {u0 u1 u2 u3 : Value} (hD : DG b a l c w0 p w5) (h0 : w0.heap.size ≤ bx) (hb : b < bx) (h2 : w2.heap.size ≤ bx) (hg : bx < Wg.heap.size) (h25 : Wg.heap.size ≤ w5.heap.size) (hr : Rep (fun g => New w1 w2 g ∨ New Wg w5 g) w5 T (.agg #[.int .u8 z0, .int .i64 z1, .string z2, .slice z3 z4 z5]))
    (t0 : w5.cell? ⟨bx, 0, none⟩ = some u0) (t1 : w5.cell? ⟨bx, 1, none⟩ = some u1) (t2 : w5.cell? ⟨bx, 2, none⟩ = some u2) (t3 : w5.cell? ⟨bx, 3, none⟩ = some u3) :
    SomeW b a l c p w0 T bx z0 z1 z2 z3 z4 z5 (set4 w5 bx (.int .u8 z0) (.int .i64 z1) (.string z2) (.slice z3 z4 z5)) := by
  have hc := set4o_here (W := w5) (b := bx) (o := 0) (z0 := .int .u8 z0) (z1 := .int .i64 z1) (z2 := .string z2) (z3 := .slice z3 z4 z5) t0 t1 t2 t3
  refine ⟨dg_set (dg_set (dg_set (dg_set hD h0 (by omega) _ hb) h0 (by omega) _ hb) h0 (by omega) _ hb) h0 (by omega) _ hb, hc, hr.keep (fun g hg' => set4_far _ _ _ _ _ _ g (by rcases hg' with h | h; have := h.2; omega; have := h.1; omega)) (fun g hg' => by rw [set4_size]; rcases hg' with h | h; have := h.2; omega; exact h.2)⟩
theorem rep_far {w1 w2 : World} {t : Tm} {v : Value} (h : Rep (New w1 w2) w2 t v) (o : Obj) : Rep (New w1 w2) (w2.alloc o) t v := h.keep (fun g hg => alloc_far _ _ hg.2) (fun g hg => hg)
set_option maxRecDepth 100000 in
set_option maxHeartbeats 4000000 in
theorem some4_c (b : Nat) (a : Option Addr) (l c p : Nat) (w0 w : World) (hD : DG b a l c w0 p w) (hp : p ≤ 10000) :
    Calls Tryz.prog 31 #[.pointer (some ⟨b, 0, none⟩)] w fun e w' => ∃ (s : Text) (p' : Nat), e = .returned (.string ⟨s.toArray⟩) ∧ s.length ≤ 5000 ∧ p' ≤ p + 5100 ∧ DG b a l c w0 p' w' := by
  go_enter Tryz.func31, Tryz.ntmps31
  go_wp2_with fail
  refine (any3_c _ _ _ _ _ _ _ hD hp).mono ?_; rintro e w1 ⟨s, p1, rfl, hs, hp1, hD1⟩
  have C := fun W => sclosed_c s W (by omega)
  unfold ClosedPost at C
  rcases hc : closedS s with _ | t
  · rw [hc] at C
    clear hc
    go_wp2_with fail
    refine (C _).mono ?_; rintro e w2 ⟨hb2, v, ⟨x0, x1, x2, x3, x4, x5, rfl⟩, rfl, _⟩
    go_wp2_with fail
    go_ret
    exact ⟨s, p1, rfl, hs, by omega, (hD1.out hb2).out ((Below.refl _ _).alloc (Nat.le_refl _) _)⟩
  · rw [hc] at C
    have h := closed_state hc
    clear hc
    go_wp2_with fail
    refine (C _).mono ?_; rintro e w2 ⟨hb2, v, ⟨x0, x1, x2, x3, x4, x5, rfl⟩, rfl, hr2⟩
    go_wp2_with fail
    have hbl := hD1.dr.lt
    have hs2 := hb2.size
    have hW0 := dg_alloc (hD1.out hb2) (tmO x0 x1 x2 x3 x4 x5)
    obtain ⟨q0, q1, q2, q3, _⟩ := cells4 (alloc_here w2 (tmO x0 x1 x2 x3 x4 x5))
    have hr0 := rep_far (hr2 t rfl) (tmO x0 x1 x2 x3 x4 x5)
    have hz0 : (w2.alloc (tmO x0 x1 x2 x3 x4 x5)).heap.size = w2.heap.size + 1 := by simp
    obtain ⟨W0, hWe⟩ : ∃ W0, w2.alloc (tmO x0 x1 x2 x3 x4 x5) = W0 := ⟨_, rfl⟩
    rw [hWe] at hW0 q0 q1 q2 q3 hr0 hz0 ⊢
    have hw10 : w0.heap.size ≤ w1.heap.size := hD1.gr.size
    have HRT := Lib.hid (hr2 t rfl)
    clear hWe hr2 C
    have KP : ∀ W, DG b a l c w0 p1 W → W0.grownBy W (some b) → Calls Tryz.prog 52 #[.pointer (some ⟨b, 0, none⟩), .int .i64 6] W fun e W' => ∃ k : Nat, e = .returned (.int .i64 k) ∧ k < 6 ∧ DG b a l c w0 (p1 + 1) W' ∧ W.grownBy W' (some b) ∧ W0.grownBy W' (some b) := fun W hD hG =>
      (pick_i hD.dr 6 (by omega) (by omega) (by omega)).mono fun e W' ⟨k, h1, h2, h3, h4⟩ => ⟨k, h1, by omega, ⟨h3, grownBy_trans hD.gr h4⟩, h4, grownBy_trans hG h4⟩
    have KG : ∀ W (k : Nat), k < 6 → DG b a l c w0 (p1 + 1) W → W0.grownBy W (some b) → Calls Tryz.prog 50 #[.agg #[.int .u8 x0, .int .i64 x1, .string x2, .slice x3 x4 x5], .int .i64 (k : Int)] W fun e W' => ∃ (z0 z1 : Int) (z2 : ByteArray) (z3 : Option Addr) (z4 z5 : Nat), e = .returned (.tuple #[.agg #[.int .u8 z0, .int .i64 z1, .string z2, .slice z3 z4 z5], .int .i64 ((goT t k).2 : Int)]) ∧ Below W.heap.size W W' ∧ W0.grownBy W' (some b) ∧ DG b a l c w0 (p1 + 1) W' ∧ Rep (fun g => New w1 w2 g ∨ New W W' g) W' (goT t k).1 (.agg #[.int .u8 z0, .int .i64 z1, .string z2, .slice z3 z4 z5]) := fun W k hk hD hG =>
      (sGo_c (New w1 w2) t _ W k (by omega) h (fun g hg => by have := hg.2; have := hG.size; omega) (hr0.keep (fun g hg => hG.block g (by have := hg.2; omega) (fun e => by have h1 := Option.some.inj e; have := hg.1; omega)) (fun g hg => hg))).mono fun e W' ⟨z0, z1, z2, z3, z4, z5, h1, h2, h3⟩ => ⟨z0, z1, z2, z3, z4, z5, h1, h2, gb_below hG h2, hD.out h2, h3⟩
    have hne : W0.heap.size ≠ b := by omega
    have hnb : ∀ i : Nat, some (⟨w2.heap.size, i, none⟩ : Addr).block ≠ some b := fun i e => by have := Option.some.inj e; simp at this; omega
    have g0 : W0.grownBy W0 (some b) := World.grownBy.refl _ _
    have HZ0 := Lib.hid hz0
    clear hz0 hr0
    have LB : ∀ W, W0.grownBy W (some b) → W0.grownBy W (some b) ∧ W.cell? ⟨w2.heap.size, 0, none⟩ = some (.int .u8 x0) ∧ W.cell? ⟨w2.heap.size, 1, none⟩ = some (.int .i64 x1) ∧ W.cell? ⟨w2.heap.size, 2, none⟩ = some (.string x2) ∧ W.cell? ⟨w2.heap.size, 3, none⟩ = some (.slice x3 x4 x5) := fun W hG => ⟨hG, hG.cell q0 (hnb 0), hG.cell q1 (hnb 1), hG.cell q2 (hnb 2), hG.cell q3 (hnb 3)⟩
    go_region_held3 (fun W => W0.grownBy W (some b) ∧ W.cell? ⟨w2.heap.size, 0, none⟩ = some (.int .u8 x0) ∧ W.cell? ⟨w2.heap.size, 1, none⟩ = some (.int .i64 x1) ∧ W.cell? ⟨w2.heap.size, 2, none⟩ = some (.string x2) ∧ W.cell? ⟨w2.heap.size, 3, none⟩ = some (.slice x3 x4 x5)) (first | (refine LB _ ?_; solve | (repeat' (first | assumption | refine gb_drew ?_ | refine gb_alloc ?_ _ | (refine gb_set ?_ ?_ _) | exact Nat.le_refl _ | exact hG4.size | exact hG5.size)))) (first
      | (go_at_call 52; refine (KP _ (by solve | (repeat' (first | assumption | refine DG.drew ?_ | refine dg_alloc ?_ _))) (by solve | (repeat' (first | assumption | refine gb_drew ?_ | refine gb_alloc ?_ _)))).mono ?_; rintro e w4 ⟨k, rfl, hk, hD4, hg4, hG4⟩; (have j0 := hG4.cell q0 (hnb 0)); (have j1 := hG4.cell q1 (hnb 1)); (have j2 := hG4.cell q2 (hnb 2)); (have j3 := hG4.cell q3 (hnb 3)))
      | (go_at_call 50; refine (KG _ k hk (by solve | (repeat' (first | assumption | refine DG.drew ?_ | refine dg_alloc ?_ _))) (by solve | (repeat' (first | assumption | refine gb_drew ?_ | refine gb_alloc ?_ _)))).mono ?_; rintro e w5 ⟨z0, z1, z2, z3, z4, z5, rfl, hb5, hG5, hD5, hr5⟩; (have hy := (hb5.block W0.heap.size (by have := (Array.getElem?_eq_some_iff.1 (box_pick hg4 hne)).1; omega)).trans (box_pick hg4 hne)); obtain ⟨y0, y1, y2, y3, y4, y5, y6, y7⟩ := cells4 hy; (have hEarly := some_early hD5 (by have := HZ0.out; omega) (by have := HZ0.out; omega) (by have := HZ0.out; omega) (Array.getElem?_eq_some_iff.1 (box_pick hg4 hne)).1 hb5.size hr5 y0 y1 y2 y3))
      | (go_at_call 50; refine (KG _ k hk (by solve | (repeat' (first | assumption | refine DG.drew ?_ | refine dg_alloc ?_ _))) (by solve | (repeat' (first | assumption | refine gb_drew ?_ | refine gb_alloc ?_ _)))).mono ?_; rintro e w5 ⟨z0, z1, z2, z3, z4, z5, rfl, hb5, hG5, hD5, hr5⟩; (have hy := box_go hb5); obtain ⟨y0, y1, y2, y3, y4, y5, y6, y7⟩ := cells4 hy; (have hEarly := some_early hD5 (by have := hG4.size; have := HZ0.out; omega) (by have := hG4.size; have := HZ0.out; omega) (by have := hG4.size; have := HZ0.out; omega) (by simp) hb5.size hr5 y0 y1 y2 y3))
      | (go_at_call 50; refine (KG _ k hk (by solve | (repeat' (first | assumption | refine DG.drew ?_ | refine dg_alloc ?_ _))) (by solve | (repeat' (first | assumption | refine gb_drew ?_ | refine gb_alloc ?_ _)))).mono ?_; rintro e w5 ⟨z0, z1, z2, z3, z4, z5, rfl, hb5, hG5, hD5, hr5⟩; (have hLate := some_late hD5 (by have := hG4.size; have := HZ0.out; have := hb5.size; omega) hr5)))
    all_goals
      have hok := goT_ok h k
      first
        | (have P6 := hLate; clear hLate; generalize (w5.alloc (.cells #[.int .u8 z0, .int .i64 z1, .string z2, .slice z3 z4 z5] 54)) = W6 at *)
        | (have P6 : SomeW b a l c (p1 + 1) w0 (goT t k).1 W0.heap.size z0 z1 z2 z3 z4 z5 _ := hEarly; clear hEarly; dsimp only [set4] at P6; generalize ((((w5.setCell ⟨W0.heap.size, 0, none⟩ (.int .u8 z0)).setCell ⟨W0.heap.size, 1, none⟩ (.int .i64 z1)).setCell ⟨W0.heap.size, 2, none⟩ (.string z2)).setCell ⟨W0.heap.size, 3, none⟩ (.slice z3 z4 z5)) = W6 at *)
        | (have P6 := hEarly; clear hEarly; dsimp only [set4] at P6; generalize ((((w5.setCell ⟨w4.heap.size, 0, none⟩ (.int .u8 z0)).setCell ⟨w4.heap.size, 1, none⟩ (.int .i64 z1)).setCell ⟨w4.heap.size, 2, none⟩ (.string z2)).setCell ⟨w4.heap.size, 3, none⟩ (.slice z3 z4 z5)) = W6 at *)
      obtain ⟨hD6, ⟨c0, c1, c2, c3⟩, hr6⟩ := P6
      have KT := stext_c 4000 (goT t k).1 W6.heap.size _ W6 (by have := hok.deep; omega) (Nat.le_refl _) (by have := hok.many; omega) hr6 (Nat.le_refl _) hok.good
      have hft := fresh_text _ hok
      clear KP KG LB hok
      go_wp2_with (go_at_call 37; refine KT.mono ?_; clear KT; rintro e w7 ⟨rfl, hb7⟩)
      go_ret
      exact ⟨textN (goT t k).1, p1 + 1, rfl, by omega, by omega, hD6.out hb7⟩
set_option maxHeartbeats 1000000 in
theorem drawStepOf_c (a : Option Addr) (l c : Nat) (w : World) (h : Src w a l c) :
    Calls Tryz.prog 9 #[.slice a l c] w fun e w' => ∃ s : Text, e = .returned (.string ⟨s.toArray⟩) ∧ s.length ≤ 5000 ∧ Below w.heap.size w w' := by
  go_enter Tryz.func9, Tryz.ntmps9
  go_wp2_with fail
  refine (open_c a l c w h).mono ?_; rintro e w1 ⟨l', rfl, hD⟩
  go_wp2_with fail
  refine (some4_c _ _ _ _ _ _ _ hD (by omega)).mono ?_; rintro e w2 ⟨s, p', rfl, hs, hp, hD2⟩
  go_wp2_with fail
  go_ret
  exact ⟨s, rfl, hs, hD2.below⟩
set_option maxHeartbeats 1000000 in
theorem drawRedexOf_c (a : Option Addr) (l c : Nat) (w : World) (h : Src w a l c) :
    Calls Tryz.prog 30 #[.slice a l c] w fun e w' => ∃ s : Text, e = .returned (.string ⟨s.toArray⟩) ∧ s.length ≤ 5000 ∧ Below w.heap.size w w' := by
  go_enter Tryz.func30, Tryz.ntmps30
  go_wp2_with fail
  refine (open_c a l c w h).mono ?_; rintro e w1 ⟨l', rfl, hD⟩
  go_wp2_with fail
  refine (some4_c _ _ _ _ _ _ _ hD (by omega)).mono ?_; rintro e w2 ⟨s, p', rfl, hs, hp, hD2⟩
  go_wp2_with fail
  go_ret
  exact ⟨s, rfl, hs, hD2.below⟩
set_option maxHeartbeats 1000000 in
theorem drawLastState_c (a : Option Addr) (l c : Nat) (w : World) (h : Src w a l c) :
    Calls Tryz.prog 20 #[.slice a l c] w fun e w' => ∃ s : Text, e = .returned (.string ⟨s.toArray⟩) ∧ s.length ≤ 5000 ∧ Below w.heap.size w w' := by
  go_enter Tryz.func20, Tryz.ntmps20
  go_wp2_with fail
  refine (open_c a l c w h).mono ?_; rintro e w1 ⟨l', rfl, hD⟩
  go_wp2_with fail
  refine (any3_c _ _ _ _ _ _ _ hD (by omega)).mono ?_; rintro e w2 ⟨s, p', rfl, hs, hp, hD2⟩
  go_wp2_with fail
  go_ret
  exact ⟨s, rfl, hs, hD2.below⟩
set_option maxHeartbeats 1000000 in
theorem drawStateAfter_c (a : Option Addr) (l c : Nat) (w : World) (h : Src w a l c) :
    Calls Tryz.prog 17 #[.slice a l c] w fun e w' => ∃ (s : Text) (k : Int), e = .returned (.tuple #[.string ⟨s.toArray⟩, .int .i64 k]) ∧ s.length ≤ 5000 ∧ Below w.heap.size w w' := by
  go_enter Tryz.func17, Tryz.ntmps17
  go_wp2_with fail
  refine (open_c a l c w h).mono ?_; rintro e w1 ⟨l', rfl, hD⟩
  go_wp2_with fail
  refine (any3_c _ _ _ _ _ _ _ hD (by omega)).mono ?_; rintro e w2 ⟨s, p', rfl, hs, hp, hD2⟩
  go_wp2_with fail
  refine (num_v hD2 [1, 2, 0, 3, 5, 8, 20, 300, 301, -1] _ (by omega) (by decide) (by decide)).mono ?_; rintro e w3 ⟨k3, hk3, rfl, hD3⟩
  clear hk3
  go_wp2_with fail
  go_ret2
  exact ⟨s, k3, rfl, hs, hD3.below⟩
set_option maxHeartbeats 2000000 in
theorem drawIsStuck_c (a : Option Addr) (l c : Nat) (w : World) (h : Src w a l c) :
    Calls Tryz.prog 25 #[.slice a l c] w fun e w' => ∃ s : Text, e = .returned (.string ⟨s.toArray⟩) ∧ s.length ≤ 5000 ∧ Below w.heap.size w w' := by
  go_enter Tryz.func25, Tryz.ntmps25
  go_wp2_with fail
  refine (open_c a l c w h).mono ?_; rintro e w1 ⟨l', rfl, hD⟩
  go_wp2_with fail
  refine (some4_c _ _ _ _ _ _ _ hD (by omega)).mono ?_; rintro e w2 ⟨s, p', rfl, hs, hp, hD2⟩
  go_wp2_with fail
  refine (pick_g hD2 _ (by omega) (by omega) (by omega)).mono ?_; rintro e w3 ⟨k3, rfl, hk3, hD3⟩
  by_cases h0 : k3 = 0
  · subst h0
    go_wp2_with fail
    refine (any3_c _ _ _ _ _ _ _ hD3 (by omega)).mono ?_; rintro e w4 ⟨u, p4, rfl, hu, hp4, hD4⟩
    have K := sLast_c u w4 (by omega)
    have F : ∀ p, runsO u = some p → (textN p.1).length ≤ 4500 := fun p hp => fresh_text p.1 (runsO_ok hp)
    rcases ho : runsO u with _ | q
    · rw [ho] at K
      simp only [lsV] at K
      clear F ho
      go_wp2_with fail
      refine K.mono ?_; rintro e w5 ⟨rfl, hb5⟩
      go_wp2_with fail
      go_ret
      exact ⟨[], rfl, by simp, (hD4.out hb5).below⟩
    · rw [ho] at K
      have hl := F q ho
      simp only [lsV] at K
      clear F ho
      go_wp2_with fail
      refine K.mono ?_; rintro e w5 ⟨rfl, hb5⟩
      go_wp2_with fail
      go_ret
      exact ⟨textN q.1, rfl, by omega, (hD4.out hb5).below⟩
  · have h1 : ¬ (k3 : Int) = 0 := by omega
    go_wp2_with fail
    go_ret
    exact ⟨s, rfl, hs, hD3.below⟩
set_option maxHeartbeats 2000000 in
theorem drawStateValid_c (a : Option Addr) (l c : Nat) (w : World) (h : Src w a l c) :
    Calls Tryz.prog 26 #[.slice a l c] w fun e w' => ∃ s : Text, e = .returned (.string ⟨s.toArray⟩) ∧ s.length ≤ 5000 ∧ Below w.heap.size w w' := by
  go_enter Tryz.func26, Tryz.ntmps26
  go_wp2_with fail
  refine (open_c a l c w h).mono ?_; rintro e w1 ⟨l', rfl, hD⟩
  go_wp2_with fail
  refine (pick_g hD _ (by omega) (by omega) (by omega)).mono ?_; rintro e w2 ⟨k2, rfl, hk2, hD2⟩
  by_cases h0 : k2 = 0
  · subst h0
    go_wp2_with fail
    refine (num_v hD2 [749, 750, 60, 30] _ (by omega) (by decide) (by decide)).mono ?_; rintro e w3 ⟨k3, hk3, rfl, hD3⟩
    have hk3 : 0 ≤ k3 ∧ k3 ≤ 750 := by simp at hk3; omega
    go_wp2_with fail
    refine (many_g hD3 ⟨#[43, 49]⟩ k3.toNat k3 (by omega) (by show 2 * _ ≤ _; omega) (by omega)).mono ?_; rintro e w4 ⟨x, rfl, hx, hD4⟩
    have q1 : ¬ 9223372036854775807 < x.size + 1 := by omega
    go_wp2_with fail
    go_ret
    obtain ⟨⟨x⟩⟩ := x
    rw [show (⟨⟨x⟩⟩ : ByteArray) = ⟨x.toArray⟩ from rfl, size_data] at hx
    exact ⟨x ++ [49], by rw [← str_app2]; rfl, by simp; omega, hD4.below⟩
  · have h1 : ¬ (k2 : Int) = 0 := by omega
    go_wp2_with fail
    refine (some4_c _ _ _ _ _ _ _ hD2 (by omega)).mono ?_; rintro e w3 ⟨s, p', rfl, hs, hp, hD3⟩
    go_wp2_with fail
    go_ret
    exact ⟨s, rfl, hs, hD3.below⟩
end Go.Proofs.YtefmmgccdpfnaaaGreatDoor
