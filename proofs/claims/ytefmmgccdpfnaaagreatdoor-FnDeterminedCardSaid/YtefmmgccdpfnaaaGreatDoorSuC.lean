import Derived.Test.YtefmmgccdpfnaaaGreatDoorMSa
/- The specification's l4Call: a function that calls itself. Written by genSuC.py. -/
namespace Go.Proofs.YtefmmgccdpfnaaaGreatDoor
open Go.RowKit
open Ff
set_option linter.unusedVariables false
attribute [local irreducible] Calls

/-- Behind the first putting. -/
structure Mid7 (S : Nat → Prop) (w W0 V : World) (R1 u : Tm) (z0 z1 : Int) (z2 : ByteArray) (z3 : Option Addr) (z4 z5 : Nat) (y0 y1 : Int) (y2 : ByteArray) (y3 : Option Addr) (y4 y5 : Nat) (o : Obj) : Prop where
  below : Below w.heap.size w V
  size : W0.heap.size ≤ V.heap.size
  low : ∀ g, (S g ∨ (W0.heap.size ≤ g ∧ g < V.heap.size)) → g < V.heap.size
  box : V.cell? ⟨w.heap.size + 1 + 1 + 1, 0, none⟩ = some (.int .u8 z0) ∧ V.cell? ⟨w.heap.size + 1 + 1 + 1, 1, none⟩ = some (.int .i64 z1) ∧ V.cell? ⟨w.heap.size + 1 + 1 + 1, 2, none⟩ = some (.string z2) ∧ V.cell? ⟨w.heap.size + 1 + 1 + 1, 3, none⟩ = some (.slice z3 z4 z5)
  x0 : V.heap[w.heap.size]? = some o
  x1 : V.heap[w.heap.size + 1]? = some (tmO y0 y1 y2 y3 y4 y5)
  x2 : V.heap[w.heap.size + 1 + 1]? = some (tmO 0 0 ⟨#[]⟩ none 0 0)
  rep : Rep (fun g => S g ∨ (W0.heap.size ≤ g ∧ g < V.heap.size)) V R1 (.agg #[.int .u8 z0, .int .i64 z1, .string z2, .slice z3 z4 z5])
  arg : Rep (fun g => S g ∨ (W0.heap.size ≤ g ∧ g < V.heap.size)) V u (.agg #[.int .u8 y0, .int .i64 y1, .string y2, .slice y3 y4 y5])
theorem mid_of {S : Nat → Prop} {w W0 W6 : World} {R1 u : Tm} {z0 z1 : Int} {z2 : ByteArray} {z3 : Option Addr} {z4 z5 : Nat} {y0 y1 : Int} {y2 : ByteArray} {y3 : Option Addr} {y4 y5 : Nat} {o : Obj} {a0 a1 : Int} {a2 : ByteArray} {a3 : Option Addr} {a4 a5 : Nat}
    (hS : ∀ g, S g → g < w.heap.size) (hz0 : W0.heap.size = w.heap.size + 1 + 1 + 1 + 1) (bw : w.heap.size ≤ W0.heap.size) (z6 : W0.heap.size ≤ W6.heap.size) (B : Below w.heap.size w W6)
    (X0 : W6.heap[w.heap.size]? = some o) (X1 : W6.heap[w.heap.size + 1]? = some (tmO y0 y1 y2 y3 y4 y5)) (X2 : W6.heap[w.heap.size + 1 + 1]? = some (tmO 0 0 ⟨#[]⟩ none 0 0)) (X3 : W6.heap[w.heap.size + 1 + 1 + 1]? = some (tmO a0 a1 a2 a3 a4 a5))
    (r6 : Rep (fun g => S g ∨ (W0.heap.size ≤ g ∧ g < W6.heap.size)) W6 R1 (.agg #[.int .u8 z0, .int .i64 z1, .string z2, .slice z3 z4 z5])) (ry : Rep S w u (.agg #[.int .u8 y0, .int .i64 y1, .string y2, .slice y3 y4 y5])) :
    Mid7 S w W0 (set4 W6 (w.heap.size + 1 + 1 + 1) (.int .u8 z0) (.int .i64 z1) (.string z2) (.slice z3 z4 z5)) R1 u z0 z1 z2 z3 z4 z5 y0 y1 y2 y3 y4 y5 o := by
  have hsz : (set4 W6 (w.heap.size + 1 + 1 + 1) (.int .u8 z0) (.int .i64 z1) (.string z2) (.slice z3 z4 z5)).heap.size = W6.heap.size := set4_size _ _ _ _ _ _
  have far : ∀ g, g ≠ w.heap.size + 1 + 1 + 1 → (set4 W6 (w.heap.size + 1 + 1 + 1) (.int .u8 z0) (.int .i64 z1) (.string z2) (.slice z3 z4 z5)).heap[g]? = W6.heap[g]? := fun g h => set4_far _ _ _ _ _ _ g h
  obtain ⟨b0, b1, b2, b3, _⟩ := cells4 (set4_here X3 (.int .u8 z0) (.int .i64 z1) (.string z2) (.slice z3 z4 z5))
  have bel := set4_below B (b := w.heap.size + 1 + 1 + 1) (by omega) (.int .u8 z0) (.int .i64 z1) (.string z2) (.slice z3 z4 z5)
  generalize (set4 W6 (w.heap.size + 1 + 1 + 1) (.int .u8 z0) (.int .i64 z1) (.string z2) (.slice z3 z4 z5)) = V at *
  exact ⟨bel, by omega, fun g hg => by rcases hg with h | h; have := hS g h; omega; exact h.2, ⟨b0, b1, b2, b3⟩, (far _ (by omega)).trans X0, (far _ (by omega)).trans X1, (far _ (by omega)).trans X2,
    r6.keep (fun g hg => far g (by rcases hg with h | h; have := hS g h; omega; omega)) (fun g hg => hg.imp id (fun h => ⟨h.1, by have := h.2; omega⟩)),
    ry.keep (fun g hg => (far g (by have := hS g hg; omega)).trans (B.block g (hS g hg))) (fun g hg => .inl hg)⟩
theorem mid_end {S : Nat → Prop} {w W0 V0 W9 w7 : World} {R : Tm} {z0 z1 : Int} {z2 : ByteArray} {z3 : Option Addr} {z4 z5 : Nat} (hS : ∀ g, S g → g < w.heap.size) (hs0 : W0.heap.size ≤ V0.heap.size) (hz0 : W0.heap.size = w.heap.size + 1 + 1 + 1 + 1) (hlt : w.heap.size + 1 + 1 < W9.heap.size) (z6 : V0.heap.size ≤ W9.heap.size) (z7 : W9.heap.size ≤ w7.heap.size) (hb7 : Below W9.heap.size W9 w7)
    (r6 : Rep (fun g => (S g ∨ (W0.heap.size ≤ g ∧ g < V0.heap.size)) ∨ (V0.heap.size ≤ g ∧ g < W9.heap.size)) W9 R (.agg #[.int .u8 z0, .int .i64 z1, .string z2, .slice z3 z4 z5])) :
    Rep (fun g => S g ∨ New w (set4 w7 (w.heap.size + 1 + 1) (.int .u8 z0) (.int .i64 z1) (.string z2) (.slice z3 z4 z5)) g) (set4 w7 (w.heap.size + 1 + 1) (.int .u8 z0) (.int .i64 z1) (.string z2) (.slice z3 z4 z5)) R (.agg #[.int .u8 z0, .int .i64 z1, .string z2, .slice z3 z4 z5]) := by
  refine r6.keep (fun g hg => (set4_far _ _ _ _ _ _ g ?_).trans (hb7.block g ?_)) (fun g hg => ?_)
  · rcases hg with (h | h) | h
    · have := hS g h; omega
    · omega
    · omega
  · show g < W9.heap.size
    rcases hg with (h | h) | h
    · have := hS g h; omega
    · omega
    · omega
  · rcases hg with (h | h) | h
    · exact .inl h
    · exact .inr ⟨by omega, by rw [set4_size]; omega⟩
    · exact .inr ⟨by omega, by rw [set4_size]; omega⟩
set_option maxRecDepth 100000 in
set_option maxHeartbeats 8000000 in
theorem call_fix (S : Nat → Prop) (f x : UInt8) (b u : Tm) (vf vy : Value) (w : World) (gF : (Tm.fix f x b).good) (gu : u.good) (hd : b.depth ≤ 1500) (hpb : (parts b).length ≤ 1500) (hud : u.depth ≤ 1500) (hzF : sfree (.fix f x b) = []) (hz : sfree u = []) (hS : ∀ g, S g → g < w.heap.size) (hr : Rep S w (.fix f x b) vf) (hry : Rep S w u vy) :
    Calls Tryz.prog 88 #[vf, vy] w (RuleP S w (.app (.fix f x b) u)) := by
  obtain ⟨y0, y1, y2, y3, y4, y5, rfl⟩ := hry.junk
  have gb : b.good := gF.2.2.2
  have hR := hr
  cases hr with
  | mk _ g cap c hgS hc hkr hcap =>
    have hgw := hS g hgS
    have hR' : Rep S w (.fix f x b) (.agg #[.int .u8 64, .int .i64 0, .string ⟨#[f, x]⟩, .slice (some ⟨g, 0, none⟩) 1 cap]) := hR
    clear hR
    have r0 := hkr 0 b rfl
    obtain ⟨a0, a1, a2, a3, a4, a5, ea⟩ := r0.junk
    rw [ea] at r0
    unfold four at ea
    simp only [Value.agg.injEq, Array.mk.injEq, List.cons.injEq, and_true] at ea
    obtain ⟨e00, e01, e02, e03⟩ := ea
    have m0 : w.cell? ⟨g, 0, none⟩ = some (.int .u8 a0) := (hc 0 (by simp [Tm.kids])).trans (congrArg some e00)
    have m1 : w.cell? ⟨g, 1, none⟩ = some (.int .i64 a1) := (hc 1 (by simp [Tm.kids])).trans (congrArg some e01)
    have m2 : w.cell? ⟨g, 2, none⟩ = some (.string a2) := (hc 2 (by simp [Tm.kids])).trans (congrArg some e02)
    have m3 : w.cell? ⟨g, 3, none⟩ = some (.slice a3 a4 a5) := (hc 3 (by simp [Tm.kids])).trans (congrArg some e03)
    have M0 : ∀ o1 o2 o3 : Obj, (((w.alloc o1).alloc o2).alloc o3).cell? ⟨g, 0, none⟩ = some (.int .u8 a0) := fun o1 o2 o3 => ((below_three w o1 o2 o3).cell (p := ⟨g, 0, none⟩) hgw).trans m0
    have M1 : ∀ o1 o2 o3 : Obj, (((w.alloc o1).alloc o2).alloc o3).cell? ⟨g, 1, none⟩ = some (.int .i64 a1) := fun o1 o2 o3 => ((below_three w o1 o2 o3).cell (p := ⟨g, 1, none⟩) hgw).trans m1
    have M2 : ∀ o1 o2 o3 : Obj, (((w.alloc o1).alloc o2).alloc o3).cell? ⟨g, 2, none⟩ = some (.string a2) := fun o1 o2 o3 => ((below_three w o1 o2 o3).cell (p := ⟨g, 2, none⟩) hgw).trans m2
    have M3 : ∀ o1 o2 o3 : Obj, (((w.alloc o1).alloc o2).alloc o3).cell? ⟨g, 3, none⟩ = some (.slice a3 a4 a5) := fun o1 o2 o3 => ((below_three w o1 o2 o3).cell (p := ⟨g, 3, none⟩) hgw).trans m3
    have hc3 : 1 ≤ cap := hcap
    have KS : ∀ W, Below w.heap.size w W → Calls Tryz.prog 86 #[.agg #[.int .u8 a0, .int .i64 a1, .string a2, .slice a3 a4 a5], .string ⟨#[f]⟩, .agg #[.int .u8 64, .int .i64 0, .string ⟨#[f, x]⟩, .slice (some ⟨g, 0, none⟩) 1 cap]] W fun e W' =>
        ∃ (z0 z1 : Int) (z2 : ByteArray) (z3 : Option Addr) (z4 z5 : Nat), e = .returned (.tuple #[.agg #[.int .u8 z0, .int .i64 z1, .string z2, .slice z3 z4 z5], .bool true]) ∧ Below W.heap.size W W' ∧ Rep (fun g => S g ∨ New W W' g) W' (subS b.depth f (.fix f x b) b).1 (.agg #[.int .u8 z0, .int .i64 z1, .string z2, .slice z3 z4 z5]) := fun W hW =>
      (subst_c b.depth S f b (.fix f x b) _ _ W (Nat.le_refl _) (by omega) gb gF (by simp only [Tm.depth]; omega) (by omega) gF.1 (fun g hg => by have := hS g hg; have := hW.size; omega) (r0.keep (fun g hg => hW.block g (hS g hg)) (fun g hg => hg)) (hR'.keep (fun g hg => hW.block g (hS g hg)) (fun g hg => hg))).mono fun e W' h => by
        obtain ⟨q, he, hb, hr⟩ := h
        obtain ⟨z0, z1, z2, z3, z4, z5, rfl⟩ := hr.junk
        rw [subS_closed _ _ _ _ hzF] at he
        exact ⟨z0, z1, z2, z3, z4, z5, he, hb, hr⟩
    have G1 := subS_grown (u := .fix f x b) gF b.depth f b
    have es : ruleT (.app (.fix f x b) u) = some ((subS (subS b.depth f (.fix f x b) b).1.depth x u (subS b.depth f (.fix f x b) b).1).1, [115, 101, 108, 102]) := rfl
    unfold RuleP
    rw [es]
    clear es
    have g1 := G1.good gb
    have d1 : (subS b.depth f (.fix f x b) b).1.depth ≤ 4000 := by have := G1.deep; simp only [Tm.depth] at this; omega
    have p1 : (parts (subS b.depth f (.fix f x b) b).1).length ≤ 100000000 := by
      have := G1.many
      have h2 : (parts b).length * (parts (Tm.fix f x b)).length ≤ 1500 * 1501 := Nat.mul_le_mul hpb (by simp only [parts, List.length_cons]; omega)
      omega
    clear G1
    generalize (subS b.depth f (.fix f x b) b).1 = R1 at *
    have KT : ∀ (S2 : Nat → Prop) (z0 z1 : Int) (z2 : ByteArray) (z3 : Option Addr) (z4 z5 : Nat) (V W : World), Below V.heap.size V W → (∀ g, S2 g → g < V.heap.size) → Rep S2 V R1 (.agg #[.int .u8 z0, .int .i64 z1, .string z2, .slice z3 z4 z5]) → Rep S2 V u (.agg #[.int .u8 y0, .int .i64 y1, .string y2, .slice y3 y4 y5]) → Calls Tryz.prog 86 #[.agg #[.int .u8 z0, .int .i64 z1, .string z2, .slice z3 z4 z5], .string ⟨#[x]⟩, .agg #[.int .u8 y0, .int .i64 y1, .string y2, .slice y3 y4 y5]] W fun e W' =>
        ∃ (v0 v1 : Int) (v2 : ByteArray) (v3 : Option Addr) (v4 v5 : Nat), e = .returned (.tuple #[.agg #[.int .u8 v0, .int .i64 v1, .string v2, .slice v3 v4 v5], .bool true]) ∧ Below W.heap.size W W' ∧ Below V.heap.size V W' ∧ Rep (fun g => S2 g ∨ New W W' g) W' (subS R1.depth x u R1).1 (.agg #[.int .u8 v0, .int .i64 v1, .string v2, .slice v3 v4 v5]) := fun S2 z0 z1 z2 z3 z4 z5 V W hW hS2 h1 h2 =>
      (subst_c R1.depth S2 x R1 u _ _ W (Nat.le_refl _) d1 g1 gu (by omega) p1 gF.2.1 (fun g hg => by have := hS2 g hg; have := hW.size; omega) (h1.keep (fun g hg => hW.block g (hS2 g hg)) (fun g hg => hg)) (h2.keep (fun g hg => hW.block g (hS2 g hg)) (fun g hg => hg))).mono fun e W' h => by
        obtain ⟨q, he, hb, hr⟩ := h
        obtain ⟨v0, v1, v2, v3, v4, v5, rfl⟩ := hr.junk
        rw [subS_closed _ _ _ _ hz] at he
        exact ⟨v0, v1, v2, v3, v4, v5, he, hb, hW.trans (hb.mono hW.size), hr⟩
    generalize (subS R1.depth x u R1).1 = R at *
    have HRY := Lib.hid hry
    clear hc hkr r0 hry e00 e01 e02 e03 hcap gu gb gF hd hpb hud hzF hz g1 d1 p1 hR'
    show Calls Tryz.prog 88 #[.agg #[.int .u8 64, .int .i64 0, .string ⟨#[f, x]⟩, .slice (some ⟨g, 0, none⟩) 1 cap], .agg #[.int .u8 y0, .int .i64 y1, .string y2, .slice y3 y4 y5]] w _
    go_enter Tryz.func88, Tryz.ntmps88
    go_wp2_with fail
    obtain ⟨W0, hW0⟩ : ∃ W0, (((w.alloc (tmO 64 0 ⟨#[f, x]⟩ (some ⟨g, 0, none⟩) 1 cap)).alloc (tmO y0 y1 y2 y3 y4 y5)).alloc (tmO 0 0 ⟨#[]⟩ none 0 0)).alloc (tmO a0 a1 a2 a3 a4 a5) = W0 := ⟨_, rfl⟩
    rw [hW0]
    have B0 : Below w.heap.size w W0 := by rw [← hW0]; exact below_four w _ _ _ _
    have hz0 : W0.heap.size = w.heap.size + 1 + 1 + 1 + 1 := by rw [← hW0]; simp
    have p0 : W0.heap[w.heap.size]? = some (tmO 64 0 ⟨#[f, x]⟩ (some ⟨g, 0, none⟩) 1 cap) := by rw [← hW0, alloc_far _ _ (by first | (simp; done) | (simp; omega)), alloc_far _ _ (by first | (simp; done) | (simp; omega)), alloc_far _ _ (by first | (simp; done) | (simp; omega))]; exact alloc_here _ _
    have p1 : W0.heap[w.heap.size + 1]? = some (tmO y0 y1 y2 y3 y4 y5) := by
      rw [← hW0, alloc_far _ _ (by first | (simp; done) | (simp; omega)), alloc_far _ _ (by first | (simp; done) | (simp; omega))]
      have h := alloc_here (w.alloc (tmO 64 0 ⟨#[f, x]⟩ (some ⟨g, 0, none⟩) 1 cap)) (tmO y0 y1 y2 y3 y4 y5)
      rwa [World.size_alloc] at h
    have p2 : W0.heap[w.heap.size + 1 + 1]? = some (tmO 0 0 ⟨#[]⟩ none 0 0) := by
      rw [← hW0, alloc_far _ _ (by first | (simp; done) | (simp; omega))]
      have h := alloc_here ((w.alloc (tmO 64 0 ⟨#[f, x]⟩ (some ⟨g, 0, none⟩) 1 cap)).alloc (tmO y0 y1 y2 y3 y4 y5)) (tmO 0 0 ⟨#[]⟩ none 0 0)
      rwa [World.size_alloc, World.size_alloc] at h
    have p3 : W0.heap[w.heap.size + 1 + 1 + 1]? = some (tmO a0 a1 a2 a3 a4 a5) := by
      rw [← hW0]
      have h := alloc_here (((w.alloc (tmO 64 0 ⟨#[f, x]⟩ (some ⟨g, 0, none⟩) 1 cap)).alloc (tmO y0 y1 y2 y3 y4 y5)).alloc (tmO 0 0 ⟨#[]⟩ none 0 0)) (tmO a0 a1 a2 a3 a4 a5)
      rwa [World.size_alloc, World.size_alloc, World.size_alloc] at h
    clear hW0 M0 M1 M2 M3 m0 m1 m2 m3
    obtain ⟨q00, q01, q02, q03, _⟩ := cells4 p0
    obtain ⟨q30, q31, q32, q33, _⟩ := cells4 p3
    have LB5 : ∀ W, Below W0.heap.size W0 W → Below W0.heap.size W0 W ∧ W.cell? ⟨w.heap.size, 0, none⟩ = some (.int .u8 64) ∧ W.cell? ⟨w.heap.size, 1, none⟩ = some (.int .i64 0) ∧ W.cell? ⟨w.heap.size, 2, none⟩ = some (.string ⟨#[f, x]⟩) ∧ W.cell? ⟨w.heap.size, 3, none⟩ = some (.slice (some ⟨g, 0, none⟩) 1 cap) ∧ W.cell? ⟨w.heap.size + 1 + 1 + 1, 0, none⟩ = some (.int .u8 a0) ∧ W.cell? ⟨w.heap.size + 1 + 1 + 1, 1, none⟩ = some (.int .i64 a1) ∧ W.cell? ⟨w.heap.size + 1 + 1 + 1, 2, none⟩ = some (.string a2) ∧ W.cell? ⟨w.heap.size + 1 + 1 + 1, 3, none⟩ = some (.slice a3 a4 a5) := fun W hW => ⟨hW, (hW.cell (p := ⟨w.heap.size, 0, none⟩) (by show w.heap.size < _; omega)).trans q00, (hW.cell (p := ⟨w.heap.size, 1, none⟩) (by show w.heap.size < _; omega)).trans q01, (hW.cell (p := ⟨w.heap.size, 2, none⟩) (by show w.heap.size < _; omega)).trans q02, (hW.cell (p := ⟨w.heap.size, 3, none⟩) (by show w.heap.size < _; omega)).trans q03, (hW.cell (p := ⟨w.heap.size + 1 + 1 + 1, 0, none⟩) (by show w.heap.size + 1 + 1 + 1 < _; omega)).trans q30, (hW.cell (p := ⟨w.heap.size + 1 + 1 + 1, 1, none⟩) (by show w.heap.size + 1 + 1 + 1 < _; omega)).trans q31, (hW.cell (p := ⟨w.heap.size + 1 + 1 + 1, 2, none⟩) (by show w.heap.size + 1 + 1 + 1 < _; omega)).trans q32, (hW.cell (p := ⟨w.heap.size + 1 + 1 + 1, 3, none⟩) (by show w.heap.size + 1 + 1 + 1 < _; omega)).trans q33⟩
    have KS2 : ∀ W, Below W0.heap.size W0 W → Calls Tryz.prog 86 #[.agg #[.int .u8 a0, .int .i64 a1, .string a2, .slice a3 a4 a5], .string ⟨#[f]⟩, .agg #[.int .u8 64, .int .i64 0, .string ⟨#[f, x]⟩, .slice (some ⟨g, 0, none⟩) 1 cap]] W fun e W' =>
        ∃ (z0 z1 : Int) (z2 : ByteArray) (z3 : Option Addr) (z4 z5 : Nat), e = .returned (.tuple #[.agg #[.int .u8 z0, .int .i64 z1, .string z2, .slice z3 z4 z5], .bool true]) ∧ Below W.heap.size W W' ∧ Below W0.heap.size W0 W' ∧ Rep (fun g => S g ∨ New W W' g) W' R1 (.agg #[.int .u8 z0, .int .i64 z1, .string z2, .slice z3 z4 z5]) := fun W hW =>
      (KS W (B0.trans (hW.mono B0.size))).mono fun e W' ⟨z0, z1, z2, z3, z4, z5, h1, h2, h3⟩ => ⟨z0, z1, z2, z3, z4, z5, h1, h2, hW.trans (h2.mono hW.size), h3⟩
    have HP0 := Lib.hid p0
    have HP1 := Lib.hid p1
    have HP2 := Lib.hid p2
    have HP3 := Lib.hid p3
    have HZ0 := Lib.hid hz0
    clear hz0
    clear q00 q01 q02 q03 q30 q31 q32 q33 p0 p1 p2 p3 KS
    go_region_held3 (fun W => Below W0.heap.size W0 W ∧ W.cell? ⟨w.heap.size, 0, none⟩ = some (.int .u8 64) ∧ W.cell? ⟨w.heap.size, 1, none⟩ = some (.int .i64 0) ∧ W.cell? ⟨w.heap.size, 2, none⟩ = some (.string ⟨#[f, x]⟩) ∧ W.cell? ⟨w.heap.size, 3, none⟩ = some (.slice (some ⟨g, 0, none⟩) 1 cap) ∧ W.cell? ⟨w.heap.size + 1 + 1 + 1, 0, none⟩ = some (.int .u8 a0) ∧ W.cell? ⟨w.heap.size + 1 + 1 + 1, 1, none⟩ = some (.int .i64 a1) ∧ W.cell? ⟨w.heap.size + 1 + 1 + 1, 2, none⟩ = some (.string a2) ∧ W.cell? ⟨w.heap.size + 1 + 1 + 1, 3, none⟩ = some (.slice a3 a4 a5)) (first | (refine LB5 _ ?_; solve | (repeat' (first | assumption | exact Below.refl _ _ | refine Below.drew ?_ | (refine Below.alloc ?_ ?_ _) | (refine Below.setCell (p := ⟨_, _, none⟩) ?_ ?_ _) | exact hB5.size | exact Nat.le_refl _ | (show _ ≤ _; omega) | omega)))) (first | (go_at_call 86; refine (KS2 _ ?_).mono ?_; (solve | (repeat' (first | assumption | exact Below.refl _ _ | refine Below.drew ?_ | (refine Below.alloc ?_ ?_ _) | exact Nat.le_refl _ | omega))); rintro e w5 ⟨z0, z1, z2, z3, z4, z5, rfl, hb5, hB5, hr5⟩; (have hbx := box_here hb5); obtain ⟨t0, t1, t2, t3, t4, t5, t6, t7⟩ := cells4 hbx; clear hbx) | (go_at_call 86; refine (KS2 _ ?_).mono ?_; (solve | (repeat' (first | assumption | exact Below.refl _ _ | refine Below.drew ?_ | (refine Below.alloc ?_ ?_ _) | exact Nat.le_refl _ | omega))); rintro e w5 ⟨z0, z1, z2, z3, z4, z5, rfl, hb5, hB5, hr5⟩; (have hb6 := hb5)))
    all_goals
      have P6 := by first | exact put_late hS B0.size hB5 hr5 | exact put_early hS B0.size hB5 hr5 t0 t1 t2 t3
      have HS := Lib.hid hS
      have BW := B0.size
      first
        | (have hh : PutW S w W0 (w5.alloc (tmO z0 z1 z2 z3 z4 z5)) R1 w5.heap.size z0 z1 z2 z3 z4 z5 := P6; clear hh; generalize (w5.alloc (.cells #[.int .u8 z0, .int .i64 z1, .string z2, .slice z3 z4 z5] 54)) = W6 at *)
        | (dsimp only [set4] at P6; generalize ((((w5.setCell ⟨W0.heap.size, 0, none⟩ (.int .u8 z0)).setCell ⟨W0.heap.size, 1, none⟩ (.int .i64 z1)).setCell ⟨W0.heap.size, 2, none⟩ (.string z2)).setCell ⟨W0.heap.size, 3, none⟩ (.slice z3 z4 z5)) = W6 at *)
      obtain ⟨B6, ⟨c0, c1, c2, c3⟩, r6⟩ := P6
      have z6 := B6.size
      have X0 := (B6.block w.heap.size (by have := HZ0.out; omega)).trans HP0.out
      have X1 := (B6.block (w.heap.size + 1) (by have := HZ0.out; omega)).trans HP1.out
      have X2 := (B6.block (w.heap.size + 1 + 1) (by have := HZ0.out; omega)).trans HP2.out
      have X3 := (B6.block (w.heap.size + 1 + 1 + 1) (by have := HZ0.out; omega)).trans HP3.out
      have R6 := Lib.hid r6
      have B06 := B0.trans (B6.mono B0.size)
      obtain ⟨d0, d1, d2, d3, f0, f1, f2, f3⟩ := cells4 X3
      clear r6 hr5 hb5 hB5 KS2 LB5 hS B0 B6
      try clear t0 t1 t2 t3 t4 t5 t6 t7
      try clear hb6
      go_wp2_with fail
      have A6 : Mid7 S w W0 (set4 W6 (w.heap.size + 1 + 1 + 1) (.int .u8 z0) (.int .i64 z1) (.string z2) (.slice z3 z4 z5)) R1 u z0 z1 z2 z3 z4 z5 y0 y1 y2 y3 y4 y5 (tmO 64 0 ⟨#[f, x]⟩ (some ⟨g, 0, none⟩) 1 cap) := mid_of HS.out HZ0.out BW z6 B06 X0 X1 X2 X3 R6.out HRY.out
      dsimp only [set4] at A6
      generalize ((((W6.setCell ⟨w.heap.size + 1 + 1 + 1, 0, none⟩ (.int .u8 z0)).setCell ⟨w.heap.size + 1 + 1 + 1, 1, none⟩ (.int .i64 z1)).setCell ⟨w.heap.size + 1 + 1 + 1, 2, none⟩ (.string z2)).setCell ⟨w.heap.size + 1 + 1 + 1, 3, none⟩ (.slice z3 z4 z5)) = V0 at *
      obtain ⟨E0, hs0, hs2, ⟨j30, j31, j32, j33⟩, x0, x1, x2, rr, ry⟩ := A6
      obtain ⟨j00, j01, j02, j03, _⟩ := cells4 x0
      obtain ⟨j10, j11, j12, j13, _⟩ := cells4 x1
      have hVz : w.heap.size + 1 + 1 + 1 + 1 ≤ V0.heap.size := by have := HZ0.out; omega
      have LB8 : ∀ W, Below V0.heap.size V0 W → Below V0.heap.size V0 W ∧ W.cell? ⟨w.heap.size, 2, none⟩ = some (.string ⟨#[f, x]⟩) ∧ W.cell? ⟨w.heap.size + 1, 0, none⟩ = some (.int .u8 y0) ∧ W.cell? ⟨w.heap.size + 1, 1, none⟩ = some (.int .i64 y1) ∧ W.cell? ⟨w.heap.size + 1, 2, none⟩ = some (.string y2) ∧ W.cell? ⟨w.heap.size + 1, 3, none⟩ = some (.slice y3 y4 y5) ∧ W.cell? ⟨w.heap.size + 1 + 1 + 1, 0, none⟩ = some (.int .u8 z0) ∧ W.cell? ⟨w.heap.size + 1 + 1 + 1, 1, none⟩ = some (.int .i64 z1) ∧ W.cell? ⟨w.heap.size + 1 + 1 + 1, 2, none⟩ = some (.string z2) ∧ W.cell? ⟨w.heap.size + 1 + 1 + 1, 3, none⟩ = some (.slice z3 z4 z5) := fun W hW => ⟨hW, (hW.cell (p := ⟨w.heap.size, 2, none⟩) (by show w.heap.size < _; omega)).trans j02, (hW.cell (p := ⟨w.heap.size + 1, 0, none⟩) (by show w.heap.size + 1 < _; omega)).trans j10, (hW.cell (p := ⟨w.heap.size + 1, 1, none⟩) (by show w.heap.size + 1 < _; omega)).trans j11, (hW.cell (p := ⟨w.heap.size + 1, 2, none⟩) (by show w.heap.size + 1 < _; omega)).trans j12, (hW.cell (p := ⟨w.heap.size + 1, 3, none⟩) (by show w.heap.size + 1 < _; omega)).trans j13, (hW.cell (p := ⟨w.heap.size + 1 + 1 + 1, 0, none⟩) (by show w.heap.size + 1 + 1 + 1 < _; omega)).trans j30, (hW.cell (p := ⟨w.heap.size + 1 + 1 + 1, 1, none⟩) (by show w.heap.size + 1 + 1 + 1 < _; omega)).trans j31, (hW.cell (p := ⟨w.heap.size + 1 + 1 + 1, 2, none⟩) (by show w.heap.size + 1 + 1 + 1 < _; omega)).trans j32, (hW.cell (p := ⟨w.heap.size + 1 + 1 + 1, 3, none⟩) (by show w.heap.size + 1 + 1 + 1 < _; omega)).trans j33⟩
      clear hVz
      have KT2 := fun W hW => KT _ z0 z1 z2 z3 z4 z5 V0 W hW hs2 rr ry
      have HX0 := Lib.hid x0
      have HX2 := Lib.hid x2
      have HS2 := Lib.hid hs2
      have HS0 := Lib.hid hs0
      clear X0 X1 X2 X3 c0 c1 c2 c3 d0 d1 d2 d3 f0 f1 f2 f3 j00 j01 j02 j03 j10 j11 j12 j13 j30 j31 j32 j33 x0 x1 x2 KT rr ry hs2 hs0 HP0 HP1 HP2 HP3 z6 B06
      go_region_held3 (fun W => Below V0.heap.size V0 W ∧ W.cell? ⟨w.heap.size, 2, none⟩ = some (.string ⟨#[f, x]⟩) ∧ W.cell? ⟨w.heap.size + 1, 0, none⟩ = some (.int .u8 y0) ∧ W.cell? ⟨w.heap.size + 1, 1, none⟩ = some (.int .i64 y1) ∧ W.cell? ⟨w.heap.size + 1, 2, none⟩ = some (.string y2) ∧ W.cell? ⟨w.heap.size + 1, 3, none⟩ = some (.slice y3 y4 y5) ∧ W.cell? ⟨w.heap.size + 1 + 1 + 1, 0, none⟩ = some (.int .u8 z0) ∧ W.cell? ⟨w.heap.size + 1 + 1 + 1, 1, none⟩ = some (.int .i64 z1) ∧ W.cell? ⟨w.heap.size + 1 + 1 + 1, 2, none⟩ = some (.string z2) ∧ W.cell? ⟨w.heap.size + 1 + 1 + 1, 3, none⟩ = some (.slice z3 z4 z5)) (first | (refine LB8 _ ?_; solve | (repeat' (first | assumption | exact Below.refl _ _ | refine Below.drew ?_ | (refine Below.alloc ?_ ?_ _) | (refine Below.setCell (p := ⟨_, _, none⟩) ?_ ?_ _) | exact hB8.size | exact Nat.le_refl _ | (show _ ≤ _; omega) | omega)))) (first | (go_at_call 86; refine (KT2 _ ?_).mono ?_; (solve | (repeat' (first | assumption | exact Below.refl _ _ | refine Below.drew ?_ | (refine Below.alloc ?_ ?_ _) | exact Nat.le_refl _ | omega))); rintro e w8 ⟨v0, v1, v2, v3, v4, v5, rfl, hb8, hB8, hr8⟩; (have hbx := box_here hb8); obtain ⟨t0, t1, t2, t3, t4, t5, t6, t7⟩ := cells4 hbx; clear hbx) | (go_at_call 86; refine (KT2 _ ?_).mono ?_; (solve | (repeat' (first | assumption | exact Below.refl _ _ | refine Below.drew ?_ | (refine Below.alloc ?_ ?_ _) | exact Nat.le_refl _ | omega))); rintro e w8 ⟨v0, v1, v2, v3, v4, v5, rfl, hb8, hB8, hr8⟩; (have hb6 := hb8)))
    all_goals
      have P6 := by first | exact put_late HS2.out (Nat.le_refl _) hB8 hr8 | exact put_early HS2.out (Nat.le_refl _) hB8 hr8 t0 t1 t2 t3
      first
        | (have hh : PutW _ V0 V0 (w8.alloc (tmO v0 v1 v2 v3 v4 v5)) R w8.heap.size v0 v1 v2 v3 v4 v5 := P6; clear hh; generalize (w8.alloc (.cells #[.int .u8 v0, .int .i64 v1, .string v2, .slice v3 v4 v5] 54)) = W9 at *)
        | (dsimp only [set4] at P6; generalize ((((w8.setCell ⟨V0.heap.size, 0, none⟩ (.int .u8 v0)).setCell ⟨V0.heap.size, 1, none⟩ (.int .i64 v1)).setCell ⟨V0.heap.size, 2, none⟩ (.string v2)).setCell ⟨V0.heap.size, 3, none⟩ (.slice v3 v4 v5)) = W9 at *)
      obtain ⟨B6, ⟨c0, c1, c2, c3⟩, r6⟩ := P6
      have z6 := B6.size
      have X1 := (B6.block (w.heap.size + 1 + 1) (by have := HS0.out; have := HZ0.out; omega)).trans HX2.out
      obtain ⟨k0, _⟩ := cells4 ((B6.block w.heap.size (by have := HS0.out; have := HZ0.out; omega)).trans HX0.out)
      have hlt : w.heap.size + 1 + 1 < W9.heap.size := by have := HS0.out; have := HZ0.out; omega
      have R6 := Lib.hid r6
      have KN := fun W => named_c v0 v1 v2 v3 v4 v5 true ⟨#[115, 101, 108, 102]⟩ W
      simp only [if_true] at KN
      have B06 := E0.trans (B6.mono E0.size)
      have ZV := E0.size
      clear r6 hr8 hb8 hB8 KT2 LB8 E0 B6
      go_wp2_with (go_at_call 87; refine (KN _).mono ?_; clear KN; rintro e w7 ⟨rfl, hb7⟩; (obtain ⟨d0, d1, d2, d3, f0, f1, f2, f3⟩ := cells4 ((hb7.block (w.heap.size + 1 + 1) hlt).trans X1)))
      refine bodyPost_ret (v := .tuple #[.agg #[.int .u8 v0, .int .i64 v1, .string v2, .slice v3 v4 v5], .string ⟨#[115, 101, 108, 102]⟩]) (by simp [results, Tryz.results88, go_sem, d0, d1, d2, d3]) rfl ?_
      have z7 : W9.heap.size ≤ w7.heap.size := hb7.size
      refine ⟨_, _, _, _, _, _, [115, 101, 108, 102], rfl, set4_below (B06.trans (hb7.mono (by show _ ≤ W9.heap.size; omega))) (by omega) _ _ _ _, rfl, ?_⟩
      exact mid_end HS.out HS0.out HZ0.out hlt z6 z7 hb7 R6.out
end Go.Proofs.YtefmmgccdpfnaaaGreatDoor
