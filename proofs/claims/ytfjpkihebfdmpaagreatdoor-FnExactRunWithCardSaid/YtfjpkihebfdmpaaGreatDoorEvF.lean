import Derived.Test.YtfjpkihebfdmpaaGreatDoorEvE
/- The program's closures: made, and called. -/
namespace Go.Proofs.YtfjpkihebfdmpaaGreatDoor
open Go.RowKit Go.Shelf
open Ff
set_option linter.unusedVariables false
variable {X : Nat → Prop}
attribute [local irreducible] Calls

theorem storeFunc {P : Program} {w : World} {a : Addr} {m : Mode} (fn : Fn) (first cap : Array Value) : (store a (.func fn first cap) m).run P w = stored P w a (.func fn first cap) m := run_store P w a _ m rfl
attribute [local go_sem] storeFunc
/-- The bounds of the counts. -/
structure StB (s : St) : Prop where
  steps : s.steps ≤ 1500
  calls : s.calls ≤ s.steps
  clos : s.clos ≤ s.steps
  capt : s.capt ≤ 16 * s.steps
  deepest : s.deepest ≤ 50
  depth : s.depth ≤ 50
  called : s.called.length = s.calls
theorem StB.goes {s s' : St} (h : StB s) (g : Goes s s') : StB s' := by
  obtain ⟨h1, h2, h3, h4, h5, h6, h7⟩ := h
  obtain ⟨g1, g2, g3, g4, g5, g6, g7, g8⟩ := g
  exact ⟨g2 h1, by omega, by omega, by omega, g7 h5, by omega, by omega⟩
/-- What is evaluated comes to, in memory. -/
def EvPost (X : Nat → Prop) (r : Nat) (cv : Value) (w : World) (s : St) (o : Ou) (e : Ending) (w' : World) : Prop := match o with
  | .ok v s' => ∃ x cv', e = .returned x ∧ RepV r (Safe X r cv' w') w' v x ∧ RunAt X r cv' w' s' ∧ Kep r cv w cv' w'
  | .fault => e = .panicked faultC ∧ ∃ cv' s', RunAt X r cv' w' s' ∧ Kep r cv w cv' w' ∧ s'.depth = s.depth
  | .long => e = .panicked longC ∧ ∃ cv' s', RunAt X r cv' w' s' ∧ Kep r cv w cv' w' ∧ s'.depth = s.depth
theorem Kep.cell {r : Nat} {c0 c1 : Value} {w0 w1 : World} (h : Kep r c0 w0 c1 w1) {g k : Nat} {v : Value} (hs : Safe X r c0 w0 g) (hc : w0.cell? ⟨g, k, none⟩ = some v) : w1.cell? ⟨g, k, none⟩ = some v := cell_keep (S := Safe X r c0 w0) (S' := fun _ => True) (fun g hg => ⟨(h.safe hg).1, trivial⟩) hs hc
theorem Kep.frozen {r : Nat} {c0 c1 : Value} {w0 w1 : World} (h : Kep r c0 w0 c1 w1) {g k : Nat} (hs : Safe X r c0 w0 g) (hc : w0.frozen? ⟨g, k, none⟩ = false) : w1.frozen? ⟨g, k, none⟩ = false := by
  unfold World.frozen? at hc ⊢
  simp only [(h.safe hs).1]
  exact hc
theorem Kep.rep {r : Nat} {c0 c1 : Value} {w0 w1 : World} (h : Kep r c0 w0 c1 w1) {v : Vl} {x : Value} (hr : RepV r (Safe X r c0 w0) w0 v x) : RepV r (Safe X r c1 w1) w1 v x := RepV.keep (fun g hg => h.safe hg) hr
theorem Kep.env {r : Nat} {c0 c1 : Value} {w0 w1 : World} (h : Kep r c0 w0 c1 w1) {v : En} {x : Value} (hr : RepE r (Safe X r c0 w0) w0 v x) : RepE r (Safe X r c1 w1) w1 v x := RepE.keep (fun g hg => h.safe hg) hr
theorem Kep.place {r : Nat} {c0 c1 : Value} {w0 w1 : World} (h : Kep r c0 w0 c1 w1) {t : Tm} {i : Nat} {x : Value} (hr : PlaceR (Safe X r c0 w0) w0 t i x) : PlaceR (Safe X r c1 w1) w1 t i x := PlaceR.keep (fun g hg => h.safe hg) hr
theorem RunAt.safe {r : Nat} {cv : Value} {w w' : World} {s : St} (h : RunAt X r cv w s) (hb : Below w.heap.size w w') {g : Nat} (h1 : w.heap.size ≤ g) (h2 : g < w'.heap.size) : Safe X r cv w' g :=
  ⟨h2, by have := (Array.getElem?_eq_some_iff.1 h.cells).1; omega, fun e => by have := (World.ownsRow.lt h.row g e).2; omega, fun e => by have := h.priv g e; omega⟩
theorem RunAt.below {r : Nat} {cv : Value} {w w' : World} {s : St} (h : RunAt X r cv w s) (hb : Below w.heap.size w w') : RunAt X r cv w' s :=
  ⟨(hb.block _ (Array.getElem?_eq_some_iff.1 h.cells).1).trans h.cells, World.ownsRow.kept (row := none) h.row (grown_none hb) (by rcases ho : cv.ownBlock with _ | j; exact .inl rfl; exact .inr (by simp)), fun g hg => Nat.lt_of_lt_of_le (h.priv g hg) hb.size⟩

theorem RunAt.new {r : Nat} {cv : Value} {w W : World} {s : St} (h : RunAt X r cv w s) {g : Nat} (h1 : w.heap.size ≤ g) (h2 : g < W.heap.size) : Safe X r cv W g :=
  ⟨h2, by have := (Array.getElem?_eq_some_iff.1 h.cells).1; omega, fun e => by have := (World.ownsRow.lt h.row g e).2; omega, fun e => by have := h.priv g e; omega⟩
theorem RunAt.setNew {r : Nat} {cv : Value} {w W : World} {s0 s : St} (h : RunAt X r cv w s0) (hW : RunAt X r cv W s) {g : Nat} (h1 : w.heap.size ≤ g) (k : Nat) (u : Value) : RunAt X r cv (W.setCell ⟨g, k, none⟩ u) s := by
  have hr := (Array.getElem?_eq_some_iff.1 h.cells).1
  refine ⟨(Below.heap_setCell _ _ _ _ (by show r ≠ g; omega)).trans hW.cells, ?_, fun g hg => by simpa using hW.priv g hg⟩
  obtain ⟨h3, h2 | ⟨g', cap, cur, hv, hb, hh, rest⟩⟩ := hW.row
  · exact ⟨h3, .inl h2⟩
  · have := (World.ownsRow.lt h.row g' (by rw [hv]; rfl)).2
    exact ⟨h3, .inr ⟨g', cap, cur, hv, hb, (Below.heap_setCell _ _ _ _ (by show g' ≠ g; omega)).trans hh, rest⟩⟩
theorem Kep.setNew {r : Nat} {cv c1 : Value} {w W : World} (h : Kep r cv w c1 W) {g : Nat} (h1 : w.heap.size ≤ g) (k : Nat) (u : Value) : Kep r cv w c1 (W.setCell ⟨g, k, none⟩ u) :=
  ⟨h.os, h.tape, h.output, by simpa using h.size, fun j hj hr hc => (Below.heap_setCell _ _ _ _ (by show j ≠ g; omega)).trans (h.block j hj hr hc), h.own⟩
theorem Kep.alloc {r : Nat} {cv c1 : Value} {w W : World} (h : Kep r cv w c1 W) (o : Obj) : Kep r cv w c1 (W.alloc o) := h.trans (Kep.below ((Below.refl _ W).alloc (Nat.le_refl _) o))
theorem RunAt.alloc {r : Nat} {cv : Value} {W : World} {s : St} (h : RunAt X r cv W s) (o : Obj) : RunAt X r cv (W.alloc o) s := h.below ((Below.refl _ W).alloc (Nat.le_refl _) o)
theorem set_two {w : World} {B : Nat} {z0 z1 u0 u1 : Value} (h0 : w.cell? ⟨B, 0, none⟩ = some z0) (h1 : w.cell? ⟨B, 1, none⟩ = some z1) : ((w.setCell ⟨B, 0, none⟩ u0).setCell ⟨B, 1, none⟩ u1).cell? ⟨B, 0, none⟩ = some u0 ∧ ((w.setCell ⟨B, 0, none⟩ u0).setCell ⟨B, 1, none⟩ u1).cell? ⟨B, 1, none⟩ = some u1 := by
  refine ⟨?_, ?_⟩ <;> simp [go_sem, h0, h1]
/-- A closure that has been made. -/
theorem clo_post {r : Nat} {cv : Value} {s s0 s' : St} {t : Tm} {i : Nat} {e : En} {w WF : World} {b b0 b1 b2 b3 : Nat} {pv ee e0 : Value} (hR : RunAt X r cv w s0) (hRF : RunAt X r cv WF s') (K : Kep r cv w cv WF) (hP : PlaceR (Safe X r cv w) w t i pv) (hE : RepE r (Safe X r cv w) w e e0)
    (hb : w.heap.size ≤ b ∧ b < WF.heap.size) (h0 : w.heap.size ≤ b0 ∧ b0 < WF.heap.size) (h1 : w.heap.size ≤ b1 ∧ b1 < WF.heap.size) (h2 : w.heap.size ≤ b2 ∧ b2 < WF.heap.size) (h3 : w.heap.size ≤ b3 ∧ b3 < WF.heap.size)
    (c0 : WF.cell? ⟨b, 0, none⟩ = some (.int .i64 (i : Int))) (c1 : WF.cell? ⟨b, 1, none⟩ = some (.func (.func 94) #[] #[ptr b0, ptr b2, ptr b3, ptr b1]))
    (cr : WF.cell? ⟨b0, 0, none⟩ = some (ptr r)) (cp : WF.cell? ⟨b2, 0, none⟩ = some pv) (ce : WF.cell? ⟨b3, 0, none⟩ = some ee) (cx : WF.cell? ⟨b1, 1, none⟩ = some (.int .u8 ((paramOf t).toNat : Int)))
    (hee : CloEnv (Safe X r cv WF) WF t b ee e0) : EvPost X r cv w s (.ok (.clo i t e) s') (.returned (.agg #[.int .i64 0, ptr b])) WF :=
  ⟨_, cv, rfl, .clo i t e b b0 b2 b3 b1 pv ee e0 (hR.new hb.1 hb.2) c0 c1 (hR.new h0.1 h0.2) cr (hR.new h2.1 h2.2) cp (K.place hP) (hR.new h3.1 h3.2) ce (hR.new h1.1 h1.2) cx hee (K.env hE), hRF, K⟩
/-- The boxes with which a closure is made. -/
def encW (w : World) (r : Nat) (x0 x1 x2 : Value) (bp : Nat) (ep : Value) : World :=
  ((((w.alloc (.cells #[ptr r] 58)).alloc (.cells #[x0, x1, x2] 133)).alloc (.cells #[ptr bp] 111)).alloc (.cells #[ep] 74)).alloc (.cells #[.int .i64 0, .pointer none] 99)
theorem encW_facts (w : World) (r : Nat) (x0 x1 x2 : Value) (bp : Nat) (ep : Value) :
    (encW w r x0 x1 x2 bp ep).heap.size = w.heap.size + 5 ∧ Below w.heap.size w (encW w r x0 x1 x2 bp ep) ∧ (encW w r x0 x1 x2 bp ep).cell? ⟨w.heap.size, 0, none⟩ = some (ptr r) ∧
    (encW w r x0 x1 x2 bp ep).cell? ⟨w.heap.size + 1, 0, none⟩ = some x0 ∧ (encW w r x0 x1 x2 bp ep).cell? ⟨w.heap.size + 1, 1, none⟩ = some x1 ∧ (encW w r x0 x1 x2 bp ep).cell? ⟨w.heap.size + 1, 2, none⟩ = some x2 ∧
    (encW w r x0 x1 x2 bp ep).cell? ⟨w.heap.size + 1 + 1, 0, none⟩ = some (ptr bp) ∧ (encW w r x0 x1 x2 bp ep).cell? ⟨w.heap.size + 1 + 1 + 1, 0, none⟩ = some ep ∧ (encW w r x0 x1 x2 bp ep).frozen? ⟨w.heap.size + 1 + 1 + 1, 0, none⟩ = false ∧
    (encW w r x0 x1 x2 bp ep).cell? ⟨w.heap.size + 1 + 1 + 1 + 1, 0, none⟩ = some (.int .i64 0) ∧ (encW w r x0 x1 x2 bp ep).cell? ⟨w.heap.size + 1 + 1 + 1 + 1, 1, none⟩ = some (.pointer none) ∧ (encW w r x0 x1 x2 bp ep).frozen? ⟨w.heap.size + 1 + 1 + 1 + 1, 0, none⟩ = false ∧ (encW w r x0 x1 x2 bp ep).frozen? ⟨w.heap.size + 1 + 1 + 1 + 1, 1, none⟩ = false := by
  unfold encW
  refine ⟨by simp, ((((((Below.refl _ w).alloc (Nat.le_refl _) _).alloc (by simp) _).alloc (by simp; omega) _).alloc (by simp; omega) _).alloc (by simp; omega) _), ?_, ?_, ?_, ?_, ?_, ?_, ?_, ?_, ?_, ?_, ?_⟩ <;> simp [go_sem]
set_option maxRecDepth 100000 in
set_option maxHeartbeats 4000000 in
theorem enclose_fn (r : Nat) (cv : Value) (s : St) (c : UInt8) (b : Tm) (i : Nat) (e : En) (pv ep : Value) (w : World) (hR : RunAt X r cv w s) (hB : StB s) (hP : PlaceR (Safe X r cv w) w (.fn c b) i pv) (hE : RepE r (Safe X r cv w) w e ep) :
    Calls Tryz.prog 80 #[ptr r, pl (.fn c b), pv, ep] w (EvPost X r cv w s (.ok (.clo i (.fn c b) e) (s.made (sfree (.fn c b)).length))) := by
  obtain ⟨n1, v1, e1⟩ := enc_gen b
  obtain ⟨qe, rfl⟩ := hE.form
  have hlen := sfree_len (.fn c b)
  obtain ⟨h1, h2, h3, h4, h5, h6, h7⟩ := hB
  have hP0 := Lib.hid hP
  cases hP with
  | mk _ _ bp g cap kv pk hb c0 c1 c3 c4 hkv hc hk =>
    rw [if_pos (show isFun (.fn c b) = true from rfl)] at c4
    have hbl : bp < w.heap.size := hb.1
    show Calls Tryz.prog 80 #[ptr r, .agg #[.int .u8 0, .int .u8 (c.toNat : Int), enc b], ptr bp, .pointer qe] w _
    rw [e1]
    have HE := Lib.hid e1
    clear e1 c0 c3 hkv hc hk
    go_enter Tryz.func80, Tryz.ntmps80
    go_wp2_with fail
    obtain ⟨z, zb, z0, z1, z2, z3, z4, z5, z6, z7, z8, z9, z10⟩ := encW_facts w r (.int .u8 0) (.int .u8 (c.toNat : Int)) (.iface n1 v1) bp (.pointer qe)
    change Code.wp _ _ _ _ (encW w r (.int .u8 0) (.int .u8 (c.toNat : Int)) (.iface n1 v1) bp (.pointer qe))
    generalize encW w r (.int .u8 0) (.int .u8 (c.toNat : Int)) (.iface n1 v1) bp (.pointer qe) = W5 at z zb z0 z1 z2 z3 z4 z5 z6 z7 z8 z9 z10 ⊢
    have d1 := (zb.cell (p := ⟨bp, 1, none⟩) hbl).trans c1
    have d4 := (zb.cell (p := ⟨bp, 4, none⟩) hbl).trans c4
    have hR5 := (hR.below zb).drew
    have hS0 : Safe X r cv W5 w.heap.size := hR.safe zb (Nat.le_refl _) (by omega)
    have hS2 : Safe X r cv W5 (w.heap.size + 1 + 1) := hR.safe zb (by omega) (by omega)
    have hSb : Safe X r cv W5 bp := ((Kep.below zb).safe hb).2
    have C := addClosure_c r cv s (sfree (.fn c b)).length _ hR5 (by omega) (by omega) (by omega)
    have C2 : Calls Tryz.prog 93 #[ptr r, .int .i64 ((sfree (.fn c b)).length : Nat)] W5.drew fun e' w' => ∃ x, e' = .returned x ∧ x = .tuple #[] ∧ RunAt X r cv w' (s.made (sfree (.fn c b)).length) ∧ Kep r cv W5 cv w' ∧ w'.cell? ⟨w.heap.size, 0, none⟩ = some (ptr r) ∧ w'.cell? ⟨w.heap.size + 1 + 1, 0, none⟩ = some (ptr bp) ∧ w'.cell? ⟨bp, 4, none⟩ = some (.int .i64 ((sfree (.fn c b)).length : Nat)) := C.mono (by
      rintro e' w' ⟨rfl, q1, q2⟩
      have q3 := (Kep.below ((Below.refl _ W5).drew)).trans q2
      exact ⟨_, rfl, rfl, q1, q3, q3.cell hS0 z0, q3.cell hS2 z4, q3.cell hSb d4⟩)
    clear C
    go_region_held3 (fun w' => w'.cell? ⟨w.heap.size, 0, none⟩ = some (ptr r) ∧ w'.cell? ⟨w.heap.size + 1 + 1, 0, none⟩ = some (ptr bp) ∧ w'.cell? ⟨bp, 4, none⟩ = some (.int .i64 ((sfree (.fn c b)).length : Nat)))
      (first | go_keep | refine ⟨?_, ?_, ?_⟩ <;> assumption)
      (first | (refine C2.mono ?_; rintro e' w2 ⟨x, rfl, rfl, hR2, hK2, q0, q2, q4⟩))
    have hS1 : Safe X r cv W5 (w.heap.size + 1) := hR.safe zb (by omega) (by omega)
    have hS3 : Safe X r cv W5 (w.heap.size + 1 + 1 + 1) := hR.safe zb (by omega) (by omega)
    have hS4 : Safe X r cv W5 (w.heap.size + 1 + 1 + 1 + 1) := hR.safe zb (by omega) (by omega)
    have y1 := hK2.cell hS1 z1
    have y2 := hK2.cell hS1 z2
    have y5 := hK2.cell hS3 z5
    have y6 := hK2.frozen hS3 z6
    have y7 := hK2.cell hS4 z7
    have y8 := hK2.cell hS4 z8
    have y9 := hK2.frozen hS4 z9
    have y10 := hK2.frozen hS4 z10
    have yb := hK2.cell hSb d1
    have hs2 := hK2.size
    have l0 : w.heap.size < w2.heap.size := by omega
    have l1 : w.heap.size + 1 < w2.heap.size := by omega
    have l2 : w.heap.size + 1 + 1 < w2.heap.size := by omega
    have l3 : w.heap.size + 1 + 1 + 1 < w2.heap.size := by omega
    have l4 : w.heap.size + 1 + 1 + 1 + 1 < w2.heap.size := by omega
    have KF := (Kep.below zb).trans hK2
    clear C2 z0 z1 z2 z3 z4 z5 z6 z7 z8 z9 z10 d1 d4 hR5
    go_wp2_with fail
    obtain ⟨k0, k1⟩ := set_two (u0 := .int .i64 0) (u1 := ptr w2.heap.size) y7 y8
    have hA := ((Below.refl (w2.heap.size) ((w2.setCell ⟨w.heap.size + 1 + 1 + 1 + 1, 0, none⟩ (.int .i64 0)).setCell ⟨w.heap.size + 1 + 1 + 1 + 1, 1, none⟩ (ptr w2.heap.size))).alloc (by simp) (.cells #[.int .i64 (i : Int), .func (.func 94) #[] #[ptr w.heap.size, ptr (w.heap.size + 1 + 1), ptr (w.heap.size + 1 + 1 + 1), ptr (w.heap.size + 1)]] 175)).alloc (by simp) (.cells #[.int .i64 0, ptr w2.heap.size] 99)
    have j0 := (hA.cell (p := ⟨w.heap.size + 1 + 1 + 1 + 1, 0, none⟩) l4).trans k0
    have j1 := (hA.cell (p := ⟨w.heap.size + 1 + 1 + 1 + 1, 1, none⟩) l4).trans k1
    refine bodyPost_ret (v := .agg #[.int .i64 0, ptr w2.heap.size]) (by simp [results, Tryz.results80, go_sem, j0, j1]) rfl ?_
    refine clo_post (ee := .pointer qe) hR ((hR.setNew (hR.setNew hR2 (by omega) _ _) (by omega) _ _).alloc _ |>.alloc _) (((KF.setNew (by omega) _ _).setNew (by omega) _ _).alloc _ |>.alloc _) hP0.out hE (b := w2.heap.size) (b0 := w.heap.size) (b1 := w.heap.size + 1) (b2 := w.heap.size + 1 + 1) (b3 := w.heap.size + 1 + 1 + 1) ⟨by omega, by simp; omega⟩ ⟨by omega, by simp; omega⟩ ⟨by omega, by simp; omega⟩ ⟨by omega, by simp; omega⟩ ⟨by omega, by simp; omega⟩ ?_ ?_ ?_ ?_ ?_ ?_ rfl
    all_goals simp [go_sem, q0, q2, y2, y5, l0, l1, l2, l3, paramOf]
def cloW (w2 : World) (i : Nat) : World := (w2.alloc (.cells #[.int .i64 (i : Int), .nilFunc] 175)).alloc (.cells #[.int .i64 0, ptr w2.heap.size] 99)
theorem cloW_facts (w2 : World) (i : Nat) : (cloW w2 i).heap.size = w2.heap.size + 2 ∧ Below w2.heap.size w2 (cloW w2 i) ∧ (cloW w2 i).cell? ⟨w2.heap.size, 0, none⟩ = some (.int .i64 (i : Int)) ∧ (cloW w2 i).cell? ⟨w2.heap.size, 1, none⟩ = some .nilFunc ∧ (cloW w2 i).frozen? ⟨w2.heap.size, 1, none⟩ = false ∧
    (cloW w2 i).cell? ⟨w2.heap.size + 1, 0, none⟩ = some (.int .i64 0) ∧ (cloW w2 i).cell? ⟨w2.heap.size + 1, 1, none⟩ = some (ptr w2.heap.size) := by
  unfold cloW
  refine ⟨by simp, (((Below.refl _ w2).alloc (Nat.le_refl _) _).alloc (by simp) _), ?_, ?_, ?_, ?_, ?_⟩ <;> simp [go_sem]
set_option maxRecDepth 100000 in
set_option maxHeartbeats 4000000 in
theorem enclose_fix (r : Nat) (cv : Value) (s : St) (f c : UInt8) (b : Tm) (i : Nat) (e : En) (pv ep : Value) (w : World) (hR : RunAt X r cv w s) (hB : StB s) (hf0 : f.toNat ≠ 0) (hP : PlaceR (Safe X r cv w) w (.fix f c b) i pv) (hE : RepE r (Safe X r cv w) w e ep) :
    Calls Tryz.prog 80 #[ptr r, pl (.fix f c b), pv, ep] w (EvPost X r cv w s (.ok (.clo i (.fix f c b) e) (s.made (sfree (.fix f c b)).length))) := by
  obtain ⟨n1, v1, e1⟩ := enc_gen b
  obtain ⟨qe, rfl⟩ := hE.form
  have hlen := sfree_len (.fix f c b)
  obtain ⟨h1, h2, h3, h4, h5, h6, h7⟩ := hB
  have hP0 := Lib.hid hP
  cases hP with
  | mk _ _ bp g cap kv pk hb c0 c1 c3 c4 hkv hc hk =>
    rw [if_pos (show isFun (.fix f c b) = true from rfl)] at c4
    have hbl : bp < w.heap.size := hb.1
    show Calls Tryz.prog 80 #[ptr r, .agg #[.int .u8 (f.toNat : Int), .int .u8 (c.toNat : Int), enc b], ptr bp, .pointer qe] w _
    rw [e1]
    have HE := Lib.hid e1
    clear e1 c0 c3 hkv hc hk
    go_enter Tryz.func80, Tryz.ntmps80
    go_wp2_with fail
    obtain ⟨z, zb, z0, z1, z2, z3, z4, z5, z6, z7, z8, z9, z10⟩ := encW_facts w r (.int .u8 (f.toNat : Int)) (.int .u8 (c.toNat : Int)) (.iface n1 v1) bp (.pointer qe)
    change Code.wp _ _ _ _ (encW w r (.int .u8 (f.toNat : Int)) (.int .u8 (c.toNat : Int)) (.iface n1 v1) bp (.pointer qe))
    generalize encW w r (.int .u8 (f.toNat : Int)) (.int .u8 (c.toNat : Int)) (.iface n1 v1) bp (.pointer qe) = W5 at z zb z0 z1 z2 z3 z4 z5 z6 z7 z8 z9 z10 ⊢
    have d1 := (zb.cell (p := ⟨bp, 1, none⟩) hbl).trans c1
    have d4 := (zb.cell (p := ⟨bp, 4, none⟩) hbl).trans c4
    have hR5 := (hR.below zb).drew
    have hS0 : Safe X r cv W5 w.heap.size := hR.safe zb (Nat.le_refl _) (by omega)
    have hS2 : Safe X r cv W5 (w.heap.size + 1 + 1) := hR.safe zb (by omega) (by omega)
    have hSb : Safe X r cv W5 bp := ((Kep.below zb).safe hb).2
    have C := addClosure_c r cv s (sfree (.fix f c b)).length _ hR5 (by omega) (by omega) (by omega)
    have C2 : Calls Tryz.prog 93 #[ptr r, .int .i64 ((sfree (.fix f c b)).length : Nat)] W5.drew fun e' w' => ∃ x, e' = .returned x ∧ x = .tuple #[] ∧ RunAt X r cv w' (s.made (sfree (.fix f c b)).length) ∧ Kep r cv W5 cv w' ∧ w'.cell? ⟨w.heap.size, 0, none⟩ = some (ptr r) ∧ w'.cell? ⟨w.heap.size + 1 + 1, 0, none⟩ = some (ptr bp) ∧ w'.cell? ⟨bp, 4, none⟩ = some (.int .i64 ((sfree (.fix f c b)).length : Nat)) := C.mono (by
      rintro e' w' ⟨rfl, q1, q2⟩
      have q3 := (Kep.below ((Below.refl _ W5).drew)).trans q2
      exact ⟨_, rfl, rfl, q1, q3, q3.cell hS0 z0, q3.cell hS2 z4, q3.cell hSb d4⟩)
    clear C
    go_region_held3 (fun w' => w'.cell? ⟨w.heap.size, 0, none⟩ = some (ptr r) ∧ w'.cell? ⟨w.heap.size + 1 + 1, 0, none⟩ = some (ptr bp) ∧ w'.cell? ⟨bp, 4, none⟩ = some (.int .i64 ((sfree (.fix f c b)).length : Nat)))
      (first | go_keep | refine ⟨?_, ?_, ?_⟩ <;> assumption)
      (first | (refine C2.mono ?_; rintro e' w2 ⟨x, rfl, rfl, hR2, hK2, q0, q2, q4⟩))
    have hS1 : Safe X r cv W5 (w.heap.size + 1) := hR.safe zb (by omega) (by omega)
    have hS3 : Safe X r cv W5 (w.heap.size + 1 + 1 + 1) := hR.safe zb (by omega) (by omega)
    have hS4 : Safe X r cv W5 (w.heap.size + 1 + 1 + 1 + 1) := hR.safe zb (by omega) (by omega)
    have y1 := hK2.cell hS1 z1
    have y2 := hK2.cell hS1 z2
    have y5 := hK2.cell hS3 z5
    have y6 := hK2.frozen hS3 z6
    have y7 := hK2.cell hS4 z7
    have y8 := hK2.cell hS4 z8
    have y9 := hK2.frozen hS4 z9
    have y10 := hK2.frozen hS4 z10
    have yb := hK2.cell hSb d1
    have hs2 := hK2.size
    have l0 : w.heap.size < w2.heap.size := by omega
    have l1 : w.heap.size + 1 < w2.heap.size := by omega
    have l2 : w.heap.size + 1 + 1 < w2.heap.size := by omega
    have l3 : w.heap.size + 1 + 1 + 1 < w2.heap.size := by omega
    have l4 : w.heap.size + 1 + 1 + 1 + 1 < w2.heap.size := by omega
    have KF := (Kep.below zb).trans hK2
    clear C2 z0 z1 z2 z3 z4 z5 z6 z7 z8 z9 z10 d1 d4 hR5
    have hz : ((f.toNat : Int) == 0) = false := by rw [beq_eq_false_iff_ne]; omega
    have x4 := hE.top (B := w2.heap.size + 2) (fun g hg => by have := hg.1; omega)
    go_wp2_with fail
    obtain ⟨v, vb, v0, v1', v2, v3, v4⟩ := cloW_facts w2 i
    change Calls _ _ _ (cloW w2 i) _
    generalize cloW w2 i = W22 at v vb v0 v1' v2 v3 v4 ⊢
    refine (with_c (.pointer qe) f (.int .i64 0) (ptr w2.heap.size) ⟨_, rfl⟩ ⟨_, rfl⟩ ⟨_, rfl⟩ W22).mono ?_
    rintro e' w3 ⟨bs, rfl, hb1, hb2, hb3, g0, g1, g2, g3⟩
    have hs3 := hb3.size
    have B3 := vb.trans (hb3.mono (by omega))
    have q0' := (B3.cell (p := ⟨w.heap.size, 0, none⟩) l0).trans q0
    have q2' := (B3.cell (p := ⟨w.heap.size + 1 + 1, 0, none⟩) l2).trans q2
    have y2' := (B3.cell (p := ⟨w.heap.size + 1, 1, none⟩) l1).trans y2
    have y5' := (B3.cell (p := ⟨w.heap.size + 1 + 1 + 1, 0, none⟩) l3).trans y5
    have y6' := (B3.frozen (p := ⟨w.heap.size + 1 + 1 + 1, 0, none⟩) l3).trans y6
    have y7' := (B3.cell (p := ⟨w.heap.size + 1 + 1 + 1 + 1, 0, none⟩) l4).trans y7
    have y8' := (B3.cell (p := ⟨w.heap.size + 1 + 1 + 1 + 1, 1, none⟩) l4).trans y8
    have y9' := (B3.frozen (p := ⟨w.heap.size + 1 + 1 + 1 + 1, 0, none⟩) l4).trans y9
    have y10' := (B3.frozen (p := ⟨w.heap.size + 1 + 1 + 1 + 1, 1, none⟩) l4).trans y10
    have v0' := (hb3.cell (p := ⟨w2.heap.size, 0, none⟩) (by show w2.heap.size < _; omega)).trans v0
    have v1'' := (hb3.cell (p := ⟨w2.heap.size, 1, none⟩) (by show w2.heap.size < _; omega)).trans v1'
    have v2' := (hb3.frozen (p := ⟨w2.heap.size, 1, none⟩) (by show w2.heap.size < _; omega)).trans v2
    have v3' := (hb3.cell (p := ⟨w2.heap.size + 1, 0, none⟩) (by show w2.heap.size + 1 < _; omega)).trans v3
    have v4' := (hb3.cell (p := ⟨w2.heap.size + 1, 1, none⟩) (by show w2.heap.size + 1 < _; omega)).trans v4
    have hR3 := hR2.below B3
    have K3 := KF.trans (Kep.below B3)
    have n1 : w2.heap.size ≠ w.heap.size + 1 + 1 + 1 := by omega
    have n2 : w2.heap.size ≠ w.heap.size + 1 + 1 + 1 + 1 := by omega
    have n3 : w2.heap.size + 1 ≠ w.heap.size + 1 + 1 + 1 := by omega
    have n4 : w2.heap.size + 1 ≠ w.heap.size + 1 + 1 + 1 + 1 := by omega
    have n5 : w.heap.size + 1 + 1 + 1 ≠ w.heap.size + 1 + 1 + 1 + 1 := by omega
    clear q0 q2 y1 y2 y5 y6 y7 y8 y9 y10 yb v0 v1' v2 v3 v4 hR2
    go_wp2_with fail
    have m0 : bs ≠ w.heap.size + 1 + 1 + 1 := by omega
    have m1 : bs ≠ w2.heap.size := by omega
    have m2 : bs ≠ w.heap.size + 1 + 1 + 1 + 1 := by omega
    have m3 : w.heap.size ≠ w2.heap.size := by omega
    have m4 : w.heap.size + 1 ≠ w2.heap.size := by omega
    have m5 : w.heap.size + 1 + 1 ≠ w2.heap.size := by omega
    have p40 : w.heap.size + 1 + 1 + 1 + 1 ≠ w.heap.size := by omega
    have p41 : w.heap.size + 1 + 1 + 1 + 1 ≠ w.heap.size + 1 := by omega
    have p42 : w.heap.size + 1 + 1 + 1 + 1 ≠ w.heap.size + 1 + 1 := by omega
    have p30 : w.heap.size + 1 + 1 + 1 ≠ w.heap.size := by omega
    have p31 : w.heap.size + 1 + 1 + 1 ≠ w.heap.size + 1 := by omega
    have p32 : w.heap.size + 1 + 1 + 1 ≠ w.heap.size + 1 + 1 := by omega
    have f1 : ∀ (p a : Addr) (v : Value) (W : World), p.block ≠ a.block → (W.setCell p v).cell? a = W.cell? a := fun p a v W h => World.cell?_setCell_other W p a v (fun e => h (by rw [e]))
    have j7 : ((w3.setCell ⟨w.heap.size + 1 + 1 + 1, 0, none⟩ (ptr bs)).setCell ⟨w2.heap.size, 1, none⟩ (.func (.func 94) #[] #[ptr w.heap.size, ptr (w.heap.size + 1 + 1), ptr (w.heap.size + 1 + 1 + 1), ptr (w.heap.size + 1)])).cell? ⟨w.heap.size + 1 + 1 + 1 + 1, 0, none⟩ = some (.int .i64 0) := by rw [f1 _ _ _ _ n2, f1 _ _ _ _ n5]; exact y7'
    have j8 : ((w3.setCell ⟨w.heap.size + 1 + 1 + 1, 0, none⟩ (ptr bs)).setCell ⟨w2.heap.size, 1, none⟩ (.func (.func 94) #[] #[ptr w.heap.size, ptr (w.heap.size + 1 + 1), ptr (w.heap.size + 1 + 1 + 1), ptr (w.heap.size + 1)])).cell? ⟨w.heap.size + 1 + 1 + 1 + 1, 1, none⟩ = some (.pointer none) := by rw [f1 _ _ _ _ n2, f1 _ _ _ _ n5]; exact y8'
    obtain ⟨k0, k1⟩ := set_two (u0 := .int .i64 0) (u1 := ptr w2.heap.size) j7 j8
    refine bodyPost_ret (v := .agg #[.int .i64 0, ptr w2.heap.size]) (by simp [results, Tryz.results80, go_sem, k0, k1]) rfl ?_
    refine clo_post (ee := ptr bs) (e0 := .pointer qe) hR (hR.setNew (hR.setNew (hR.setNew (hR.setNew hR3 (by omega) _ _) (by omega) _ _) (by omega) _ _) (by omega) _ _) ((((K3.setNew (by omega) _ _).setNew (by omega) _ _).setNew (by omega) _ _).setNew (by omega) _ _) hP0.out hE (b := w2.heap.size) (b0 := w.heap.size) (b1 := w.heap.size + 1) (b2 := w.heap.size + 1 + 1) (b3 := w.heap.size + 1 + 1 + 1) ⟨by omega, by simp; omega⟩ ⟨by omega, by simp; omega⟩ ⟨by omega, by simp; omega⟩ ⟨by omega, by simp; omega⟩ ⟨by omega, by simp; omega⟩ ?_ ?_ ?_ ?_ ?_ ?_ ?_
    · rw [f1 _ _ _ _ n2.symm, f1 _ _ _ _ n2.symm, World.cell?_setCell_other _ _ _ _ (by simp), f1 _ _ _ _ n1.symm]; exact v0'
    · rw [f1 _ _ _ _ n2.symm, f1 _ _ _ _ n2.symm]
      exact World.cell?_setCell_same _ _ _ (u := .nilFunc) (by rw [f1 _ _ _ _ n1.symm]; exact v1'')
    · rw [f1 _ _ _ _ p40, f1 _ _ _ _ p40, f1 _ _ _ _ m3.symm, f1 _ _ _ _ p30]; exact q0'
    · rw [f1 _ _ _ _ p42, f1 _ _ _ _ p42, f1 _ _ _ _ m5.symm, f1 _ _ _ _ p32]; exact q2'
    · rw [f1 _ _ _ _ n5.symm, f1 _ _ _ _ n5.symm, f1 _ _ _ _ n1]
      exact World.cell?_setCell_same _ _ _ (u := .pointer qe) y5'
    · rw [f1 _ _ _ _ p41, f1 _ _ _ _ p41, f1 _ _ _ _ m4.symm, f1 _ _ _ _ p31]; exact y2'
    · have f2 : ∀ k v, w3.cell? ⟨bs, k, none⟩ = some v → ((((w3.setCell ⟨w.heap.size + 1 + 1 + 1, 0, none⟩ (ptr bs)).setCell ⟨w2.heap.size, 1, none⟩ (.func (.func 94) #[] #[ptr w.heap.size, ptr (w.heap.size + 1 + 1), ptr (w.heap.size + 1 + 1 + 1), ptr (w.heap.size + 1)])).setCell ⟨w.heap.size + 1 + 1 + 1 + 1, 0, none⟩ (.int .i64 0)).setCell ⟨w.heap.size + 1 + 1 + 1 + 1, 1, none⟩ (ptr w2.heap.size)).cell? ⟨bs, k, none⟩ = some v := fun k v hv => by
        rw [f1 _ _ _ _ m2.symm, f1 _ _ _ _ m2.symm, f1 _ _ _ _ m1.symm, f1 _ _ _ _ m0.symm]; exact hv
      exact ⟨bs, rfl, hR.new (by omega) (by simp; omega), f2 _ _ g0, f2 _ _ g1, f2 _ _ g2, f2 _ _ g3, by have := hE.top (B := w.heap.size) (fun g hg => hg.1); omega⟩
end Go.Proofs.YtfjpkihebfdmpaaGreatDoor
