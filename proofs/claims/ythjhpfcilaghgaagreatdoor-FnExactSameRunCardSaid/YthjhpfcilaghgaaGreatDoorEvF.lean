import Derived.Test.YthjhpfcilaghgaaGreatDoorEvR
/- The program's closures: made, and called. -/
namespace Go.Proofs.YthjhpfcilaghgaaGreatDoor
open Go.RowKit Go.Shelf
open Ff
set_option linter.unusedVariables false
variable {X : Nat → Prop}
attribute [local irreducible] Calls

theorem storeFunc {P : Program} {w : World} {a : Addr} {m : Mode} (fn : Fn) (first cap : Array Value) : (store a (.func fn first cap) m).run P w = stored P w a (.func fn first cap) m := run_store P w a _ m rfl
attribute [local go_sem] storeFunc storeIF
/-- The bounds of the counts. -/
structure StB (s : St) : Prop where
  steps : s.steps ≤ 1500
  calls : s.calls ≤ s.steps
  clos : s.clos ≤ s.steps
  capt : s.capt ≤ 16 * s.steps
  deepest : s.deepest ≤ 50
  depth : s.depth ≤ 50
  called : s.called.length = s.calls
  froms : s.froms.length = s.calls
  encl : s.encl.length = s.clos
theorem StB.goes {s s' : St} (h : StB s) (g : Goes s s') : StB s' := by
  obtain ⟨h1, h2, h3, h4, h5, h6, h7, h8, h9⟩ := h
  obtain ⟨g1, g2, g3, g4, g5, g6, g7, g8, g9, g0⟩ := g
  exact ⟨g2 h1, by omega, by omega, by omega, g7 h5, by omega, by omega, by omega, by omega⟩
/-- What is evaluated comes to, in memory. -/
def EvPost (X : Nat → Prop) (r : Nat) (cv : Rw) (w : World) (s : St) (o : Ou) (e : Ending) (w' : World) : Prop := match o with
  | .ok v s' => ∃ x cv', e = .returned x ∧ RepV r (Safe X r cv' w') w' v x ∧ RunAt X r cv' w' s' ∧ Kep r cv w cv' w'
  | .fault => e = .panicked faultC ∧ ∃ cv' s', RunAt X r cv' w' s' ∧ Kep r cv w cv' w' ∧ s'.depth = s.depth
  | .long => e = .panicked longC ∧ ∃ cv' s', RunAt X r cv' w' s' ∧ Kep r cv w cv' w' ∧ s'.depth = s.depth
theorem Kep.cell {r : Nat} {c0 c1 : Rw} {w0 w1 : World} (h : Kep r c0 w0 c1 w1) {g k : Nat} {v : Value} (hs : Safe X r c0 w0 g) (hc : w0.cell? ⟨g, k, none⟩ = some v) : w1.cell? ⟨g, k, none⟩ = some v := cell_keep (S := Safe X r c0 w0) (S' := fun _ => True) (fun g hg => ⟨(h.safe hg).1, trivial⟩) hs hc
theorem Kep.frozen {r : Nat} {c0 c1 : Rw} {w0 w1 : World} (h : Kep r c0 w0 c1 w1) {g k : Nat} (hs : Safe X r c0 w0 g) (hc : w0.frozen? ⟨g, k, none⟩ = false) : w1.frozen? ⟨g, k, none⟩ = false := by
  unfold World.frozen? at hc ⊢
  simp only [(h.safe hs).1]
  exact hc
theorem Kep.rep {r : Nat} {c0 c1 : Rw} {w0 w1 : World} (h : Kep r c0 w0 c1 w1) {v : Vl} {x : Value} (hr : RepV r (Safe X r c0 w0) w0 v x) : RepV r (Safe X r c1 w1) w1 v x := RepV.keep (fun g hg => h.safe hg) hr
theorem Kep.env {r : Nat} {c0 c1 : Rw} {w0 w1 : World} (h : Kep r c0 w0 c1 w1) {v : En} {x : Value} (hr : RepE r (Safe X r c0 w0) w0 v x) : RepE r (Safe X r c1 w1) w1 v x := RepE.keep (fun g hg => h.safe hg) hr
theorem Kep.place {r : Nat} {c0 c1 : Rw} {w0 w1 : World} (h : Kep r c0 w0 c1 w1) {t : Tm} {i : Nat} {x : Value} (hr : PlaceR (Safe X r c0 w0) w0 t i x) : PlaceR (Safe X r c1 w1) w1 t i x := PlaceR.keep (fun g hg => h.safe hg) hr
theorem RunAt.safe {r : Nat} {cv : Rw} {w w' : World} {s : St} (h : RunAt X r cv w s) (hb : Below w.heap.size w w') {g : Nat} (h1 : w.heap.size ≤ g) (h2 : g < w'.heap.size) : Safe X r cv w' g :=
  ⟨h2, by have := h.lt; omega, fun e => by have := (h.owns g e).2; omega, fun e => by have := h.priv g e; omega⟩

theorem RunAt.new {r : Nat} {cv : Rw} {w W : World} {s : St} (h : RunAt X r cv w s) {g : Nat} (h1 : w.heap.size ≤ g) (h2 : g < W.heap.size) : Safe X r cv W g :=
  ⟨h2, by have := h.lt; omega, fun e => by have := (h.owns g e).2; omega, fun e => by have := h.priv g e; omega⟩
theorem row_far {w : World} {B sz g : Nat} {e : TypeId} {cv : Value} {n : Nat} {xs : List Value} (h : w.ownsRow B e sz cv n xs) (hg : cv.ownBlock ≠ some g) (k : Nat) (u : Value) : (w.setCell ⟨g, k, none⟩ u).ownsRow B e sz cv n xs := by
  obtain ⟨h3, h2 | ⟨g', cap, cur, hv, hb, hh, rest⟩⟩ := h
  · exact ⟨h3, .inl h2⟩
  · exact ⟨h3, .inr ⟨g', cap, cur, hv, hb, (Below.heap_setCell _ _ _ _ (by show g' ≠ g; rintro rfl; exact hg (by rw [hv]; rfl))).trans hh, rest⟩⟩
theorem RunAt.setFar {r : Nat} {cv : Rw} {W : World} {s : St} (hW : RunAt X r cv W s) {g : Nat} (h1 : g ≠ r) (h2 : ¬ cv.own g) (k : Nat) (u : Value) : RunAt X r cv (W.setCell ⟨g, k, none⟩ u) s :=
  ⟨hW.cells.imp fun z q => (Below.heap_setCell _ _ _ _ (by show r ≠ g; omega)).trans q, row_far hW.row (fun e => h2 (.inl e)) k u, row_far hW.rowD (fun e => h2 (.inr e)) k u, hW.len, hW.sep, fun g hg => by simpa using hW.priv g hg⟩
theorem RunAt.setNew {r : Nat} {cv : Rw} {w W : World} {s0 s : St} (h : RunAt X r cv w s0) (hW : RunAt X r cv W s) {g : Nat} (h1 : w.heap.size ≤ g) (k : Nat) (u : Value) : RunAt X r cv (W.setCell ⟨g, k, none⟩ u) s :=
  hW.setFar (by have := h.lt; omega) (fun e => by have := (h.owns g e).2; omega) k u
theorem RunAt.setSafe {r : Nat} {cv : Rw} {W : World} {s : St} (hW : RunAt X r cv W s) {g : Nat} (hs : Safe X r cv W g) (k : Nat) (u : Value) : RunAt X r cv (W.setCell ⟨g, k, none⟩ u) s := hW.setFar hs.2.1 hs.2.2.1 k u
theorem Safe.set {r : Nat} {cv : Rw} {W : World} {g : Nat} (hs : Safe X r cv W g) (a : Addr) (u : Value) : Safe X r cv (W.setCell a u) g := ⟨by simpa using hs.1, hs.2⟩
theorem Safe.alloc {r : Nat} {cv : Rw} {W : World} {g : Nat} (hs : Safe X r cv W g) (o : Obj) : Safe X r cv (W.alloc o) g := ⟨by have := hs.1; simp; omega, hs.2⟩
theorem Kep.setNew {r : Nat} {cv c1 : Rw} {w W : World} (h : Kep r cv w c1 W) {g : Nat} (h1 : w.heap.size ≤ g) (k : Nat) (u : Value) : Kep r cv w c1 (W.setCell ⟨g, k, none⟩ u) :=
  ⟨h.os, h.tape, h.output, by simpa using h.size, fun j hj hr hc => (Below.heap_setCell _ _ _ _ (by show j ≠ g; omega)).trans (h.block j hj hr hc), h.own⟩
theorem Kep.alloc {r : Nat} {cv c1 : Rw} {w W : World} (h : Kep r cv w c1 W) (o : Obj) : Kep r cv w c1 (W.alloc o) := h.trans (Kep.below ((Below.refl _ W).alloc (Nat.le_refl _) o))
theorem RunAt.alloc {r : Nat} {cv : Rw} {W : World} {s : St} (h : RunAt X r cv W s) (o : Obj) : RunAt X r cv (W.alloc o) s := h.below ((Below.refl _ W).alloc (Nat.le_refl _) o)
theorem set_two {w : World} {B : Nat} {z0 z1 u0 u1 : Value} (h0 : w.cell? ⟨B, 0, none⟩ = some z0) (h1 : w.cell? ⟨B, 1, none⟩ = some z1) : ((w.setCell ⟨B, 0, none⟩ u0).setCell ⟨B, 1, none⟩ u1).cell? ⟨B, 0, none⟩ = some u0 ∧ ((w.setCell ⟨B, 0, none⟩ u0).setCell ⟨B, 1, none⟩ u1).cell? ⟨B, 1, none⟩ = some u1 := by
  refine ⟨?_, ?_⟩ <;> simp [go_sem, h0, h1]
/-- A closure that has been made. -/
theorem clo_post {r : Nat} {cv c1' : Rw} {s s0 s' : St} {t : Tm} {i : Nat} {e : En} {w WF : World} {b b0 b1 b2 b3 : Nat} {pv ee e0 : Value} (hR : RunAt X r cv w s0) (hRF : RunAt X r c1' WF s') (K : Kep r cv w c1' WF) (hP : PlaceR (Safe X r cv w) w t i pv) (hE : RepE r (Safe X r cv w) w e e0)
    (hb : Safe X r c1' WF b) (h0 : Safe X r c1' WF b0) (h1 : Safe X r c1' WF b1) (h2 : Safe X r c1' WF b2) (h3 : Safe X r c1' WF b3)
    (c1 : WF.cell? ⟨b, 0, none⟩ = some (.func (.func 95) #[] #[ptr b0, ptr b2, ptr b3, ptr b1]))
    (cr : WF.cell? ⟨b0, 0, none⟩ = some (ptr r)) (cp : WF.cell? ⟨b2, 0, none⟩ = some pv) (ce : WF.cell? ⟨b3, 0, none⟩ = some ee) (cx : WF.cell? ⟨b1, 1, none⟩ = some (.int .u8 ((paramOf t).toNat : Int)))
    (hee : CloEnv (Safe X r c1' WF) WF t b ee e0) : EvPost X r cv w s (.ok (.clo i t e) s') (.returned (.agg #[.int .i64 0, .iface 179 (ptr b)])) WF :=
  ⟨_, c1', rfl, .clo i t e b b0 b2 b3 b1 pv ee e0 hb c1 h0 cr h2 cp (K.place hP) h3 ce h1 cx hee (K.env hE), hRF, K⟩
/-- The boxes with which a closure is made. -/
def encW (w : World) (r : Nat) (x0 x1 x2 : Value) (bp : Nat) (ep : Value) : World :=
  ((((w.alloc (.cells #[ptr r] 58)).alloc (.cells #[x0, x1, x2] 133)).alloc (.cells #[ptr bp] 117)).alloc (.cells #[ep] 76)).alloc (.cells #[.int .i64 0, .nilIface] 105)
theorem encW_facts (w : World) (r : Nat) (x0 x1 x2 : Value) (bp : Nat) (ep : Value) :
    (encW w r x0 x1 x2 bp ep).heap.size = w.heap.size + 5 ∧ Below w.heap.size w (encW w r x0 x1 x2 bp ep) ∧ (encW w r x0 x1 x2 bp ep).cell? ⟨w.heap.size, 0, none⟩ = some (ptr r) ∧
    (encW w r x0 x1 x2 bp ep).cell? ⟨w.heap.size + 1, 0, none⟩ = some x0 ∧ (encW w r x0 x1 x2 bp ep).cell? ⟨w.heap.size + 1, 1, none⟩ = some x1 ∧ (encW w r x0 x1 x2 bp ep).cell? ⟨w.heap.size + 1, 2, none⟩ = some x2 ∧
    (encW w r x0 x1 x2 bp ep).cell? ⟨w.heap.size + 1 + 1, 0, none⟩ = some (ptr bp) ∧ (encW w r x0 x1 x2 bp ep).cell? ⟨w.heap.size + 1 + 1 + 1, 0, none⟩ = some ep ∧ (encW w r x0 x1 x2 bp ep).frozen? ⟨w.heap.size + 1 + 1 + 1, 0, none⟩ = false ∧
    (encW w r x0 x1 x2 bp ep).cell? ⟨w.heap.size + 1 + 1 + 1 + 1, 0, none⟩ = some (.int .i64 0) ∧ (encW w r x0 x1 x2 bp ep).cell? ⟨w.heap.size + 1 + 1 + 1 + 1, 1, none⟩ = some (.nilIface) ∧ (encW w r x0 x1 x2 bp ep).frozen? ⟨w.heap.size + 1 + 1 + 1 + 1, 0, none⟩ = false ∧ (encW w r x0 x1 x2 bp ep).frozen? ⟨w.heap.size + 1 + 1 + 1 + 1, 1, none⟩ = false := by
  unfold encW
  refine ⟨by simp, ((((((Below.refl _ w).alloc (Nat.le_refl _) _).alloc (by simp) _).alloc (by simp; omega) _).alloc (by simp; omega) _).alloc (by simp; omega) _), ?_, ?_, ?_, ?_, ?_, ?_, ?_, ?_, ?_, ?_, ?_⟩ <;> simp [go_sem]
set_option maxRecDepth 100000 in
set_option maxHeartbeats 4000000 in
theorem enclose_fn (r : Nat) (cv : Rw) (s : St) (c : UInt8) (b : Tm) (i : Nat) (e : En) (pv ep : Value) (w : World) (hR : RunAt X r cv w s) (hB : StB s) (hP : PlaceR (Safe X r cv w) w (.fn c b) i pv) (hE : RepE r (Safe X r cv w) w e ep) :
    Calls Tryz.prog 72 #[ptr r, pl (.fn c b), pv, ep] w (EvPost X r cv w s (.ok (.clo i (.fn c b) e) (s.made i (sfree (.fn c b)).length))) := by
  obtain ⟨n1, v1, e1⟩ := enc_gen b
  obtain ⟨qe, rfl⟩ := hE.form
  have hlen := sfree_len (.fn c b)
  obtain ⟨h1, h2, h3, h4, h5, h6, h7, h8, h9⟩ := hB
  have hP0 := Lib.hid hP
  cases hP with
  | mk _ _ bp g cap kv pk hb c0 c1 c3 c4 hkv hc hk =>
    rw [if_pos (show isFun (.fn c b) = true from rfl)] at c4
    have hbl : bp < w.heap.size := hb.1
    show Calls Tryz.prog 72 #[ptr r, .agg #[.int .u8 0, .int .u8 (c.toNat : Int), enc b], ptr bp, .pointer qe] w _
    rw [e1]
    have HE := Lib.hid e1
    clear e1 c0 c3 hkv hc hk
    go_enter Tryz.func72, Tryz.ntmps72
    go_wp2_with fail
    obtain ⟨z, zb, z0, z1, z2, z3, z4, z5, z6, z7, z8, z9, z10⟩ := encW_facts w r (.int .u8 0) (.int .u8 (c.toNat : Int)) (.iface n1 v1) bp (.pointer qe)
    change Code.wp _ _ _ _ (encW w r (.int .u8 0) (.int .u8 (c.toNat : Int)) (.iface n1 v1) bp (.pointer qe))
    generalize encW w r (.int .u8 0) (.int .u8 (c.toNat : Int)) (.iface n1 v1) bp (.pointer qe) = W5 at z zb z0 z1 z2 z3 z4 z5 z6 z7 z8 z9 z10 ⊢
    have d1 := (zb.cell (p := ⟨bp, 1, none⟩) hbl).trans c1
    have d4 := (zb.cell (p := ⟨bp, 4, none⟩) hbl).trans c4
    have hR5 := (hR.below zb).drew
    have hS0 : Safe X r cv W5 w.heap.size := hR.safe zb (Nat.le_refl _) (by omega)
    have hS2 : Safe X r cv W5 (w.heap.size + 1 + 1) := hR.safe zb (by omega) (by omega)
    have hSb : Safe X r cv W5 bp := ((Kep.below zb).safe hb).2
    have C := addClosure_c r cv s (sfree (.fn c b)).length _ hR5 (by omega) (by omega) (by omega)
    have C2 : Calls Tryz.prog 94 #[ptr r, .int .i64 ((sfree (.fn c b)).length : Nat)] W5.drew fun e' w' => ∃ x, e' = .returned x ∧ x = .tuple #[] ∧ RunAt X r cv w' { s with clos := s.clos + 1, capt := s.capt + (sfree (.fn c b)).length } ∧ Kep r cv W5 cv w' ∧ w'.cell? ⟨w.heap.size, 0, none⟩ = some (ptr r) ∧ w'.cell? ⟨w.heap.size + 1 + 1, 0, none⟩ = some (ptr bp) ∧ w'.cell? ⟨bp, 4, none⟩ = some (.int .i64 ((sfree (.fn c b)).length : Nat)) := C.mono (by
      rintro e' w' ⟨rfl, q1, q2⟩
      have q3 := (Kep.below ((Below.refl _ W5).drew)).trans q2
      exact ⟨_, rfl, rfl, q1, q3, q3.cell hS0 z0, q3.cell hS2 z4, q3.cell hSb d4⟩)
    clear C
    go_region_held3 (fun w' => w'.cell? ⟨w.heap.size, 0, none⟩ = some (ptr r) ∧ w'.cell? ⟨w.heap.size + 1 + 1, 0, none⟩ = some (ptr bp) ∧ w'.cell? ⟨bp, 4, none⟩ = some (.int .i64 ((sfree (.fn c b)).length : Nat)))
      (first | go_keep | refine ⟨?_, ?_, ?_⟩ <;> assumption)
      (first | (refine C2.mono ?_; rintro e' w2 ⟨x, rfl, rfl, hR2, hK2, q0, q2, q4⟩))
    have hS1 : Safe X r cv W5 (w.heap.size + 1) := hR.safe zb (by omega) (by omega)
    have hS3 : Safe X r cv W5 (w.heap.size + 1 + 1 + 1) := hR.safe zb (by omega) (by omega)
    have hS4 : Safe X r cv W5 (w.heap.size + 1 + 1 + 1 + 1) := hR.safe zb (by omega) (by omega)
    have yb := hK2.cell hSb d1
    have hs2 := hK2.size
    have lr : r < w2.heap.size := hR2.lt
    have lb : bp < w2.heap.size := by omega
    have l0 : w.heap.size < w2.heap.size := by omega
    have l2 : w.heap.size + 1 + 1 < w2.heap.size := by omega
    have lrr : r + 1 ≤ ((w2.alloc (.cells #[.int .i64 (i : Int)] 3)).drew).heap.size := by simp; omega
    have hlen2 : s.encl.length ≤ 10000 := by omega
    have nB : some w.heap.size ≠ cv.d.ownBlock := fun e => hS0.2.2.1 (.inr e.symm)
    obtain ⟨_, _, _, _, _, _, _, _, r8, _, rf⟩ := hR2.at
    clear C2 q4 h7 h8 h9
    go_wp2_with fail
    apply wp_cut (fun gr cr w5 => w5.ownsRow (r + 1) 3 1 (.slice (some ⟨gr, 0, none⟩) (s.encl.length + 1) cr) (s.encl.length + 1) (intsV s.encl ++ [.int .i64 (i : Int)]) ∧ (w2.alloc (.cells #[.int .i64 (i : Int)] 3)).drew.grownBy w5 cv.d.ownBlock ∧ ((Value.slice (some ⟨gr, 0, none⟩) (s.encl.length + 1) cr).ownBlock = cv.d.ownBlock ∨ (Value.slice (some ⟨gr, 0, none⟩) (s.encl.length + 1) cr).ownBlock = some (w2.alloc (.cells #[.int .i64 (i : Int)] 3)).drew.heap.size)) (fun gr cr w5 => w5.setCell ⟨r, 8, none⟩ (.slice (some ⟨gr, 0, none⟩) (s.encl.length + 1) cr))
    case h =>
      go_region_law (first | ((refine step_app_int _ (by rfl) _ _ (by rfl) (r + 1) cv.d s.encl.length (intsV s.encl) (by rfl) (row_up hR2.rowD _) ⟨w2.heap.size, 0, none⟩ [.int .i64 (i : Int)] (by rfl) rfl (nine_block (cs := [.int .i64 (i : Int)]) (alloc_at w2 _)) (by simp [Value.oneCell']) hlen2 lrr ?_); intro gr cr w5 hrow5 hgr5 hwh5; obtain ⟨c58, fz58⟩ := hR2.cellD hgr5; have c50 := (World.cell?_of_block (a := ⟨w.heap.size, 0, none⟩) (grown_block hgr5 l0 nB)).trans q0))
      all_goals exact ⟨gr, cr, w5, ⟨hrow5, hgr5, hwh5⟩, rfl, rfl⟩
    rintro gr cr w5 ⟨hrow5, hgr5, hwh5⟩
    obtain ⟨hR3, K3⟩ := hR2.addEncl hrow5 hgr5 hwh5
    have K53 := hK2.trans K3
    have hs3 := K3.size
    generalize (w5.setCell ⟨r, 8, none⟩ (.slice (some ⟨gr, 0, none⟩) (s.encl.length + 1) cr)) = w3 at hR3 K3 K53 hs3 ⊢
    generalize (Value.slice (some ⟨gr, 0, none⟩) (s.encl.length + 1) cr) = d3 at hR3 K3 K53
    clear hrow5 hgr5 hwh5 r8 rf q0 q2 lrr hlen2 yb lr lb l0 l2 hK2 hR2 hs2
    have q0 := K53.cell hS0 z0
    have q2 := K53.cell hS2 z4
    have y1 := K53.cell hS1 z1
    have y2 := K53.cell hS1 z2
    have y5 := K53.cell hS3 z5
    have y6 := K53.frozen hS3 z6
    have y7 := K53.cell hS4 z7
    have y8 := K53.cell hS4 z8
    have y9 := K53.frozen hS4 z9
    have y10 := K53.frozen hS4 z10
    have hs2 := K53.size
    have l0 : w.heap.size < w3.heap.size := by omega
    have l1 : w.heap.size + 1 < w3.heap.size := by omega
    have l2 : w.heap.size + 1 + 1 < w3.heap.size := by omega
    have l3 : w.heap.size + 1 + 1 + 1 < w3.heap.size := by omega
    have l4 : w.heap.size + 1 + 1 + 1 + 1 < w3.heap.size := by omega
    have KF := (Kep.below zb).trans K53
    have e0 := (K53.safe hS0).2
    have e1 := (K53.safe hS1).2
    have e2 := (K53.safe hS2).2
    have e3 := (K53.safe hS3).2
    have e4 := (K53.safe hS4).2
    clear z0 z1 z2 z3 z4 z5 z6 z7 z8 z9 z10 d1 d4 hR5 hS0 hS1 hS2 hS3 hS4 hSb K3
    go_wp2_with fail
    obtain ⟨k0, k1⟩ := set_two (u0 := .int .i64 0) (u1 := .iface 179 (ptr w3.heap.size)) y7 y8
    have hA := ((Below.refl (w3.heap.size) ((w3.setCell ⟨w.heap.size + 1 + 1 + 1 + 1, 0, none⟩ (.int .i64 0)).setCell ⟨w.heap.size + 1 + 1 + 1 + 1, 1, none⟩ (.iface 179 (ptr w3.heap.size)))).alloc (by simp) (.cells #[.func (.func 95) #[] #[ptr w.heap.size, ptr (w.heap.size + 1 + 1), ptr (w.heap.size + 1 + 1 + 1), ptr (w.heap.size + 1)]] 182))
    have j0 := (hA.cell (p := ⟨w.heap.size + 1 + 1 + 1 + 1, 0, none⟩) l4).trans k0
    have j1 := (hA.cell (p := ⟨w.heap.size + 1 + 1 + 1 + 1, 1, none⟩) l4).trans k1
    refine bodyPost_ret (v := .agg #[.int .i64 0, .iface 179 (ptr w3.heap.size)]) (by simp [results, Tryz.results72, go_sem, j0, j1]) rfl ?_
    have sN := hR3.new (X := X) (W := ((w3.setCell ⟨w.heap.size + 1 + 1 + 1 + 1, 0, none⟩ (.int .i64 0)).setCell ⟨w.heap.size + 1 + 1 + 1 + 1, 1, none⟩ (.iface 179 (ptr w3.heap.size))).alloc (.cells #[.func (.func 95) #[] #[ptr w.heap.size, ptr (w.heap.size + 1 + 1), ptr (w.heap.size + 1 + 1 + 1), ptr (w.heap.size + 1)]] 182)) (g := w3.heap.size) (Nat.le_refl _) (by simp)
    refine clo_post (ee := .pointer qe) hR (((hR3.setSafe e4 _ _).setSafe (e4.set _ _) _ _).alloc _) (((KF.setNew (by omega) _ _).setNew (by omega) _ _).alloc _) hP0.out hE (b := w3.heap.size) (b0 := w.heap.size) (b1 := w.heap.size + 1) (b2 := w.heap.size + 1 + 1) (b3 := w.heap.size + 1 + 1 + 1) sN (((e0.set _ _).set _ _).alloc _) (((e1.set _ _).set _ _).alloc _) (((e2.set _ _).set _ _).alloc _) (((e3.set _ _).set _ _).alloc _) ?_ ?_ ?_ ?_ ?_ rfl
    all_goals simp [go_sem, q0, q2, y2, y5, l0, l1, l2, l3, paramOf]
def cloW (w2 : World) : World := w2.alloc (.cells #[.nilFunc] 182)
theorem cloW_facts (w2 : World) : (cloW w2).heap.size = w2.heap.size + 1 ∧ Below w2.heap.size w2 (cloW w2) ∧ (cloW w2).cell? ⟨w2.heap.size, 0, none⟩ = some .nilFunc ∧ (cloW w2).frozen? ⟨w2.heap.size, 0, none⟩ = false := by
  unfold cloW
  refine ⟨by simp, ((Below.refl _ w2).alloc (Nat.le_refl _) _), ?_, ?_⟩ <;> simp [go_sem]
set_option maxRecDepth 100000 in
set_option maxHeartbeats 4000000 in
theorem enclose_fix (r : Nat) (cv : Rw) (s : St) (f c : UInt8) (b : Tm) (i : Nat) (e : En) (pv ep : Value) (w : World) (hR : RunAt X r cv w s) (hB : StB s) (hf0 : f.toNat ≠ 0) (hP : PlaceR (Safe X r cv w) w (.fix f c b) i pv) (hE : RepE r (Safe X r cv w) w e ep) :
    Calls Tryz.prog 72 #[ptr r, pl (.fix f c b), pv, ep] w (EvPost X r cv w s (.ok (.clo i (.fix f c b) e) (s.made i (sfree (.fix f c b)).length))) := by
  obtain ⟨n1, v1, e1⟩ := enc_gen b
  obtain ⟨qe, rfl⟩ := hE.form
  have hlen := sfree_len (.fix f c b)
  obtain ⟨h1, h2, h3, h4, h5, h6, h7, h8, h9⟩ := hB
  have hP0 := Lib.hid hP
  cases hP with
  | mk _ _ bp g cap kv pk hb c0 c1 c3 c4 hkv hc hk =>
    rw [if_pos (show isFun (.fix f c b) = true from rfl)] at c4
    have hbl : bp < w.heap.size := hb.1
    show Calls Tryz.prog 72 #[ptr r, .agg #[.int .u8 (f.toNat : Int), .int .u8 (c.toNat : Int), enc b], ptr bp, .pointer qe] w _
    rw [e1]
    have HE := Lib.hid e1
    clear e1 c0 c3 hkv hc hk
    go_enter Tryz.func72, Tryz.ntmps72
    go_wp2_with fail
    obtain ⟨z, zb, z0, z1, z2, z3, z4, z5, z6, z7, z8, z9, z10⟩ := encW_facts w r (.int .u8 (f.toNat : Int)) (.int .u8 (c.toNat : Int)) (.iface n1 v1) bp (.pointer qe)
    change Code.wp _ _ _ _ (encW w r (.int .u8 (f.toNat : Int)) (.int .u8 (c.toNat : Int)) (.iface n1 v1) bp (.pointer qe))
    generalize encW w r (.int .u8 (f.toNat : Int)) (.int .u8 (c.toNat : Int)) (.iface n1 v1) bp (.pointer qe) = W5 at z zb z0 z1 z2 z3 z4 z5 z6 z7 z8 z9 z10 ⊢
    have d1 := (zb.cell (p := ⟨bp, 1, none⟩) hbl).trans c1
    have d4 := (zb.cell (p := ⟨bp, 4, none⟩) hbl).trans c4
    have hR5 := (hR.below zb).drew
    have hS0 : Safe X r cv W5 w.heap.size := hR.safe zb (Nat.le_refl _) (by omega)
    have hS2 : Safe X r cv W5 (w.heap.size + 1 + 1) := hR.safe zb (by omega) (by omega)
    have hSb : Safe X r cv W5 bp := ((Kep.below zb).safe hb).2
    have C := addClosure_c r cv s (sfree (.fix f c b)).length _ hR5 (by omega) (by omega) (by omega)
    have C2 : Calls Tryz.prog 94 #[ptr r, .int .i64 ((sfree (.fix f c b)).length : Nat)] W5.drew fun e' w' => ∃ x, e' = .returned x ∧ x = .tuple #[] ∧ RunAt X r cv w' { s with clos := s.clos + 1, capt := s.capt + (sfree (.fix f c b)).length } ∧ Kep r cv W5 cv w' ∧ w'.cell? ⟨w.heap.size, 0, none⟩ = some (ptr r) ∧ w'.cell? ⟨w.heap.size + 1 + 1, 0, none⟩ = some (ptr bp) ∧ w'.cell? ⟨bp, 4, none⟩ = some (.int .i64 ((sfree (.fix f c b)).length : Nat)) := C.mono (by
      rintro e' w' ⟨rfl, q1, q2⟩
      have q3 := (Kep.below ((Below.refl _ W5).drew)).trans q2
      exact ⟨_, rfl, rfl, q1, q3, q3.cell hS0 z0, q3.cell hS2 z4, q3.cell hSb d4⟩)
    clear C
    go_region_held3 (fun w' => w'.cell? ⟨w.heap.size, 0, none⟩ = some (ptr r) ∧ w'.cell? ⟨w.heap.size + 1 + 1, 0, none⟩ = some (ptr bp) ∧ w'.cell? ⟨bp, 4, none⟩ = some (.int .i64 ((sfree (.fix f c b)).length : Nat)))
      (first | go_keep | refine ⟨?_, ?_, ?_⟩ <;> assumption)
      (first | (refine C2.mono ?_; rintro e' w2 ⟨x, rfl, rfl, hR2, hK2, q0, q2, q4⟩))
    have hS1 : Safe X r cv W5 (w.heap.size + 1) := hR.safe zb (by omega) (by omega)
    have hS3 : Safe X r cv W5 (w.heap.size + 1 + 1 + 1) := hR.safe zb (by omega) (by omega)
    have hS4 : Safe X r cv W5 (w.heap.size + 1 + 1 + 1 + 1) := hR.safe zb (by omega) (by omega)
    have yb := hK2.cell hSb d1
    have hs2 := hK2.size
    have lr : r < w2.heap.size := hR2.lt
    have lb : bp < w2.heap.size := by omega
    have l0 : w.heap.size < w2.heap.size := by omega
    have l2 : w.heap.size + 1 + 1 < w2.heap.size := by omega
    have lrr : r + 1 ≤ ((w2.alloc (.cells #[.int .i64 (i : Int)] 3)).drew).heap.size := by simp; omega
    have hlen2 : s.encl.length ≤ 10000 := by omega
    have nB : some w.heap.size ≠ cv.d.ownBlock := fun e => hS0.2.2.1 (.inr e.symm)
    obtain ⟨_, _, _, _, _, _, _, _, r8, _, rf⟩ := hR2.at
    clear C2 q4 h7 h8 h9
    go_wp2_with fail
    apply wp_cut (fun gr cr w5 => w5.ownsRow (r + 1) 3 1 (.slice (some ⟨gr, 0, none⟩) (s.encl.length + 1) cr) (s.encl.length + 1) (intsV s.encl ++ [.int .i64 (i : Int)]) ∧ (w2.alloc (.cells #[.int .i64 (i : Int)] 3)).drew.grownBy w5 cv.d.ownBlock ∧ ((Value.slice (some ⟨gr, 0, none⟩) (s.encl.length + 1) cr).ownBlock = cv.d.ownBlock ∨ (Value.slice (some ⟨gr, 0, none⟩) (s.encl.length + 1) cr).ownBlock = some (w2.alloc (.cells #[.int .i64 (i : Int)] 3)).drew.heap.size)) (fun gr cr w5 => w5.setCell ⟨r, 8, none⟩ (.slice (some ⟨gr, 0, none⟩) (s.encl.length + 1) cr))
    case h =>
      go_region_law (first | ((refine step_app_int _ (by rfl) _ _ (by rfl) (r + 1) cv.d s.encl.length (intsV s.encl) (by rfl) (row_up hR2.rowD _) ⟨w2.heap.size, 0, none⟩ [.int .i64 (i : Int)] (by rfl) rfl (nine_block (cs := [.int .i64 (i : Int)]) (alloc_at w2 _)) (by simp [Value.oneCell']) hlen2 lrr ?_); intro gr cr w5 hrow5 hgr5 hwh5; obtain ⟨c58, fz58⟩ := hR2.cellD hgr5; have c50 := (World.cell?_of_block (a := ⟨w.heap.size, 0, none⟩) (grown_block hgr5 l0 nB)).trans q0))
      all_goals exact ⟨gr, cr, w5, ⟨hrow5, hgr5, hwh5⟩, rfl, rfl⟩
    rintro gr cr w5 ⟨hrow5, hgr5, hwh5⟩
    obtain ⟨hR3, K3⟩ := hR2.addEncl hrow5 hgr5 hwh5
    have K53 := hK2.trans K3
    have hs3 := K3.size
    generalize (w5.setCell ⟨r, 8, none⟩ (.slice (some ⟨gr, 0, none⟩) (s.encl.length + 1) cr)) = w3 at hR3 K3 K53 hs3 ⊢
    generalize (Value.slice (some ⟨gr, 0, none⟩) (s.encl.length + 1) cr) = d3 at hR3 K3 K53
    clear hrow5 hgr5 hwh5 r8 rf q0 q2 lrr hlen2 yb lr lb l0 l2 hK2 hR2 hs2
    have q0 := K53.cell hS0 z0
    have q2 := K53.cell hS2 z4
    have y1 := K53.cell hS1 z1
    have y2 := K53.cell hS1 z2
    have y5 := K53.cell hS3 z5
    have y6 := K53.frozen hS3 z6
    have y7 := K53.cell hS4 z7
    have y8 := K53.cell hS4 z8
    have y9 := K53.frozen hS4 z9
    have y10 := K53.frozen hS4 z10
    have hs2 := K53.size
    have l0 : w.heap.size < w3.heap.size := by omega
    have l1 : w.heap.size + 1 < w3.heap.size := by omega
    have l2 : w.heap.size + 1 + 1 < w3.heap.size := by omega
    have l3 : w.heap.size + 1 + 1 + 1 < w3.heap.size := by omega
    have l4 : w.heap.size + 1 + 1 + 1 + 1 < w3.heap.size := by omega
    have KF := (Kep.below zb).trans K53
    have e0 := (K53.safe hS0).2
    have e1 := (K53.safe hS1).2
    have e2 := (K53.safe hS2).2
    have e3 := (K53.safe hS3).2
    have e4 := (K53.safe hS4).2
    clear z0 z1 z2 z3 z4 z5 z6 z7 z8 z9 z10 d1 d4 hR5 hS0 hS1 hS2 hS3 hS4 hSb K3
    have hz : ((f.toNat : Int) == 0) = false := by rw [beq_eq_false_iff_ne]; omega
    have x4 := hE.top (B := w3.heap.size + 2) (fun g hg => by have := hg.1; omega)
    go_wp2_with fail
    obtain ⟨v, vb, v1', v2⟩ := cloW_facts w3
    change Calls _ _ _ (cloW w3) _
    generalize cloW w3 = W22 at v vb v1' v2 ⊢
    refine (with_c (.pointer qe) f (.int .i64 0) (.iface 179 (ptr w3.heap.size)) ⟨_, rfl⟩ ⟨some (_, _), rfl⟩ ⟨_, rfl⟩ W22).mono ?_
    rintro e' w4 ⟨bs, rfl, hb1, hb2, hb3, g0, g1, g2, g3⟩
    have hs4 := hb3.size
    have B4 := vb.trans (hb3.mono (by omega))
    have q0' := (B4.cell (p := ⟨w.heap.size, 0, none⟩) l0).trans q0
    have q2' := (B4.cell (p := ⟨w.heap.size + 1 + 1, 0, none⟩) l2).trans q2
    have y2' := (B4.cell (p := ⟨w.heap.size + 1, 1, none⟩) l1).trans y2
    have y5' := (B4.cell (p := ⟨w.heap.size + 1 + 1 + 1, 0, none⟩) l3).trans y5
    have y6' := (B4.frozen (p := ⟨w.heap.size + 1 + 1 + 1, 0, none⟩) l3).trans y6
    have y7' := (B4.cell (p := ⟨w.heap.size + 1 + 1 + 1 + 1, 0, none⟩) l4).trans y7
    have y8' := (B4.cell (p := ⟨w.heap.size + 1 + 1 + 1 + 1, 1, none⟩) l4).trans y8
    have y9' := (B4.frozen (p := ⟨w.heap.size + 1 + 1 + 1 + 1, 0, none⟩) l4).trans y9
    have y10' := (B4.frozen (p := ⟨w.heap.size + 1 + 1 + 1 + 1, 1, none⟩) l4).trans y10
    have v1'' := (hb3.cell (p := ⟨w3.heap.size, 0, none⟩) (by show w3.heap.size < _; omega)).trans v1'
    have v2' := (hb3.frozen (p := ⟨w3.heap.size, 0, none⟩) (by show w3.heap.size < _; omega)).trans v2
    have hR4 := hR3.below B4
    have K4 := KF.trans (Kep.below B4)
    have kb := Kep.below (r := r) (cv := ⟨cv.c, d3⟩) B4
    have f0' := (kb.safe e0).2
    have f1' := (kb.safe e1).2
    have f2' := (kb.safe e2).2
    have f3' := (kb.safe e3).2
    have f4' := (kb.safe e4).2
    have fN := hR3.new (X := X) (W := w4) (g := w3.heap.size) (Nat.le_refl _) (by omega)
    have fB := hR3.new (X := X) (W := w4) (g := bs) (by omega) hb2
    have n1 : w3.heap.size ≠ w.heap.size + 1 + 1 + 1 := by omega
    have n2 : w3.heap.size ≠ w.heap.size + 1 + 1 + 1 + 1 := by omega
    have n5 : w.heap.size + 1 + 1 + 1 ≠ w.heap.size + 1 + 1 + 1 + 1 := by omega
    clear q0 q2 y1 y2 y5 y6 y7 y8 y9 y10 v1' v2 hR3 kb
    go_wp2_with fail
    have m0 : bs ≠ w.heap.size + 1 + 1 + 1 := by omega
    have m1 : bs ≠ w3.heap.size := by omega
    have m2 : bs ≠ w.heap.size + 1 + 1 + 1 + 1 := by omega
    have m3 : w.heap.size ≠ w3.heap.size := by omega
    have m4 : w.heap.size + 1 ≠ w3.heap.size := by omega
    have m5 : w.heap.size + 1 + 1 ≠ w3.heap.size := by omega
    have p40 : w.heap.size + 1 + 1 + 1 + 1 ≠ w.heap.size := by omega
    have p41 : w.heap.size + 1 + 1 + 1 + 1 ≠ w.heap.size + 1 := by omega
    have p42 : w.heap.size + 1 + 1 + 1 + 1 ≠ w.heap.size + 1 + 1 := by omega
    have p30 : w.heap.size + 1 + 1 + 1 ≠ w.heap.size := by omega
    have p31 : w.heap.size + 1 + 1 + 1 ≠ w.heap.size + 1 := by omega
    have p32 : w.heap.size + 1 + 1 + 1 ≠ w.heap.size + 1 + 1 := by omega
    have f1 : ∀ (p a : Addr) (v : Value) (W : World), p.block ≠ a.block → (W.setCell p v).cell? a = W.cell? a := fun p a v W h => World.cell?_setCell_other W p a v (fun e => h (by rw [e]))
    have j7 : ((w4.setCell ⟨w.heap.size + 1 + 1 + 1, 0, none⟩ (ptr bs)).setCell ⟨w3.heap.size, 0, none⟩ (.func (.func 95) #[] #[ptr w.heap.size, ptr (w.heap.size + 1 + 1), ptr (w.heap.size + 1 + 1 + 1), ptr (w.heap.size + 1)])).cell? ⟨w.heap.size + 1 + 1 + 1 + 1, 0, none⟩ = some (.int .i64 0) := by rw [f1 _ _ _ _ n2, f1 _ _ _ _ n5]; exact y7'
    have j8 : ((w4.setCell ⟨w.heap.size + 1 + 1 + 1, 0, none⟩ (ptr bs)).setCell ⟨w3.heap.size, 0, none⟩ (.func (.func 95) #[] #[ptr w.heap.size, ptr (w.heap.size + 1 + 1), ptr (w.heap.size + 1 + 1 + 1), ptr (w.heap.size + 1)])).cell? ⟨w.heap.size + 1 + 1 + 1 + 1, 1, none⟩ = some .nilIface := by rw [f1 _ _ _ _ n2, f1 _ _ _ _ n5]; exact y8'
    obtain ⟨k0, k1⟩ := set_two (u0 := .int .i64 0) (u1 := (.iface 179 (ptr w3.heap.size))) j7 j8
    refine bodyPost_ret (v := .agg #[.int .i64 0, (.iface 179 (ptr w3.heap.size))]) (by simp [results, Tryz.results72, go_sem, k0, k1]) rfl ?_
    refine clo_post (ee := ptr bs) (e0 := .pointer qe) hR ((((hR4.setSafe f3' _ _).setSafe (fN.set _ _) _ _).setSafe ((f4'.set _ _).set _ _) _ _).setSafe (((f4'.set _ _).set _ _).set _ _) _ _) ((((K4.setNew (by omega) _ _).setNew (by omega) _ _).setNew (by omega) _ _).setNew (by omega) _ _) hP0.out hE (b := w3.heap.size) (b0 := w.heap.size) (b1 := w.heap.size + 1) (b2 := w.heap.size + 1 + 1) (b3 := w.heap.size + 1 + 1 + 1) ((((fN.set _ _).set _ _).set _ _).set _ _) ((((f0'.set _ _).set _ _).set _ _).set _ _) ((((f1'.set _ _).set _ _).set _ _).set _ _) ((((f2'.set _ _).set _ _).set _ _).set _ _) ((((f3'.set _ _).set _ _).set _ _).set _ _) ?_ ?_ ?_ ?_ ?_ ?_
    · rw [f1 _ _ _ _ n2.symm, f1 _ _ _ _ n2.symm]
      exact World.cell?_setCell_same _ _ _ (u := .nilFunc) (by rw [f1 _ _ _ _ n1.symm]; exact v1'')
    · rw [f1 _ _ _ _ p40, f1 _ _ _ _ p40, f1 _ _ _ _ m3.symm, f1 _ _ _ _ p30]; exact q0'
    · rw [f1 _ _ _ _ p42, f1 _ _ _ _ p42, f1 _ _ _ _ m5.symm, f1 _ _ _ _ p32]; exact q2'
    · rw [f1 _ _ _ _ n5.symm, f1 _ _ _ _ n5.symm, f1 _ _ _ _ n1]
      exact World.cell?_setCell_same _ _ _ (u := .pointer qe) y5'
    · rw [f1 _ _ _ _ p41, f1 _ _ _ _ p41, f1 _ _ _ _ m4.symm, f1 _ _ _ _ p31]; exact y2'
    · have f2 : ∀ k v, w4.cell? ⟨bs, k, none⟩ = some v → ((((w4.setCell ⟨w.heap.size + 1 + 1 + 1, 0, none⟩ (ptr bs)).setCell ⟨w3.heap.size, 0, none⟩ (.func (.func 95) #[] #[ptr w.heap.size, ptr (w.heap.size + 1 + 1), ptr (w.heap.size + 1 + 1 + 1), ptr (w.heap.size + 1)])).setCell ⟨w.heap.size + 1 + 1 + 1 + 1, 0, none⟩ (.int .i64 0)).setCell ⟨w.heap.size + 1 + 1 + 1 + 1, 1, none⟩ (.iface 179 (ptr w3.heap.size))).cell? ⟨bs, k, none⟩ = some v := fun k v hv => by
        rw [f1 _ _ _ _ m2.symm, f1 _ _ _ _ m2.symm, f1 _ _ _ _ m1.symm, f1 _ _ _ _ m0.symm]; exact hv
      exact ⟨bs, rfl, ((((fB.set _ _).set _ _).set _ _).set _ _), f2 _ _ g0, f2 _ _ g1, f2 _ _ g2, f2 _ _ g3, by have := hE.top (B := w.heap.size) (fun g hg => hg.1); omega⟩
end Go.Proofs.YthjhpfcilaghgaaGreatDoor
