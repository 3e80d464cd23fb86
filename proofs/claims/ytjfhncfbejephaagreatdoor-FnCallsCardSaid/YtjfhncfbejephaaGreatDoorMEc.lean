import Derived.Test.YtjfhncfbejephaaGreatDoorMEb
/- The program's evaluate, at each kind of term. Written by genK.py. -/
namespace Go.Proofs.YtjfhncfbejephaaGreatDoor
open Go.RowKit Go.Shelf
open Ff
set_option linter.unusedVariables false
variable {X : Nat → Prop}
attribute [local irreducible] Calls
attribute [local go_sem] storeIF

/-- A place's own cells. -/
theorem place_at {S : Nat → Prop} {w : World} {t : Tm} {i : Nat} {v : Value} (h : PlaceR S w t i v) : ∃ b, v = ptr b ∧ S b ∧ w.cell? ⟨b, 0, none⟩ = some (enc t) := by
  cases h with
  | mk _ _ b g cap kv pk hb c0 c1 c3 c4 hkv hc hk => exact ⟨b, rfl, hb, c0⟩
theorem tz_number_number (v : Value) (w : World) : (Instr.typeAssert (.iface 137 v) 63 137 true).run Tryz.prog w = .ok (.tuple #[v, .bool true]) w := by kernel_rfl
theorem tz_reading_number (v : Value) (w : World) : (Instr.typeAssert (.iface 122 v) 63 137 true).run Tryz.prog w = .ok (.tuple #[.agg #[.int .i64 0], .bool false]) w := by kernel_rfl
theorem tz_reading_reading (v : Value) (w : World) : (Instr.typeAssert (.iface 122 v) 63 122 true).run Tryz.prog w = .ok (.tuple #[v, .bool true]) w := by kernel_rfl
theorem tz_function_number (v : Value) (w : World) : (Instr.typeAssert (.iface 140 v) 63 137 true).run Tryz.prog w = .ok (.tuple #[.agg #[.int .i64 0], .bool false]) w := by kernel_rfl
theorem tz_function_reading (v : Value) (w : World) : (Instr.typeAssert (.iface 140 v) 63 122 true).run Tryz.prog w = .ok (.tuple #[.agg #[.int .u8 0], .bool false]) w := by kernel_rfl
theorem tz_function_function (v : Value) (w : World) : (Instr.typeAssert (.iface 140 v) 63 140 true).run Tryz.prog w = .ok (.tuple #[v, .bool true]) w := by kernel_rfl
theorem tz_call_number (v : Value) (w : World) : (Instr.typeAssert (.iface 143 v) 63 137 true).run Tryz.prog w = .ok (.tuple #[.agg #[.int .i64 0], .bool false]) w := by kernel_rfl
theorem tz_call_reading (v : Value) (w : World) : (Instr.typeAssert (.iface 143 v) 63 122 true).run Tryz.prog w = .ok (.tuple #[.agg #[.int .u8 0], .bool false]) w := by kernel_rfl
theorem tz_call_function (v : Value) (w : World) : (Instr.typeAssert (.iface 143 v) 63 140 true).run Tryz.prog w = .ok (.tuple #[.agg #[.int .u8 0, .int .u8 0, .nilIface], .bool false]) w := by kernel_rfl
theorem tz_call_call (v : Value) (w : World) : (Instr.typeAssert (.iface 143 v) 63 143 true).run Tryz.prog w = .ok (.tuple #[v, .bool true]) w := by kernel_rfl
theorem tz_let_number (v : Value) (w : World) : (Instr.typeAssert (.iface 146 v) 63 137 true).run Tryz.prog w = .ok (.tuple #[.agg #[.int .i64 0], .bool false]) w := by kernel_rfl
theorem tz_let_reading (v : Value) (w : World) : (Instr.typeAssert (.iface 146 v) 63 122 true).run Tryz.prog w = .ok (.tuple #[.agg #[.int .u8 0], .bool false]) w := by kernel_rfl
theorem tz_let_function (v : Value) (w : World) : (Instr.typeAssert (.iface 146 v) 63 140 true).run Tryz.prog w = .ok (.tuple #[.agg #[.int .u8 0, .int .u8 0, .nilIface], .bool false]) w := by kernel_rfl
theorem tz_let_call (v : Value) (w : World) : (Instr.typeAssert (.iface 146 v) 63 143 true).run Tryz.prog w = .ok (.tuple #[.agg #[.nilIface, .nilIface], .bool false]) w := by kernel_rfl
theorem tz_let_let (v : Value) (w : World) : (Instr.typeAssert (.iface 146 v) 63 146 true).run Tryz.prog w = .ok (.tuple #[v, .bool true]) w := by kernel_rfl
theorem tz_operation_number (v : Value) (w : World) : (Instr.typeAssert (.iface 149 v) 63 137 true).run Tryz.prog w = .ok (.tuple #[.agg #[.int .i64 0], .bool false]) w := by kernel_rfl
theorem tz_operation_reading (v : Value) (w : World) : (Instr.typeAssert (.iface 149 v) 63 122 true).run Tryz.prog w = .ok (.tuple #[.agg #[.int .u8 0], .bool false]) w := by kernel_rfl
theorem tz_operation_function (v : Value) (w : World) : (Instr.typeAssert (.iface 149 v) 63 140 true).run Tryz.prog w = .ok (.tuple #[.agg #[.int .u8 0, .int .u8 0, .nilIface], .bool false]) w := by kernel_rfl
theorem tz_operation_call (v : Value) (w : World) : (Instr.typeAssert (.iface 149 v) 63 143 true).run Tryz.prog w = .ok (.tuple #[.agg #[.nilIface, .nilIface], .bool false]) w := by kernel_rfl
theorem tz_operation_let (v : Value) (w : World) : (Instr.typeAssert (.iface 149 v) 63 146 true).run Tryz.prog w = .ok (.tuple #[.agg #[.int .u8 0, .nilIface, .nilIface], .bool false]) w := by kernel_rfl
theorem tz_operation_operation (v : Value) (w : World) : (Instr.typeAssert (.iface 149 v) 63 149 true).run Tryz.prog w = .ok (.tuple #[v, .bool true]) w := by kernel_rfl
theorem tz_choice_number (v : Value) (w : World) : (Instr.typeAssert (.iface 153 v) 63 137 true).run Tryz.prog w = .ok (.tuple #[.agg #[.int .i64 0], .bool false]) w := by kernel_rfl
theorem tz_choice_reading (v : Value) (w : World) : (Instr.typeAssert (.iface 153 v) 63 122 true).run Tryz.prog w = .ok (.tuple #[.agg #[.int .u8 0], .bool false]) w := by kernel_rfl
theorem tz_choice_function (v : Value) (w : World) : (Instr.typeAssert (.iface 153 v) 63 140 true).run Tryz.prog w = .ok (.tuple #[.agg #[.int .u8 0, .int .u8 0, .nilIface], .bool false]) w := by kernel_rfl
theorem tz_choice_call (v : Value) (w : World) : (Instr.typeAssert (.iface 153 v) 63 143 true).run Tryz.prog w = .ok (.tuple #[.agg #[.nilIface, .nilIface], .bool false]) w := by kernel_rfl
theorem tz_choice_let (v : Value) (w : World) : (Instr.typeAssert (.iface 153 v) 63 146 true).run Tryz.prog w = .ok (.tuple #[.agg #[.int .u8 0, .nilIface, .nilIface], .bool false]) w := by kernel_rfl
theorem tz_choice_operation (v : Value) (w : World) : (Instr.typeAssert (.iface 153 v) 63 149 true).run Tryz.prog w = .ok (.tuple #[.agg #[.int .u8 0, .nilIface, .nilIface], .bool false]) w := by kernel_rfl
theorem tz_choice_choice (v : Value) (w : World) : (Instr.typeAssert (.iface 153 v) 63 153 true).run Tryz.prog w = .ok (.tuple #[v, .bool true]) w := by kernel_rfl
set_option maxRecDepth 100000 in
set_option maxHeartbeats 8000000 in
theorem ev_num (n : Nat) (ih : EvC n) (k : Nat) (i : Nat) (e : En) (s : St) (r : Nat) (cv : Rw) (pv ep : Value) (w : World) (hn : 1501 ≤ s.step.steps + n) (hs : s.steps < 1500) (hB : StB s) (hok : TmOk (.num k) i e) (hR : RunAt X r cv w s) (hP : PlaceR (Safe X r cv w) w (.num k) i pv) (hE : RepE r (Safe X r cv w) w e ep) :
    Calls Tryz.prog 42 #[ptr r, pv, ep] w (EvPost X r cv w s (evB (ev n) (.num k) i e s.step)) := by
  obtain ⟨b, rfl, hb, c0⟩ := place_at hP
  have hr0 := hR.lt
  have hbl := hb.1
  have hB2 : StB s.step := ⟨hs, by simp only [St.step]; have := hB.calls; omega, by simp only [St.step]; have := hB.clos; omega, by simp only [St.step]; have := hB.capt; omega, hB.deepest, hB.depth, hB.called, hB.froms, hB.encl⟩
  have hcs : s.step.calls < s.step.steps := by simp only [St.step]; have := hB.calls; omega
  have hdep : s.step.depth = s.depth := rfl
  have zb := (Below.refl w.heap.size w).alloc (Nat.le_refl _) (.cells #[.int .i64 0, .nilIface] 106)
  have zz := res_block w
  have zs : (w.alloc (.cells #[.int .i64 0, .nilIface] 106)).heap.size = w.heap.size + 1 := by simp
  go_enter Tryz.func42, Tryz.ntmps42
  generalize hW1 : w.alloc (.cells #[.int .i64 0, .nilIface] 106) = W1 at zb zz zs
  obtain ⟨z0, z1, zz⟩ := zz
  have K1 := Kep.below (r := r) (cv := cv) zb
  have hfin : ∀ (o3 : Ou) (s2 : St) (cv2 : Rw) (w3 w4 : World) (e' : Ending), Kep r cv W1 cv2 w3 → EvPost (AndX X w.heap.size) r cv2 w3 s2 o3 e' w4 → Kep r cv w cv2 w3 ∧ ∃ y0 y1, w4.heap[w.heap.size]? = some (.cells #[y0, y1] 106 (0, 0)) := fun o3 s2 cv2 w3 w4 e' hK h => by
    obtain ⟨cv', hk⟩ := evPost_kep h
    have q0 : Safe X r cv W1 w.heap.size := hR.new (Nat.le_refl _) (by omega)
    exact ⟨K1.trans hK, z0, z1, ((hK.trans hk).safe q0).1.trans zz⟩
  have hown : ∀ (cv2 : Rw) (w4 : World), Kep r cv W1 cv2 w4 → ¬ cv2.own w.heap.size := fun cv2 w4 hK e => by
    rcases hK.own _ e with h | h
    · have := (hR.owns _ h).2; omega
    · omega
  have sb : Safe X r cv W1 b := (K1.safe hb).2
  have C0 := step_c r cv s W1 ((hR.below zb).hide (b := w.heap.size) (by omega)) (by omega)
  go_wp2_with fail
  refine C0.mono ?_
  rintro e' w2 (⟨h, _⟩ | ⟨_, rfl, hR2, hK2⟩)
  · omega
  clear C0
  have a0 := hK2.cell sb ((zb.cell (p := ⟨b, 0, none⟩) hbl).trans c0)
  have hs2 := hK2.size
  have y0 := tz_number_number
  change w2.cell? ⟨b, 0, none⟩ = some (.iface 137 (.agg #[.int .i64 (k : Int)])) at a0
  have hzz : w2.heap[w.heap.size]? = some (.cells #[z0, z1] 106 (0, 0)) := (hK2.safe (hR.new (X := X) (Nat.le_refl _) (by omega))).1.trans zz
  obtain ⟨t0, t1, t2, t3⟩ := two_of hzz
  have e1 : w.heap.size ≠ w2.heap.size := by omega
  have e2 : w.heap.size < w2.heap.size := by omega
  go_wp2_with fail
  obtain ⟨j0, j1⟩ := set_two (u0 := .int .i64 (k : Int)) (u1 := .nilIface) t0 t1
  have e3 : w.heap.size < ((w2.setCell ⟨w.heap.size, 0, none⟩ (.int .i64 (k : Int))).setCell ⟨w.heap.size, 1, none⟩ (.nilIface)).heap.size := by simp; omega
  have x0 := (World.cell?_alloc_lt ((w2.setCell ⟨w.heap.size, 0, none⟩ (.int .i64 (k : Int))).setCell ⟨w.heap.size, 1, none⟩ (.nilIface)) (.cells #[.int .i64 (k : Int)] 137) ⟨w.heap.size, 0, none⟩ e3).trans j0
  have x1 := (World.cell?_alloc_lt ((w2.setCell ⟨w.heap.size, 0, none⟩ (.int .i64 (k : Int))).setCell ⟨w.heap.size, 1, none⟩ (.nilIface)) (.cells #[.int .i64 (k : Int)] 137) ⟨w.heap.size, 1, none⟩ e3).trans j1
  refine bodyPost_ret (v := .agg #[.int .i64 (k : Int), .nilIface]) (by simp [results, Tryz.results42, go_sem, x0, x1]) rfl ?_
  obtain ⟨_, o2, o3⟩ := ev_out0 hR (Nat.le_refl _) (.num k) hR2 (K1.trans hK2) (by omega) (hown _ _ hK2)
  exact ⟨_, cv, rfl, .num k, o2.alloc _, o3.alloc _⟩
set_option maxRecDepth 100000 in
set_option maxHeartbeats 8000000 in
theorem ev_var (n : Nat) (ih : EvC n) (c : UInt8) (i : Nat) (e : En) (s : St) (r : Nat) (cv : Rw) (pv ep : Value) (w : World) (hn : 1501 ≤ s.step.steps + n) (hs : s.steps < 1500) (hB : StB s) (hok : TmOk (.var c) i e) (hR : RunAt X r cv w s) (hP : PlaceR (Safe X r cv w) w (.var c) i pv) (hE : RepE r (Safe X r cv w) w e ep) (v : Vl) (hv : e.find c = some v) :
    Calls Tryz.prog 42 #[ptr r, pv, ep] w (EvPost X r cv w s (evB (ev n) (.var c) i e s.step)) := by
  obtain ⟨b, rfl, hb, c0⟩ := place_at hP
  have hr0 := hR.lt
  have hbl := hb.1
  have hB2 : StB s.step := ⟨hs, by simp only [St.step]; have := hB.calls; omega, by simp only [St.step]; have := hB.clos; omega, by simp only [St.step]; have := hB.capt; omega, hB.deepest, hB.depth, hB.called, hB.froms, hB.encl⟩
  have hcs : s.step.calls < s.step.steps := by simp only [St.step]; have := hB.calls; omega
  have hdep : s.step.depth = s.depth := rfl
  have zb := (Below.refl w.heap.size w).alloc (Nat.le_refl _) (.cells #[.int .i64 0, .nilIface] 106)
  have zz := res_block w
  have zs : (w.alloc (.cells #[.int .i64 0, .nilIface] 106)).heap.size = w.heap.size + 1 := by simp
  go_enter Tryz.func42, Tryz.ntmps42
  generalize hW1 : w.alloc (.cells #[.int .i64 0, .nilIface] 106) = W1 at zb zz zs
  obtain ⟨z0, z1, zz⟩ := zz
  have K1 := Kep.below (r := r) (cv := cv) zb
  have hfin : ∀ (o3 : Ou) (s2 : St) (cv2 : Rw) (w3 w4 : World) (e' : Ending), Kep r cv W1 cv2 w3 → EvPost (AndX X w.heap.size) r cv2 w3 s2 o3 e' w4 → Kep r cv w cv2 w3 ∧ ∃ y0 y1, w4.heap[w.heap.size]? = some (.cells #[y0, y1] 106 (0, 0)) := fun o3 s2 cv2 w3 w4 e' hK h => by
    obtain ⟨cv', hk⟩ := evPost_kep h
    have q0 : Safe X r cv W1 w.heap.size := hR.new (Nat.le_refl _) (by omega)
    exact ⟨K1.trans hK, z0, z1, ((hK.trans hk).safe q0).1.trans zz⟩
  have hown : ∀ (cv2 : Rw) (w4 : World), Kep r cv W1 cv2 w4 → ¬ cv2.own w.heap.size := fun cv2 w4 hK e => by
    rcases hK.own _ e with h | h
    · have := (hR.owns _ h).2; omega
    · omega
  have sb : Safe X r cv W1 b := (K1.safe hb).2
  have C0 := step_c r cv s W1 ((hR.below zb).hide (b := w.heap.size) (by omega)) (by omega)
  go_wp2_with fail
  refine C0.mono ?_
  rintro e' w2 (⟨h, _⟩ | ⟨_, rfl, hR2, hK2⟩)
  · omega
  clear C0
  have a0 := hK2.cell sb ((zb.cell (p := ⟨b, 0, none⟩) hbl).trans c0)
  have hs2 := hK2.size
  have y0 := tz_reading_number
  have y1 := tz_reading_reading
  change w2.cell? ⟨b, 0, none⟩ = some (.iface 122 (.agg #[.int .u8 (c.toNat : Int)])) at a0
  obtain ⟨qe, rfl⟩ := hE.form
  have H2 := (K1.trans hK2).hide (X := X) (b := w.heap.size) (Nat.le_refl _)
  have hE2 := hE.keep H2
  have HEV : evB (ev n) (.var c) i e s.step = .ok v s.step := by show (match e.find c with | some v => Ou.ok v s.step | none => .fault) = _; rw [hv]
  rw [HEV]
  have HE := Lib.hid HEV
  clear HEV
  have q : ∀ o, RepE r (Safe (AndX X w.heap.size) r cv (w2.alloc o)) (w2.alloc o) e (.pointer qe) := fun o => hE2.keep (fun g hg => (Kep.below ((Below.refl _ w2).alloc (Nat.le_refl _) o)).safe hg)
  have C := valueOf_c r _ e (.pointer qe) c v _ (q (.cells #[.int .u8 (c.toNat : Int)] 122)) hv (fun g hg => hg.1)
  have HV := Lib.hid hv
  clear hv
  go_wp2_with fail
  refine C.mono ?_
  rintro e' w4 ⟨x, rfl, hx, hb4⟩
  obtain ⟨u0, u1, rfl, ⟨mu, rfl⟩, ⟨qu, rfl⟩⟩ := hx.form
  have hs4 := hb4.size
  have hal := (Below.refl _ w2).alloc (Nat.le_refl _) (.cells #[.int .u8 (c.toNat : Int)] 122)
  have hbb := hal.trans (hb4.mono hal.size)
  have hK4 := hK2.trans (Kep.below (r := r) (cv := cv) hbb)
  have hsz := hbb.size
  have hzz : w4.heap[w.heap.size]? = some (.cells #[z0, z1] 106 (0, 0)) := (hK4.safe (hR.new (X := X) (Nat.le_refl _) (by omega))).1.trans zz
  obtain ⟨t0, t1, t2, t3⟩ := two_of hzz
  go_wp2_with fail
  refine bodyPost_ret (v := .agg #[.int .i64 mu, IF qu]) (by simp [results, Tryz.results42, go_sem, t0, t1]) rfl ?_
  rw [HE.out]
  exact ev_out hR (Nat.le_refl _) (hx.keep (fun g hg => (Kep.below (r := r) (cv := cv) hb4).safe hg)) (hR2.below hbb) (K1.trans hK4) (by omega) (hown _ _ hK4)
set_option maxRecDepth 100000 in
set_option maxHeartbeats 8000000 in
theorem ev_fn (n : Nat) (ih : EvC n) (c : UInt8) (b0 : Tm) (i : Nat) (e : En) (s : St) (r : Nat) (cv : Rw) (pv ep : Value) (w : World) (hn : 1501 ≤ s.step.steps + n) (hs : s.steps < 1500) (hB : StB s) (hok : TmOk (.fn c b0) i e) (hR : RunAt X r cv w s) (hP : PlaceR (Safe X r cv w) w (.fn c b0) i pv) (hE : RepE r (Safe X r cv w) w e ep) :
    Calls Tryz.prog 42 #[ptr r, pv, ep] w (EvPost X r cv w s (evB (ev n) (.fn c b0) i e s.step)) := by
  obtain ⟨b, rfl, hb, c0⟩ := place_at hP
  have hr0 := hR.lt
  have hbl := hb.1
  have hB2 : StB s.step := ⟨hs, by simp only [St.step]; have := hB.calls; omega, by simp only [St.step]; have := hB.clos; omega, by simp only [St.step]; have := hB.capt; omega, hB.deepest, hB.depth, hB.called, hB.froms, hB.encl⟩
  have hcs : s.step.calls < s.step.steps := by simp only [St.step]; have := hB.calls; omega
  have hdep : s.step.depth = s.depth := rfl
  have zb := (Below.refl w.heap.size w).alloc (Nat.le_refl _) (.cells #[.int .i64 0, .nilIface] 106)
  have zz := res_block w
  have zs : (w.alloc (.cells #[.int .i64 0, .nilIface] 106)).heap.size = w.heap.size + 1 := by simp
  go_enter Tryz.func42, Tryz.ntmps42
  generalize hW1 : w.alloc (.cells #[.int .i64 0, .nilIface] 106) = W1 at zb zz zs
  obtain ⟨z0, z1, zz⟩ := zz
  have K1 := Kep.below (r := r) (cv := cv) zb
  have hfin : ∀ (o3 : Ou) (s2 : St) (cv2 : Rw) (w3 w4 : World) (e' : Ending), Kep r cv W1 cv2 w3 → EvPost (AndX X w.heap.size) r cv2 w3 s2 o3 e' w4 → Kep r cv w cv2 w3 ∧ ∃ y0 y1, w4.heap[w.heap.size]? = some (.cells #[y0, y1] 106 (0, 0)) := fun o3 s2 cv2 w3 w4 e' hK h => by
    obtain ⟨cv', hk⟩ := evPost_kep h
    have q0 : Safe X r cv W1 w.heap.size := hR.new (Nat.le_refl _) (by omega)
    exact ⟨K1.trans hK, z0, z1, ((hK.trans hk).safe q0).1.trans zz⟩
  have hown : ∀ (cv2 : Rw) (w4 : World), Kep r cv W1 cv2 w4 → ¬ cv2.own w.heap.size := fun cv2 w4 hK e => by
    rcases hK.own _ e with h | h
    · have := (hR.owns _ h).2; omega
    · omega
  have sb : Safe X r cv W1 b := (K1.safe hb).2
  have C0 := step_c r cv s W1 ((hR.below zb).hide (b := w.heap.size) (by omega)) (by omega)
  go_wp2_with fail
  refine C0.mono ?_
  rintro e' w2 (⟨h, _⟩ | ⟨_, rfl, hR2, hK2⟩)
  · omega
  clear C0
  have a0 := hK2.cell sb ((zb.cell (p := ⟨b, 0, none⟩) hbl).trans c0)
  have hs2 := hK2.size
  have y0 := tz_function_number
  have y1 := tz_function_reading
  have y2 := tz_function_function
  obtain ⟨n1, v1, e1⟩ := enc_gen b0
  change w2.cell? ⟨b, 0, none⟩ = some (.iface 140 (.agg #[.int .u8 0, .int .u8 (c.toNat : Int), enc b0])) at a0
  obtain ⟨qe, rfl⟩ := hE.form
  have H2 := (K1.trans hK2).hide (X := X) (b := w.heap.size) (Nat.le_refl _)
  have hal : ∀ o g, Safe (AndX X w.heap.size) r cv w2 g → (w2.alloc o).heap[g]? = w2.heap[g]? ∧ Safe (AndX X w.heap.size) r cv (w2.alloc o) g := fun o g hg => (Kep.below ((Below.refl _ w2).alloc (Nat.le_refl _) o)).safe hg
  have C := enclose_fn r cv s.step c b0 i e (ptr b) (.pointer qe) _ (hR2.alloc (.cells #[.int .u8 0, .int .u8 (c.toNat : Int), enc b0] 140)) hB2 ((hP.keep H2).keep (hal _)) ((hE.keep H2).keep (hal _))
  change Calls _ _ #[_, .agg #[.int .u8 0, .int .u8 (c.toNat : Int), enc b0], _, _] _ _ at C
  rw [e1] at a0 C
  clear e1
  go_wp2_with fail
  refine C.mono ?_
  rintro e' w4 ⟨x, cv4, rfl, hx, hR4, hK4⟩
  obtain ⟨u0, u1, rfl, ⟨mu, rfl⟩, ⟨qu, rfl⟩⟩ := hx.form
  have hKa := hK2.trans ((Kep.below ((Below.refl _ w2).alloc (Nat.le_refl _) (.cells #[.int .u8 0, .int .u8 (c.toNat : Int), .iface n1 v1] 140))).trans hK4)
  have hsz := hKa.size
  have hzz : w4.heap[w.heap.size]? = some (.cells #[z0, z1] 106 (0, 0)) := (hKa.safe (hR.new (X := X) (Nat.le_refl _) (by omega))).1.trans zz
  obtain ⟨t0, t1, t2, t3⟩ := two_of hzz
  go_wp2_with fail
  refine bodyPost_ret (v := .agg #[.int .i64 mu, IF qu]) (by simp [results, Tryz.results42, go_sem, t0, t1]) rfl ?_
  exact ev_out hR (Nat.le_refl _) hx hR4 (K1.trans hKa) (by omega) (hown _ _ hKa)
set_option maxRecDepth 100000 in
set_option maxHeartbeats 8000000 in
theorem ev_fix (n : Nat) (ih : EvC n) (f c : UInt8) (b0 : Tm) (hf0 : f.toNat ≠ 0) (i : Nat) (e : En) (s : St) (r : Nat) (cv : Rw) (pv ep : Value) (w : World) (hn : 1501 ≤ s.step.steps + n) (hs : s.steps < 1500) (hB : StB s) (hok : TmOk (.fix f c b0) i e) (hR : RunAt X r cv w s) (hP : PlaceR (Safe X r cv w) w (.fix f c b0) i pv) (hE : RepE r (Safe X r cv w) w e ep) :
    Calls Tryz.prog 42 #[ptr r, pv, ep] w (EvPost X r cv w s (evB (ev n) (.fix f c b0) i e s.step)) := by
  obtain ⟨b, rfl, hb, c0⟩ := place_at hP
  have hr0 := hR.lt
  have hbl := hb.1
  have hB2 : StB s.step := ⟨hs, by simp only [St.step]; have := hB.calls; omega, by simp only [St.step]; have := hB.clos; omega, by simp only [St.step]; have := hB.capt; omega, hB.deepest, hB.depth, hB.called, hB.froms, hB.encl⟩
  have hcs : s.step.calls < s.step.steps := by simp only [St.step]; have := hB.calls; omega
  have hdep : s.step.depth = s.depth := rfl
  have zb := (Below.refl w.heap.size w).alloc (Nat.le_refl _) (.cells #[.int .i64 0, .nilIface] 106)
  have zz := res_block w
  have zs : (w.alloc (.cells #[.int .i64 0, .nilIface] 106)).heap.size = w.heap.size + 1 := by simp
  go_enter Tryz.func42, Tryz.ntmps42
  generalize hW1 : w.alloc (.cells #[.int .i64 0, .nilIface] 106) = W1 at zb zz zs
  obtain ⟨z0, z1, zz⟩ := zz
  have K1 := Kep.below (r := r) (cv := cv) zb
  have hfin : ∀ (o3 : Ou) (s2 : St) (cv2 : Rw) (w3 w4 : World) (e' : Ending), Kep r cv W1 cv2 w3 → EvPost (AndX X w.heap.size) r cv2 w3 s2 o3 e' w4 → Kep r cv w cv2 w3 ∧ ∃ y0 y1, w4.heap[w.heap.size]? = some (.cells #[y0, y1] 106 (0, 0)) := fun o3 s2 cv2 w3 w4 e' hK h => by
    obtain ⟨cv', hk⟩ := evPost_kep h
    have q0 : Safe X r cv W1 w.heap.size := hR.new (Nat.le_refl _) (by omega)
    exact ⟨K1.trans hK, z0, z1, ((hK.trans hk).safe q0).1.trans zz⟩
  have hown : ∀ (cv2 : Rw) (w4 : World), Kep r cv W1 cv2 w4 → ¬ cv2.own w.heap.size := fun cv2 w4 hK e => by
    rcases hK.own _ e with h | h
    · have := (hR.owns _ h).2; omega
    · omega
  have sb : Safe X r cv W1 b := (K1.safe hb).2
  have C0 := step_c r cv s W1 ((hR.below zb).hide (b := w.heap.size) (by omega)) (by omega)
  go_wp2_with fail
  refine C0.mono ?_
  rintro e' w2 (⟨h, _⟩ | ⟨_, rfl, hR2, hK2⟩)
  · omega
  clear C0
  have a0 := hK2.cell sb ((zb.cell (p := ⟨b, 0, none⟩) hbl).trans c0)
  have hs2 := hK2.size
  have y0 := tz_function_number
  have y1 := tz_function_reading
  have y2 := tz_function_function
  obtain ⟨n1, v1, e1⟩ := enc_gen b0
  change w2.cell? ⟨b, 0, none⟩ = some (.iface 140 (.agg #[.int .u8 (f.toNat : Int), .int .u8 (c.toNat : Int), enc b0])) at a0
  obtain ⟨qe, rfl⟩ := hE.form
  have H2 := (K1.trans hK2).hide (X := X) (b := w.heap.size) (Nat.le_refl _)
  have hal : ∀ o g, Safe (AndX X w.heap.size) r cv w2 g → (w2.alloc o).heap[g]? = w2.heap[g]? ∧ Safe (AndX X w.heap.size) r cv (w2.alloc o) g := fun o g hg => (Kep.below ((Below.refl _ w2).alloc (Nat.le_refl _) o)).safe hg
  have C := enclose_fix r cv s.step f c b0 i e (ptr b) (.pointer qe) _ (hR2.alloc (.cells #[.int .u8 (f.toNat : Int), .int .u8 (c.toNat : Int), enc b0] 140)) hB2 hf0 ((hP.keep H2).keep (hal _)) ((hE.keep H2).keep (hal _))
  change Calls _ _ #[_, .agg #[.int .u8 (f.toNat : Int), .int .u8 (c.toNat : Int), enc b0], _, _] _ _ at C
  rw [e1] at a0 C
  clear e1
  go_wp2_with fail
  refine C.mono ?_
  rintro e' w4 ⟨x, cv4, rfl, hx, hR4, hK4⟩
  obtain ⟨u0, u1, rfl, ⟨mu, rfl⟩, ⟨qu, rfl⟩⟩ := hx.form
  have hKa := hK2.trans ((Kep.below ((Below.refl _ w2).alloc (Nat.le_refl _) (.cells #[.int .u8 (f.toNat : Int), .int .u8 (c.toNat : Int), .iface n1 v1] 140))).trans hK4)
  have hsz := hKa.size
  have hzz : w4.heap[w.heap.size]? = some (.cells #[z0, z1] 106 (0, 0)) := (hKa.safe (hR.new (X := X) (Nat.le_refl _) (by omega))).1.trans zz
  obtain ⟨t0, t1, t2, t3⟩ := two_of hzz
  go_wp2_with fail
  refine bodyPost_ret (v := .agg #[.int .i64 mu, IF qu]) (by simp [results, Tryz.results42, go_sem, t0, t1]) rfl ?_
  exact ev_out hR (Nat.le_refl _) hx hR4 (K1.trans hKa) (by omega) (hown _ _ hKa)
set_option maxRecDepth 100000 in
set_option maxHeartbeats 8000000 in
theorem ev_sel (n : Nat) (ih : EvC n) (x y z : Tm) (i : Nat) (e : En) (s : St) (r : Nat) (cv : Rw) (pv ep : Value) (w : World) (hn : 1501 ≤ s.step.steps + n) (hs : s.steps < 1500) (hB : StB s) (hok : TmOk (.sel x y z) i e) (hR : RunAt X r cv w s) (hP : PlaceR (Safe X r cv w) w (.sel x y z) i pv) (hE : RepE r (Safe X r cv w) w e ep) :
    Calls Tryz.prog 42 #[ptr r, pv, ep] w (EvPost X r cv w s (evB (ev n) (.sel x y z) i e s.step)) := by
  obtain ⟨b, rfl, hb, c0⟩ := place_at hP
  have hr0 := hR.lt
  have hbl := hb.1
  have hB2 : StB s.step := ⟨hs, by simp only [St.step]; have := hB.calls; omega, by simp only [St.step]; have := hB.clos; omega, by simp only [St.step]; have := hB.capt; omega, hB.deepest, hB.depth, hB.called, hB.froms, hB.encl⟩
  have hcs : s.step.calls < s.step.steps := by simp only [St.step]; have := hB.calls; omega
  have hdep : s.step.depth = s.depth := rfl
  have zb := (Below.refl w.heap.size w).alloc (Nat.le_refl _) (.cells #[.int .i64 0, .nilIface] 106)
  have zz := res_block w
  have zs : (w.alloc (.cells #[.int .i64 0, .nilIface] 106)).heap.size = w.heap.size + 1 := by simp
  go_enter Tryz.func42, Tryz.ntmps42
  generalize hW1 : w.alloc (.cells #[.int .i64 0, .nilIface] 106) = W1 at zb zz zs
  obtain ⟨z0, z1, zz⟩ := zz
  have K1 := Kep.below (r := r) (cv := cv) zb
  have hfin : ∀ (o3 : Ou) (s2 : St) (cv2 : Rw) (w3 w4 : World) (e' : Ending), Kep r cv W1 cv2 w3 → EvPost (AndX X w.heap.size) r cv2 w3 s2 o3 e' w4 → Kep r cv w cv2 w3 ∧ ∃ y0 y1, w4.heap[w.heap.size]? = some (.cells #[y0, y1] 106 (0, 0)) := fun o3 s2 cv2 w3 w4 e' hK h => by
    obtain ⟨cv', hk⟩ := evPost_kep h
    have q0 : Safe X r cv W1 w.heap.size := hR.new (Nat.le_refl _) (by omega)
    exact ⟨K1.trans hK, z0, z1, ((hK.trans hk).safe q0).1.trans zz⟩
  have hown : ∀ (cv2 : Rw) (w4 : World), Kep r cv W1 cv2 w4 → ¬ cv2.own w.heap.size := fun cv2 w4 hK e => by
    rcases hK.own _ e with h | h
    · have := (hR.owns _ h).2; omega
    · omega
  have sb : Safe X r cv W1 b := (K1.safe hb).2
  have C0 := step_c r cv s W1 ((hR.below zb).hide (b := w.heap.size) (by omega)) (by omega)
  go_wp2_with fail
  refine C0.mono ?_
  rintro e' w2 (⟨h, _⟩ | ⟨_, rfl, hR2, hK2⟩)
  · omega
  clear C0
  have a0 := hK2.cell sb ((zb.cell (p := ⟨b, 0, none⟩) hbl).trans c0)
  have hs2 := hK2.size
  have y0 := tz_choice_number
  have y1 := tz_choice_reading
  have y2 := tz_choice_function
  have y3 := tz_choice_call
  have y4 := tz_choice_let
  have y5 := tz_choice_operation
  have y6 := tz_choice_choice
  obtain ⟨n1, v1, e1⟩ := enc_gen x
  obtain ⟨n2, v2, e2⟩ := enc_gen y
  obtain ⟨n3, v3, e3⟩ := enc_gen z
  change w2.cell? ⟨b, 0, none⟩ = some (.iface 153 (.agg #[enc x, enc y, enc z])) at a0
  rw [e1, e2, e3] at a0
  have hal := (Below.refl _ w2).alloc (Nat.le_refl _) (.cells #[.iface n1 v1, .iface n2 v2, .iface n3 v3] 153)
  have hK3 := hK2.trans (Kep.below (r := r) (cv := cv) hal)
  have hl3 : (w2.alloc (.cells #[.iface n1 v1, .iface n2 v2, .iface n3 v3] 153)).heap.size = w2.heap.size + 1 := by simp
  have H2 := (K1.trans hK3).hide (X := X) (b := w.heap.size) (Nat.le_refl _)
  have C := choose_c n ih x y z i e s.step r cv (ptr b) ep (w2.alloc (.cells #[.iface n1 v1, .iface n2 v2, .iface n3 v3] 153)) hn hB2 hok (hR2.below hal) (hP.keep H2) (hE.keep H2)
  obtain ⟨o, ho⟩ : ∃ o, evB (ev n) (.sel x y z) i e s.step = o := ⟨_, rfl⟩
  rw [ho] at C
  have HE := Lib.hid ho
  clear ho e1 e2 e3
  obtain ⟨qe, rfl⟩ := hE.form
  go_wp2_with fail
  refine C.mono ?_
  intro e' w4 h
  obtain ⟨kk, q0, q1, hzz⟩ := hfin _ _ _ _ _ _ hK3 h
  obtain ⟨t0, t1, t2, t3⟩ := two_of hzz
  rcases Ou.cases o with ⟨v2, s3, rfl⟩ | hbad
  · obtain ⟨x4, cv4, rfl, hv4, hR4, hK4⟩ := h
    obtain ⟨u0, u1, rfl, ⟨mu, rfl⟩, ⟨qu, rfl⟩⟩ := hv4.form
    have hs4 := hK4.size
    go_wp2_with fail
    refine bodyPost_ret (v := .agg #[.int .i64 mu, IF qu]) (by simp [results, Tryz.results42, go_sem, t0, t1]) rfl ?_
    rw [HE.out]
    exact ev_out hR (Nat.le_refl _) hv4 hR4 (kk.trans hK4) (by omega) (hown _ _ (hK3.trans hK4))
  · obtain ⟨hc, hp⟩ := (evPost_bad hbad _ _ _ _ _ _).1 h
    rw [hc]
    refine ⟨rfl, ?_⟩
    rw [HE.out]
    exact (evPost_bad hbad _ _ _ _ _ _).2 (pan_out kk hdep ⟨rfl, hp⟩)
theorem callv_c (n : Nat) (ih : EvC n) (r : Nat) (cv : Rw) (s : St) (i : Nat) (vx vy : Vl) (bf : Nat) (x y : Value) (w : World) (hn : 1501 ≤ s.steps + n) (hB : StB s) (hcs : s.calls < s.steps) (hox : VlOk vx) (hoy : VlOk vy) (hR : RunAt X r cv w s)
    (hsf : Safe X r cv w bf) (hfi : w.cell? ⟨bf, 1, none⟩ = some (.int .i64 (i : Int))) (hx : RepV r (Safe X r cv w) w vx x) (hy : RepV r (Safe X r cv w) w vy y) :
    Calls Tryz.prog 59 #[ptr r, ptr bf, x, y] w (EvPost X r cv w s (callV (ev n) i vx vy s)) := by
  cases vx with
  | num k => cases hx; exact call_num r cv s k (ptr bf) y vy w hR hy
  | clo j g e => exact call_clo n ih r cv s i j g e vy bf x y w hn hB hcs hox hoy hR hsf hfi hx hy
set_option maxRecDepth 100000 in
set_option maxHeartbeats 8000000 in
theorem ev_app (n : Nat) (ih : EvC n) (f a : Tm) (i : Nat) (e : En) (s : St) (r : Nat) (cv : Rw) (pv ep : Value) (w : World) (hn : 1501 ≤ s.step.steps + n) (hs : s.steps < 1500) (hB : StB s) (hok : TmOk (.app f a) i e) (hR : RunAt X r cv w s) (hP : PlaceR (Safe X r cv w) w (.app f a) i pv) (hE : RepE r (Safe X r cv w) w e ep) :
    Calls Tryz.prog 42 #[ptr r, pv, ep] w (EvPost X r cv w s (evB (ev n) (.app f a) i e s.step)) := by
  obtain ⟨b, g, cap, p0, p1, rfl, hb, hg, c0, c3, d0, d1, hp0, hp1⟩ := kids2 hP rfl
  have hgl := hg.1
  have hr0 := hR.lt
  have hbl := hb.1
  have hB2 : StB s.step := ⟨hs, by simp only [St.step]; have := hB.calls; omega, by simp only [St.step]; have := hB.clos; omega, by simp only [St.step]; have := hB.capt; omega, hB.deepest, hB.depth, hB.called, hB.froms, hB.encl⟩
  have hcs : s.step.calls < s.step.steps := by simp only [St.step]; have := hB.calls; omega
  have hdep : s.step.depth = s.depth := rfl
  have zb := (Below.refl w.heap.size w).alloc (Nat.le_refl _) (.cells #[.int .i64 0, .nilIface] 106)
  have zz := res_block w
  have zs : (w.alloc (.cells #[.int .i64 0, .nilIface] 106)).heap.size = w.heap.size + 1 := by simp
  go_enter Tryz.func42, Tryz.ntmps42
  generalize hW1 : w.alloc (.cells #[.int .i64 0, .nilIface] 106) = W1 at zb zz zs
  obtain ⟨z0, z1, zz⟩ := zz
  have K1 := Kep.below (r := r) (cv := cv) zb
  have hfin : ∀ (o3 : Ou) (s2 : St) (cv2 : Rw) (w3 w4 : World) (e' : Ending), Kep r cv W1 cv2 w3 → EvPost (AndX X w.heap.size) r cv2 w3 s2 o3 e' w4 → Kep r cv w cv2 w3 ∧ ∃ y0 y1, w4.heap[w.heap.size]? = some (.cells #[y0, y1] 106 (0, 0)) := fun o3 s2 cv2 w3 w4 e' hK h => by
    obtain ⟨cv', hk⟩ := evPost_kep h
    have q0 : Safe X r cv W1 w.heap.size := hR.new (Nat.le_refl _) (by omega)
    exact ⟨K1.trans hK, z0, z1, ((hK.trans hk).safe q0).1.trans zz⟩
  have hown : ∀ (cv2 : Rw) (w4 : World), Kep r cv W1 cv2 w4 → ¬ cv2.own w.heap.size := fun cv2 w4 hK e => by
    rcases hK.own _ e with h | h
    · have := (hR.owns _ h).2; omega
    · omega
  have sb : Safe X r cv W1 b := (K1.safe hb).2
  have C0 := step_c r cv s W1 ((hR.below zb).hide (b := w.heap.size) (by omega)) (by omega)
  go_wp2_with fail
  refine C0.mono ?_
  rintro e' w2 (⟨h, _⟩ | ⟨_, rfl, hR2, hK2⟩)
  · omega
  clear C0
  have a0 := hK2.cell sb ((zb.cell (p := ⟨b, 0, none⟩) hbl).trans c0)
  have hs2 := hK2.size
  have y0 := tz_call_number
  have y1 := tz_call_reading
  have y2 := tz_call_function
  have y3 := tz_call_call
  obtain ⟨n1, v1, e1⟩ := enc_gen f
  obtain ⟨n2, v2', e2⟩ := enc_gen a
  change w2.cell? ⟨b, 0, none⟩ = some (.iface 143 (.agg #[enc f, enc a])) at a0
  rw [e1, e2] at a0
  clear e1 e2
  obtain ⟨qe, rfl⟩ := hE.form
  have sg : Safe X r cv W1 g := (K1.safe hg).2
  have a3 := hK2.cell sb ((zb.cell (p := ⟨b, 3, none⟩) hbl).trans c3)
  have b0 := hK2.cell sg ((zb.cell (p := ⟨g, 0, none⟩) hgl).trans d0)
  have b1 := hK2.cell sg ((zb.cell (p := ⟨g, 1, none⟩) hgl).trans d1)
  have bl2 : b < w2.heap.size := by omega
  have gl2 : g < w2.heap.size := by omega
  have hal := (Below.refl _ w2).alloc (Nat.le_refl _) (.cells #[.iface n1 v1, .iface n2 v2'] 143)
  have hK3 := hK2.trans (Kep.below (r := r) (cv := cv) hal)
  have H3 := (K1.trans hK3).hide (X := X) (b := w.heap.size) (Nat.le_refl _)
  have C1 := ih (AndX X w.heap.size) f (i + 1) e s.step r cv (ptr p0) (.pointer qe) _ hn hB2 hok.app.1 (hR2.below hal) (hp0.keep H3) (hE.keep H3)
  have hW := ev_ok n _ _ _ s.step hok.app.1
  have x3 := (hal.cell (p := ⟨b, 3, none⟩) bl2).trans a3
  have x4 := (hal.cell (p := ⟨g, 1, none⟩) gl2).trans b1
  have s3 : Safe X r cv _ b := ((K1.trans hK3).safe hb).2
  have s4 : Safe X r cv _ g := ((K1.trans hK3).safe hg).2
  have hl3 : (w2.alloc (.cells #[.iface n1 v1, .iface n2 v2'] 143)).heap.size = w2.heap.size + 1 := by simp
  have HE := Lib.hid (show evB (ev n) (.app f a) i e s.step = (ev n f (i + 1) e s.step).next fun x s => (ev n a (i + 1 + (parts f).length) e s).next fun y s => callV (ev n) i x y s from rfl)
  generalize ev n f (i + 1) e s.step = o at C1 HE hW
  go_wp2_with fail
  refine C1.mono ?_
  rcases Ou.cases o with ⟨v, s1, rfl⟩ | hbad
  rotate_left
  · intro e' w9 h
    obtain ⟨hc, hp⟩ := (evPost_bad hbad _ _ _ _ _ _).1 h
    rw [hc]
    refine ⟨rfl, ?_⟩
    rw [HE.out, Ou.next_bad hbad]
    exact (evPost_bad hbad _ _ _ _ _ _).2 (pan_out (K1.trans hK3) (rfl) ⟨rfl, hp⟩)
  obtain ⟨hokv, hG⟩ := hW
  have hB3 := hB2.goes hG
  have hcs3 : s1.calls < s1.steps := by have := hG.calls; omega
  have hn3 : 1501 ≤ s1.steps + n := by have := hG.steps; omega
  rintro e' w4 ⟨xv, cv1, rfl, hv, hR4, hK4⟩
  clear C1
  obtain ⟨u0, u1, rfl, ⟨mu, rfl⟩, ⟨qu, rfl⟩⟩ := hv.form
  have hal5 := (Below.refl _ w4).alloc (Nat.le_refl _) (.cells #[.int .i64 mu, IF qu] 106)
  have hK5 := (hK3.trans hK4).trans (Kep.below (r := r) (cv := cv1) hal5)
  have hs4 := hK4.size
  have y3 := hK4.cell s3 x3
  have y4 := hK4.cell s4 x4
  have bl4 : b < w4.heap.size := by omega
  have gl4 : g < w4.heap.size := by omega
  have H5 := (K1.trans hK5).hide (X := X) (b := w.heap.size) (Nat.le_refl _)
  have C2 := ih (AndX X w.heap.size) a (i + 1 + (parts f).length) e s1 r cv1 (ptr p1) (.pointer qe) _ hn3 hB3 hok.app.2 (hR4.below hal5) (hp1.keep H5) (hE.keep H5)
  have hW := ev_ok n _ _ _ s1 hok.app.2
  have HE2 := Lib.hid (show evB (ev n) (.app f a) i e s.step = (ev n a (i + 1 + (parts f).length) e s1).next fun y s => callV (ev n) i v y s from HE.out)
  clear HE
  have HE := HE2
  clear HE2
  generalize ev n a (i + 1 + (parts f).length) e s1 = o2 at C2 HE hW
  have hl5 : (w4.alloc (.cells #[.int .i64 mu, IF qu] 106)).heap.size = w4.heap.size + 1 := by simp
  have sx : Safe (AndX X w.heap.size) r cv1 (w4.alloc (.cells #[.int .i64 mu, IF qu] 106)) w4.heap.size := hR4.new (Nat.le_refl _) (by omega)
  have hv5 := (Kep.below (r := r) (cv := cv1) hal5).rep hv
  have z5 := newAt w4 _ rfl [.int .i64 mu, IF qu] 106 0 _ rfl
  have z6 := newAt w4 _ rfl [.int .i64 mu, IF qu] 106 1 _ rfl
  go_wp2_with fail
  refine C2.mono ?_
  rcases Ou.cases o2 with ⟨v2, s2, rfl⟩ | hbad
  rotate_left
  · intro e' w9 h
    obtain ⟨hc, hp⟩ := (evPost_bad hbad _ _ _ _ _ _).1 h
    rw [hc]
    refine ⟨rfl, ?_⟩
    rw [HE.out, Ou.next_bad hbad]
    exact (evPost_bad hbad _ _ _ _ _ _).2 (pan_out (K1.trans hK5) (hG.depth) ⟨rfl, hp⟩)
  obtain ⟨hokv2, hG2⟩ := hW
  have hB5 := hB3.goes hG2
  have hcs5 : s2.calls < s2.steps := by have := hG2.calls; omega
  have hn5 : 1501 ≤ s2.steps + n := by have := hG2.steps; omega
  rintro e' w6 ⟨yv, cv2, rfl, hv2, hR6, hK6⟩
  clear C2
  obtain ⟨u2, u3, rfl, ⟨mu2, rfl⟩, ⟨qu2, rfl⟩⟩ := hv2.form
  have hal7 := (Below.refl _ w6).alloc (Nat.le_refl _) (.cells #[.int .i64 mu2, IF qu2] 106)
  have hK7 := (hK5.trans hK6).trans (Kep.below (r := r) (cv := cv2) hal7)
  have hs6 := hK6.size
  have lx : w4.heap.size < w6.heap.size := by omega
  have z7 := hK6.cell sx z5
  have z8 := hK6.cell sx z6
  have H7 := (K1.trans hK7).hide (X := X) (b := w.heap.size) (Nat.le_refl _)
  have C3 := callv_c n ih r cv2 s2 i v v2 b _ _ _ hn5 hB5 hcs5 hokv hokv2 (hR6.below hal7) (H7 b hb).2 ((K1.trans hK7).cell hb (place_idx hP)) ((Kep.below (r := r) (cv := cv2) hal7).rep (hK6.rep hv5)) ((Kep.below (r := r) (cv := cv2) hal7).rep hv2)
  have HE2 := Lib.hid (show evB (ev n) (.app f a) i e s.step = callV (ev n) i v v2 s2 from HE.out)
  clear HE
  have HE := HE2
  clear HE2
  have hdep2 : s2.depth = s.depth := hG2.depth.trans hG.depth
  generalize callV (ev n) i v v2 s2 = o3 at C3 HE
  go_wp2_with fail
  refine C3.mono ?_
  intro e' w8 h
  obtain ⟨kk, q0, q1, hzz⟩ := hfin _ _ _ _ _ _ hK7 h
  obtain ⟨t0, t1, t2, t3⟩ := two_of hzz
  rcases Ou.cases o3 with ⟨v3, s3, rfl⟩ | hbad
  · obtain ⟨xx, cv4, rfl, hv4, hR8, hK8⟩ := h
    obtain ⟨u4, u5, rfl, ⟨mu, rfl⟩, ⟨qu, rfl⟩⟩ := hv4.form
    have hs8 := hK8.size
    have hl7 : (w6.alloc (.cells #[.int .i64 mu2, IF qu2] 106)).heap.size = w6.heap.size + 1 := by simp
    go_wp2_with fail
    refine bodyPost_ret (v := .agg #[.int .i64 mu, IF qu]) (by simp [results, Tryz.results42, go_sem, t0, t1]) rfl ?_
    rw [HE.out]
    exact ev_out hR (Nat.le_refl _) hv4 hR8 (kk.trans hK8) (by omega) (hown _ _ (hK7.trans hK8))
  · obtain ⟨hc, hp⟩ := (evPost_bad hbad _ _ _ _ _ _).1 h
    rw [hc]
    refine ⟨rfl, ?_⟩
    rw [HE.out]
    exact (evPost_bad hbad _ _ _ _ _ _).2 (pan_out kk hdep2 ⟨rfl, hp⟩)
end Go.Proofs.YtjfhncfbejephaaGreatDoor

/- The program's evaluate: names that are bound. Written by genK.py. -/
namespace Go.Proofs.YtjfhncfbejephaaGreatDoor
open Go.RowKit Go.Shelf
open Ff
set_option linter.unusedVariables false
variable {X : Nat → Prop}
attribute [local irreducible] Calls
attribute [local go_sem] storeIF

theorem bind_bad {r b : Nat} {cv cv1 : Rw} {w w6 w7 : World} {s s1 : St} {o o2 : Ou} {c : List PanicEntry} (h2 : o2 = o) (ho : o.bad) (h : EvPost (AndX X b) r cv1 w6 s1 o (.panicked c) w7) (hK : Kep r cv w cv1 w6) (hd : s1.depth = s.depth) : EvPost X r cv w s o2 (.panicked c) w7 := by
  rw [h2]
  exact (evPost_bad ho _ _ _ _ _ _).2 (pan_out hK hd ((evPost_bad ho _ _ _ _ _ _).1 h))
set_option maxRecDepth 100000 in
set_option maxHeartbeats 8000000 in
theorem ev_bind (n : Nat) (ih : EvC n) (c : UInt8) (v0 t : Tm) (i : Nat) (e : En) (s : St) (r : Nat) (cv : Rw) (pv ep : Value) (w : World) (hn : 1501 ≤ s.step.steps + n) (hs : s.steps < 1500) (hB : StB s) (hok : TmOk (.bind c v0 t) i e) (hR : RunAt X r cv w s) (hP : PlaceR (Safe X r cv w) w (.bind c v0 t) i pv) (hE : RepE r (Safe X r cv w) w e ep) :
    Calls Tryz.prog 42 #[ptr r, pv, ep] w (EvPost X r cv w s (evB (ev n) (.bind c v0 t) i e s.step)) := by
  obtain ⟨b, g, cap, p0, p1, rfl, hb, hg, c0, c3, d0, d1, hp0, hp1⟩ := kids2 hP rfl
  have hgl := hg.1
  have hr0 := hR.lt
  have hbl := hb.1
  have hB2 : StB s.step := ⟨hs, by simp only [St.step]; have := hB.calls; omega, by simp only [St.step]; have := hB.clos; omega, by simp only [St.step]; have := hB.capt; omega, hB.deepest, hB.depth, hB.called, hB.froms, hB.encl⟩
  have hcs : s.step.calls < s.step.steps := by simp only [St.step]; have := hB.calls; omega
  have hdep : s.step.depth = s.depth := rfl
  have zb := (Below.refl w.heap.size w).alloc (Nat.le_refl _) (.cells #[.int .i64 0, .nilIface] 106)
  have zz := res_block w
  have zs : (w.alloc (.cells #[.int .i64 0, .nilIface] 106)).heap.size = w.heap.size + 1 := by simp
  go_enter Tryz.func42, Tryz.ntmps42
  generalize hW1 : w.alloc (.cells #[.int .i64 0, .nilIface] 106) = W1 at zb zz zs
  obtain ⟨z0, z1, zz⟩ := zz
  have K1 := Kep.below (r := r) (cv := cv) zb
  have hfin : ∀ (o3 : Ou) (s2 : St) (cv2 : Rw) (w3 w4 : World) (e' : Ending), Kep r cv W1 cv2 w3 → EvPost (AndX X w.heap.size) r cv2 w3 s2 o3 e' w4 → Kep r cv w cv2 w3 ∧ ∃ y0 y1, w4.heap[w.heap.size]? = some (.cells #[y0, y1] 106 (0, 0)) := fun o3 s2 cv2 w3 w4 e' hK h => by
    obtain ⟨cv', hk⟩ := evPost_kep h
    have q0 : Safe X r cv W1 w.heap.size := hR.new (Nat.le_refl _) (by omega)
    exact ⟨K1.trans hK, z0, z1, ((hK.trans hk).safe q0).1.trans zz⟩
  have hown : ∀ (cv2 : Rw) (w4 : World), Kep r cv W1 cv2 w4 → ¬ cv2.own w.heap.size := fun cv2 w4 hK e => by
    rcases hK.own _ e with h | h
    · have := (hR.owns _ h).2; omega
    · omega
  have sb : Safe X r cv W1 b := (K1.safe hb).2
  have C0 := step_c r cv s W1 ((hR.below zb).hide (b := w.heap.size) (by omega)) (by omega)
  go_wp2_with fail
  refine C0.mono ?_
  rintro e' w2 (⟨h, _⟩ | ⟨_, rfl, hR2, hK2⟩)
  · omega
  clear C0
  have a0 := hK2.cell sb ((zb.cell (p := ⟨b, 0, none⟩) hbl).trans c0)
  have hs2 := hK2.size
  have y0 := tz_let_number
  have y1 := tz_let_reading
  have y2 := tz_let_function
  have y3 := tz_let_call
  have y4 := tz_let_let
  obtain ⟨n1, v1, e1⟩ := enc_gen v0
  obtain ⟨n2, v2', e2⟩ := enc_gen t
  change w2.cell? ⟨b, 0, none⟩ = some (.iface 146 (.agg #[.int .u8 (c.toNat : Int), enc v0, enc t])) at a0
  rw [e1, e2] at a0
  clear e1 e2
  obtain ⟨qe, rfl⟩ := hE.form
  have sg : Safe X r cv W1 g := (K1.safe hg).2
  have a3 := hK2.cell sb ((zb.cell (p := ⟨b, 3, none⟩) hbl).trans c3)
  have b0 := hK2.cell sg ((zb.cell (p := ⟨g, 0, none⟩) hgl).trans d0)
  have b1 := hK2.cell sg ((zb.cell (p := ⟨g, 1, none⟩) hgl).trans d1)
  have bl2 : b < w2.heap.size := by omega
  have gl2 : g < w2.heap.size := by omega
  have hal := (Below.refl _ w2).alloc (Nat.le_refl _) (.cells #[.int .u8 (c.toNat : Int), .iface n1 v1, .iface n2 v2'] 146)
  have hK3 := hK2.trans (Kep.below (r := r) (cv := cv) hal)
  have H3 := (K1.trans hK3).hide (X := X) (b := w.heap.size) (Nat.le_refl _)
  have C1 := ih (AndX X w.heap.size) v0 (i + 1) e s.step r cv (ptr p0) (.pointer qe) _ hn hB2 hok.bind.1 (hR2.below hal) (hp0.keep H3) (hE.keep H3)
  have hW := ev_ok n _ _ _ s.step hok.bind.1
  have x3 := (hal.cell (p := ⟨b, 3, none⟩) bl2).trans a3
  have x4 := (hal.cell (p := ⟨g, 1, none⟩) gl2).trans b1
  have s3 : Safe X r cv _ b := ((K1.trans hK3).safe hb).2
  have s4 : Safe X r cv _ g := ((K1.trans hK3).safe hg).2
  have hl3 : (w2.alloc (.cells #[.int .u8 (c.toNat : Int), .iface n1 v1, .iface n2 v2'] 146)).heap.size = w2.heap.size + 1 := by simp
  have HE := Lib.hid (show evB (ev n) (.bind c v0 t) i e s.step = (ev n v0 (i + 1) e s.step).next fun x s => ev n t (i + 1 + (parts v0).length) (.cons c x e) s from rfl)
  generalize ev n v0 (i + 1) e s.step = o1 at C1 HE hW
  go_wp2_with fail
  refine C1.mono ?_
  rcases Ou.cases o1 with ⟨v, s1, rfl⟩ | hbad
  rotate_left
  · intro e' w9 h
    obtain ⟨hc, hp⟩ := (evPost_bad hbad _ _ _ _ _ _).1 h
    rw [hc]
    refine ⟨rfl, ?_⟩
    rw [HE.out, Ou.next_bad hbad]
    exact (evPost_bad hbad _ _ _ _ _ _).2 (pan_out (K1.trans hK3) (rfl) ⟨rfl, hp⟩)
  obtain ⟨hokv, hG⟩ := hW
  have hB3 := hB2.goes hG
  have hn3 : 1501 ≤ s1.steps + n := by have := hG.steps; omega
  rintro e' w4 ⟨xv, cv1, rfl, hv, hR4, hK4⟩
  clear C1
  obtain ⟨u0, u1, rfl, ⟨mu, rfl⟩, ⟨qu, rfl⟩⟩ := hv.form
  have hal5 := (Below.refl _ w4).alloc (Nat.le_refl _) (.cells #[.int .i64 mu, IF qu] 106)
  have hK5 := (hK3.trans hK4).trans (Kep.below (r := r) (cv := cv1) hal5)
  have hs4 := hK4.size
  have bl4 : b < w4.heap.size := by omega
  have gl4 : g < w4.heap.size := by omega
  have y3 := (hal5.cell (p := ⟨b, 3, none⟩) bl4).trans (hK4.cell s3 x3)
  have y4 := (hal5.cell (p := ⟨g, 1, none⟩) gl4).trans (hK4.cell s4 x4)
  have so3 : Safe (AndX X w.heap.size) r cv (w2.alloc (.cells #[.int .u8 (c.toNat : Int), .iface n1 v1, .iface n2 v2'] 146)) w2.heap.size := hR2.new (Nat.le_refl _) (by omega)
  have g3 := hK4.cell so3 (newAt w2 _ rfl [.int .u8 (c.toNat : Int), .iface n1 v1, .iface n2 v2'] 146 0 _ rfl)
  have so5 := ((Kep.below (r := r) (cv := cv1) hal5).safe (hK4.safe so3).2).2
  have y2 := (hal5.cell (p := ⟨w2.heap.size, 0, none⟩) (by show w2.heap.size < _; omega)).trans g3
  have y5 := newAt w4 _ rfl [.int .i64 mu, IF qu] 106 0 _ rfl
  have y6 := newAt w4 _ rfl [.int .i64 mu, IF qu] 106 1 _ rfl
  have hl5 : (w4.alloc (.cells #[.int .i64 mu, IF qu] 106)).heap.size = w4.heap.size + 1 := by simp
  have sx : Safe (AndX X w.heap.size) r cv1 (w4.alloc (.cells #[.int .i64 mu, IF qu] 106)) w4.heap.size := hR4.new (Nat.le_refl _) (by omega)
  have sb5 := ((K1.trans hK5).safe hb).2
  have sg5 := ((K1.trans hK5).safe hg).2
  have hv5 := (Kep.below (r := r) (cv := cv1) hal5).rep hv
  have hR5 := hR4.below hal5
  have hzz : (w4.alloc (.cells #[.int .i64 mu, IF qu] 106)).heap[w.heap.size]? = some (.cells #[z0, z1] 106 (0, 0)) := (hK5.safe (hR.new (X := X) (Nat.le_refl _) (by omega))).1.trans zz
  have sz5 : Safe X r cv1 (w4.alloc (.cells #[.int .i64 mu, IF qu] 106)) w.heap.size := (hK5.safe (hR.new (X := X) (Nat.le_refl _) (by omega))).2
  have H5 := (K1.trans hK5).hide (X := X) (b := w.heap.size) (Nat.le_refl _)
  have htop := hE.top (B := w.heap.size) (fun g hg => hg.1)
  go_wp2_with fail
  clear x3 x4 a3 b0 b1 hal zz
  generalize w4.alloc (.cells #[.int .i64 mu, IF qu] 106) = W5 at hal5 hK5 y2 y3 y4 y5 y6 hl5 sx so5 sb5 sg5 sz5 hv5 hR5 hzz H5 ⊢
  have e0 : b ≠ w.heap.size := by omega
  have e1 : g ≠ w.heap.size := by omega
  have e2 : w2.heap.size ≠ w.heap.size := by omega
  have e3 : w4.heap.size ≠ w.heap.size := by omega
  have lb : b < W5.heap.size := by omega
  have lg : g < W5.heap.size := by omega
  have l2 : w2.heap.size < W5.heap.size := by omega
  have l4 : w4.heap.size < W5.heap.size := by omega
  have C2 : Calls Tryz.prog 60 #[.pointer qe, .int .u8 (c.toNat : Int), .agg #[.int .i64 mu, IF qu]] W5.drew fun e' w' => ∃ x, e' = .returned x ∧ (∃ bs, x = ptr bs ∧ W5.heap.size ≤ bs ∧ bs < w'.heap.size ∧ Below W5.heap.size W5 w' ∧ w'.cell? ⟨bs, 0, none⟩ = some (.int .u8 (c.toNat : Int)) ∧ w'.cell? ⟨bs, 1, none⟩ = some (.int .i64 mu) ∧ w'.cell? ⟨bs, 2, none⟩ = some (IF qu) ∧ w'.cell? ⟨bs, 3, none⟩ = some (.pointer qe)) ∧ w'.cell? ⟨b, 3, none⟩ = some (.slice (some ⟨g, 0, none⟩) 2 cap) ∧ w'.cell? ⟨g, 1, none⟩ = some (ptr p1) ∧ w'.cell? ⟨w2.heap.size, 0, none⟩ = some (.int .u8 (c.toNat : Int)) ∧ w'.cell? ⟨w4.heap.size, 0, none⟩ = some (.int .i64 mu) ∧ w'.cell? ⟨w4.heap.size, 1, none⟩ = some (IF qu) := (with_c (.pointer qe) c (.int .i64 mu) (IF qu) ⟨_, rfl⟩ ⟨_, rfl⟩ ⟨_, rfl⟩ W5.drew).mono (by
      rintro e' w' ⟨bs, rfl, q1, q2, q3, q4, q5, q6, q7⟩
      have q8 : Below W5.heap.size W5 w' := ((Below.refl _ W5).drew).trans q3
      exact ⟨_, rfl, ⟨bs, rfl, q1, q2, q8, q4, q5, q6, q7⟩, (q8.cell (by exact lb)).trans y3, (q8.cell (by exact lg)).trans y4, (q8.cell (by exact l2)).trans y2, (q8.cell (by exact l4)).trans y5, (q8.cell (by exact l4)).trans y6⟩)
  obtain ⟨o2, ho2⟩ : ∃ o, ev n t (i + 1 + (parts v0).length) (.cons c v e) s1 = o := ⟨_, rfl⟩
  have D : ∀ w6 bs, W5.heap.size ≤ bs → bs < w6.heap.size → Below W5.heap.size W5 w6 → w6.cell? ⟨bs, 0, none⟩ = some (.int .u8 (c.toNat : Int)) → w6.cell? ⟨bs, 1, none⟩ = some (.int .i64 mu) → w6.cell? ⟨bs, 2, none⟩ = some (IF qu) → w6.cell? ⟨bs, 3, none⟩ = some (.pointer qe) →
      Calls Tryz.prog 42 #[ptr r, ptr p1, ptr bs] w6 fun e' w' => EvPost (AndX X w.heap.size) r cv1 w6 s1 o2 e' w' ∧ Kep r cv W1 cv1 w6 ∧ W5.heap.size ≤ w6.heap.size ∧ (∃ z0 z1, w'.heap[w.heap.size]? = some (.cells #[z0, z1] 106 (0, 0))) ∧ w'.cell? ⟨b, 3, none⟩ = some (.slice (some ⟨g, 0, none⟩) 2 cap) ∧ w'.cell? ⟨g, 1, none⟩ = some (ptr p1) ∧ w'.cell? ⟨w2.heap.size, 0, none⟩ = some (.int .u8 (c.toNat : Int)) ∧ w'.cell? ⟨w4.heap.size, 0, none⟩ = some (.int .i64 mu) ∧ w'.cell? ⟨w4.heap.size, 1, none⟩ = some (IF qu) := by
    intro w6 bs q1 q2 q3 q4 q5 q6 q7
    have kb := Kep.below (r := r) (cv := cv1) q3
    have hs : Safe (AndX X w.heap.size) r cv1 w6 bs := hR5.new q1 q2
    have C3 := ih (AndX X w.heap.size) t (i + 1 + (parts v0).length) (.cons c v e) s1 r cv1 (ptr p1) (ptr bs) w6 hn3 hB3 (hok.bind.2 v hokv) (hR5.below q3) ((hp1.keep H5).keep (fun g hg => kb.safe hg)) (.cons _ _ _ _ _ _ _ hs q4 q5 q6 q7 (by omega) (kb.rep hv5) (kb.env (hE.keep H5)))
    rw [ho2] at C3
    refine C3.mono ?_
    intro e' w' h
    obtain ⟨cv', hk⟩ := evPost_kep h
    have k6 := kb.trans hk
    exact ⟨h, hK5.trans kb, q3.size, ⟨z0, z1, (k6.safe sz5).1.trans hzz⟩, k6.cell sb5 y3, k6.cell sg5 y4, k6.cell so5 y2, k6.cell sx y5, k6.cell sx y6⟩
  have HE2 := Lib.hid (show evB (ev n) (.bind c v0 t) i e s.step = o2 from HE.out.trans ho2)
  clear HE ho2
  have HE := HE2
  clear HE2
  rcases Ou.cases o2 with ⟨v2, s2, rfl⟩ | hbad
  · go_region_held3 (fun w' => w'.cell? ⟨b, 3, none⟩ = some (.slice (some ⟨g, 0, none⟩) 2 cap) ∧ w'.cell? ⟨g, 1, none⟩ = some (ptr p1) ∧ w'.cell? ⟨w2.heap.size, 0, none⟩ = some (.int .u8 (c.toNat : Int)) ∧ w'.cell? ⟨w4.heap.size, 0, none⟩ = some (.int .i64 mu) ∧ w'.cell? ⟨w4.heap.size, 1, none⟩ = some (IF qu))
      (first | (simp only [set_far _ _ _ _ _ _ e0, set_far _ _ _ _ _ _ e1, set_far _ _ _ _ _ _ e2, set_far _ _ _ _ _ _ e3]; refine ⟨?_, ?_, ?_, ?_, ?_⟩ <;> assumption) | (refine ⟨?_, ?_, ?_, ?_, ?_⟩ <;> assumption) | go_keep)
      (first | (refine C2.mono ?_; rintro e' w6 ⟨x, rfl, ⟨bs, rfl, q1, q2, q3, q4, q5, q6, q7⟩, k0, k1, k2, k3, k4⟩) | (refine (D _ _ q1 q2 q3 q4 q5 q6 q7).mono ?_; rintro e' w7 ⟨⟨x, cv2, rfl, hv7, hR7, hK7⟩, hKw, hsz, ⟨q0, q1', hz⟩, k0, k1, k2, k3, k4⟩; obtain ⟨u0, u1, rfl, ⟨mu2, rfl⟩, ⟨qu2, rfl⟩⟩ := hv7.form; obtain ⟨t0, t1, t2, t3⟩ := two_of hz))
    go_wp2_with fail
    have hs7 := hK7.size
    obtain ⟨j0, j1⟩ := set_two (u0 := .int .i64 mu2) (u1 := IF qu2) t0 t1
    refine bodyPost_ret (v := .agg #[.int .i64 mu2, IF qu2]) (by simp [results, Tryz.results42, go_sem, j0, j1]) rfl ?_
    rw [HE.out]
    exact ev_out hR (Nat.le_refl _) hv7 hR7 ((K1.trans hKw).trans hK7) (by omega) (hown _ _ (hKw.trans hK7))
  · go_region_held (fun w' => w'.cell? ⟨b, 3, none⟩ = some (.slice (some ⟨g, 0, none⟩) 2 cap) ∧ w'.cell? ⟨g, 1, none⟩ = some (ptr p1) ∧ w'.cell? ⟨w2.heap.size, 0, none⟩ = some (.int .u8 (c.toNat : Int)) ∧ w'.cell? ⟨w4.heap.size, 0, none⟩ = some (.int .i64 mu) ∧ w'.cell? ⟨w4.heap.size, 1, none⟩ = some (IF qu))
      (first | (simp only [set_far _ _ _ _ _ _ e0, set_far _ _ _ _ _ _ e1, set_far _ _ _ _ _ _ e2, set_far _ _ _ _ _ _ e3]; refine ⟨?_, ?_, ?_, ?_, ?_⟩ <;> assumption) | (refine ⟨?_, ?_, ?_, ?_, ?_⟩ <;> assumption) | go_keep)
      (first | (refine C2.mono ?_; rintro e' w6 ⟨x, rfl, ⟨bs, rfl, q1, q2, q3, q4, q5, q6, q7⟩, k0, k1, k2, k3, k4⟩) | (refine (D _ _ q1 q2 q3 q4 q5 q6 q7).mono ?_; rintro e' w7 ⟨h, hKw, hsz, ⟨q0, q1', hz⟩, k0, k1, k2, k3, k4⟩; rcases e' with v | c' | _; rotate_left; (exact ⟨rfl, bind_bad HE.out hbad h (K1.trans hKw) hG.depth⟩); (exact absurd ((evPost_bad hbad _ _ _ _ _ _).1 h).1 (by simp)); have hF : RowKit.Hid False := Lib.hid (absurd ((evPost_bad hbad _ _ _ _ _ _).1 h).1 (by simp)); obtain ⟨mu2, qu2, rfl⟩ : ∃ u0 u1, v = .agg #[.int .i64 u0, .pointer u1] := hF.out.elim; obtain ⟨t0, t1, t2, t3⟩ := two_of hz))
    exact hF.out.elim
end Go.Proofs.YtjfhncfbejephaaGreatDoor
