import Derived.Test.YtjfhncfbejephaaGreatDoorMEc
/- The program's evaluate: operations. Written by genK.py. -/
namespace Go.Proofs.YtjfhncfbejephaaGreatDoor
open Go.RowKit Go.Shelf
open Ff
set_option linter.unusedVariables false
variable {X : Nat → Prop}
attribute [local irreducible] Calls
attribute [local go_sem] storeIF

theorem if_none : IF none = .nilIface := rfl
theorem if_some (t : TypeId) (v : Value) : IF (some (t, v)) = .iface t v := rfl
theorem num_if {r : Nat} {S : Nat → Prop} {w : World} {a : Nat} {mu : Int} {qu : Option (TypeId × Value)} (h : RepV r S w (.num a) (.agg #[.int .i64 mu, IF qu])) : mu = (a : Int) ∧ qu = none := by
  have q : ∀ x, RepV r S w (.num a) (.agg #[.int .i64 mu, x]) → mu = (a : Int) ∧ x = .nilIface := fun x h => by cases h; exact ⟨rfl, rfl⟩
  obtain ⟨h1, h2⟩ := q _ h
  rcases qu with _ | ⟨t, v⟩
  · exact ⟨h1, rfl⟩
  · cases h2
theorem clo_if {r : Nat} {S : Nat → Prop} {w : World} {j : Nat} {t : Tm} {e : En} {mu : Int} {qu : Option (TypeId × Value)} (h : RepV r S w (.clo j t e) (.agg #[.int .i64 mu, IF qu])) : mu = 0 ∧ ∃ b, qu = some (180, ptr b) := by
  have q : ∀ x, RepV r S w (.clo j t e) (.agg #[.int .i64 mu, x]) → mu = 0 ∧ ∃ b, x = .iface 180 (ptr b) := fun x h => by cases h; exact ⟨rfl, _, rfl⟩
  obtain ⟨h1, b, h2⟩ := q _ h
  rcases qu with _ | ⟨t, v⟩
  · cases h2
  · cases h2; exact ⟨h1, b, rfl⟩
theorem must_clo (b : Nat) (w : World) : Calls Tryz.prog 62 #[.agg #[.int .i64 0, .iface 180 (ptr b)]] w fun e w'' => e = .panicked faultC ∧ Below w.heap.size w w'' := by
  go_enter Tryz.func62, Tryz.ntmps62
  go_wp2_with fail
  exact ⟨rfl, rfl, (Below.refl _ w).alloc (Nat.le_refl _) _⟩
set_option maxRecDepth 100000 in
set_option maxHeartbeats 8000000 in
theorem ev_op (n : Nat) (ih : EvC n) (o : UInt8) (l r0 : Tm) (i : Nat) (e : En) (s : St) (r : Nat) (cv : Rw) (pv ep : Value) (w : World) (hn : 1501 ≤ s.step.steps + n) (hs : s.steps < 1500) (hB : StB s) (hok : TmOk (.op o l r0) i e) (hR : RunAt X r cv w s) (hP : PlaceR (Safe X r cv w) w (.op o l r0) i pv) (hE : RepE r (Safe X r cv w) w e ep) :
    Calls Tryz.prog 42 #[ptr r, pv, ep] w (EvPost X r cv w s (evB (ev n) (.op o l r0) i e s.step)) := by
  obtain ⟨b, g, cap, p0, p1, rfl, hb, hg, c0, c3, d0, d1, hp0, hp1⟩ := kids2 hP rfl
  have hgl := hg.1
  have hr0 := hR.lt
  have hbl := hb.1
  have hB2 : StB s.step := ⟨hs, by simp only [St.step]; have := hB.calls; omega, by simp only [St.step]; have := hB.clos; omega, by simp only [St.step]; have := hB.capt; omega, hB.deepest, hB.depth, hB.called, hB.froms, hB.encl⟩
  have hcs : s.step.calls < s.step.steps := by simp only [St.step]; have := hB.calls; omega
  have hdep : s.step.depth = s.depth := rfl
  have zb := (Below.refl w.heap.size w).alloc (Nat.le_refl _) (.cells #[.int .i64 0, .nilIface] 106)
  have zz := res_block w
  have zs : (w.alloc (.cells #[.int .i64 0, .nilIface] 106)).heap.size = w.heap.size + 1 := by simp
  go_enter Tryz.func42, Tryz.ntmps42
  generalize hW1 : w.alloc (.cells #[.int .i64 0, .nilIface] 106) = W1 at zb zz zs
  obtain ⟨z0, z1, zz⟩ := zz
  have K1 := Kep.below (r := r) (cv := cv) zb
  have hfin : ∀ (o3 : Ou) (s2 : St) (cv2 : Rw) (w3 w4 : World) (e' : Ending), Kep r cv W1 cv2 w3 → EvPost (AndX X w.heap.size) r cv2 w3 s2 o3 e' w4 → Kep r cv w cv2 w3 ∧ ∃ y0 y1, w4.heap[w.heap.size]? = some (.cells #[y0, y1] 106 (0, 0)) := fun o3 s2 cv2 w3 w4 e' hK h => by
    obtain ⟨cv', hk⟩ := evPost_kep h
    have q0 : Safe X r cv W1 w.heap.size := hR.new (Nat.le_refl _) (by omega)
    exact ⟨K1.trans hK, z0, z1, ((hK.trans hk).safe q0).1.trans zz⟩
  have hown : ∀ (cv2 : Rw) (w4 : World), Kep r cv W1 cv2 w4 → ¬ cv2.own w.heap.size := fun cv2 w4 hK e => by
    rcases hK.own _ e with h | h
    · have := (hR.owns _ h).2; omega
    · omega
  have sb : Safe X r cv W1 b := (K1.safe hb).2
  have C0 := step_c r cv s W1 ((hR.below zb).hide (b := w.heap.size) (by omega)) (by omega)
  go_wp2_with fail
  refine C0.mono ?_
  rintro e' w2 (⟨h, _⟩ | ⟨_, rfl, hR2, hK2⟩)
  · omega
  clear C0
  have a0 := hK2.cell sb ((zb.cell (p := ⟨b, 0, none⟩) hbl).trans c0)
  have hs2 := hK2.size
  have y0 := tz_operation_number
  have y1 := tz_operation_reading
  have y2 := tz_operation_function
  have y3 := tz_operation_call
  have y4 := tz_operation_let
  have y5 := tz_operation_operation
  obtain ⟨n1, v1, e1⟩ := enc_gen l
  obtain ⟨n2, v2', e2⟩ := enc_gen r0
  change w2.cell? ⟨b, 0, none⟩ = some (.iface 149 (.agg #[.int .u8 (o.toNat : Int), enc l, enc r0])) at a0
  rw [e1, e2] at a0
  clear e1 e2
  obtain ⟨qe, rfl⟩ := hE.form
  have sg : Safe X r cv W1 g := (K1.safe hg).2
  have a3 := hK2.cell sb ((zb.cell (p := ⟨b, 3, none⟩) hbl).trans c3)
  have b0 := hK2.cell sg ((zb.cell (p := ⟨g, 0, none⟩) hgl).trans d0)
  have b1 := hK2.cell sg ((zb.cell (p := ⟨g, 1, none⟩) hgl).trans d1)
  have bl2 : b < w2.heap.size := by omega
  have gl2 : g < w2.heap.size := by omega
  have hal := (Below.refl _ w2).alloc (Nat.le_refl _) (.cells #[.int .u8 (o.toNat : Int), .iface n1 v1, .iface n2 v2'] 149)
  have hK3 := hK2.trans (Kep.below (r := r) (cv := cv) hal)
  have H3 := (K1.trans hK3).hide (X := X) (b := w.heap.size) (Nat.le_refl _)
  have C1 := ih (AndX X w.heap.size) l (i + 1) e s.step r cv (ptr p0) (.pointer qe) _ hn hB2 hok.op.1 (hR2.below hal) (hp0.keep H3) (hE.keep H3)
  have hW := ev_ok n _ _ _ s.step hok.op.1
  have x3 := (hal.cell (p := ⟨b, 3, none⟩) bl2).trans a3
  have x4 := (hal.cell (p := ⟨g, 1, none⟩) gl2).trans b1
  have s3 : Safe X r cv _ b := ((K1.trans hK3).safe hb).2
  have s4 : Safe X r cv _ g := ((K1.trans hK3).safe hg).2
  have hl3 : (w2.alloc (.cells #[.int .u8 (o.toNat : Int), .iface n1 v1, .iface n2 v2'] 149)).heap.size = w2.heap.size + 1 := by simp
  have HE := Lib.hid (show evB (ev n) (.op o l r0) i e s.step = (ev n l (i + 1) e s.step).next fun x s => (ev n r0 (i + 1 + (parts l).length) e s).next fun y s => opV o x y s from rfl)
  have hoo : o.toNat = 43 ∨ o.toNat = 45 ∨ o.toNat = 42 := by rcases hok.good.1 with h | h | h <;> subst h <;> decide
  generalize ev n l (i + 1) e s.step = o1 at C1 HE hW
  go_wp2_with fail
  refine C1.mono ?_
  rcases Ou.cases o1 with ⟨v, s1, rfl⟩ | hbad
  rotate_left
  · intro e' w9 h
    obtain ⟨hc, hp⟩ := (evPost_bad hbad _ _ _ _ _ _).1 h
    rw [hc]
    refine ⟨rfl, ?_⟩
    rw [HE.out, Ou.next_bad hbad]
    exact (evPost_bad hbad _ _ _ _ _ _).2 (pan_out (K1.trans hK3) (rfl) ⟨rfl, hp⟩)
  obtain ⟨hokv, hG⟩ := hW
  have hB3 := hB2.goes hG
  have hn3 : 1501 ≤ s1.steps + n := by have := hG.steps; omega
  rintro e' w4 ⟨xv, cv1, rfl, hv, hR4, hK4⟩
  clear C1
  have HV := Lib.hid hv
  obtain ⟨u0, u1, rfl, ⟨mu, rfl⟩, ⟨qu, rfl⟩⟩ := hv.form
  have hal5 := (Below.refl _ w4).alloc (Nat.le_refl _) (.cells #[.int .i64 mu, IF qu] 106)
  have hK5 := (hK3.trans hK4).trans (Kep.below (r := r) (cv := cv1) hal5)
  have hs4 := hK4.size
  have y3 := hK4.cell s3 x3
  have y4 := hK4.cell s4 x4
  have bl4 : b < w4.heap.size := by omega
  have gl4 : g < w4.heap.size := by omega
  have H5 := (K1.trans hK5).hide (X := X) (b := w.heap.size) (Nat.le_refl _)
  have C2 := ih (AndX X w.heap.size) r0 (i + 1 + (parts l).length) e s1 r cv1 (ptr p1) (.pointer qe) _ hn3 hB3 hok.op.2 (hR4.below hal5) (hp1.keep H5) (hE.keep H5)
  have hW := ev_ok n _ _ _ s1 hok.op.2
  have HE2 := Lib.hid (show evB (ev n) (.op o l r0) i e s.step = (ev n r0 (i + 1 + (parts l).length) e s1).next fun y s => opV o v y s from HE.out)
  clear HE
  have HE := HE2
  clear HE2
  generalize ev n r0 (i + 1 + (parts l).length) e s1 = o2 at C2 HE hW
  have hl5 : (w4.alloc (.cells #[.int .i64 mu, IF qu] 106)).heap.size = w4.heap.size + 1 := by simp
  have sx : Safe (AndX X w.heap.size) r cv1 (w4.alloc (.cells #[.int .i64 mu, IF qu] 106)) w4.heap.size := hR4.new (Nat.le_refl _) (by omega)
  have so3 : Safe (AndX X w.heap.size) r cv (w2.alloc (.cells #[.int .u8 (o.toNat : Int), .iface n1 v1, .iface n2 v2'] 149)) w2.heap.size := hR2.new (Nat.le_refl _) (by omega)
  have g3 := hK4.cell so3 (newAt w2 _ rfl [.int .u8 (o.toNat : Int), .iface n1 v1, .iface n2 v2'] 149 0 _ rfl)
  have so5 := (Kep.below (r := r) (cv := cv1) hal5).safe (hK4.safe so3).2
  have g5 := (hal5.cell (p := ⟨w2.heap.size, 0, none⟩) (by show w2.heap.size < _; omega)).trans g3
  have hv5 := (Kep.below (r := r) (cv := cv1) hal5).rep hv
  have z5 := newAt w4 _ rfl [.int .i64 mu, IF qu] 106 0 _ rfl
  have z6 := newAt w4 _ rfl [.int .i64 mu, IF qu] 106 1 _ rfl
  go_wp2_with fail
  refine C2.mono ?_
  rcases Ou.cases o2 with ⟨v2, s2, rfl⟩ | hbad
  rotate_left
  · intro e' w9 h
    obtain ⟨hc, hp⟩ := (evPost_bad hbad _ _ _ _ _ _).1 h
    rw [hc]
    refine ⟨rfl, ?_⟩
    rw [HE.out, Ou.next_bad hbad]
    exact (evPost_bad hbad _ _ _ _ _ _).2 (pan_out (K1.trans hK5) (hG.depth) ⟨rfl, hp⟩)
  obtain ⟨hokv2, hG2⟩ := hW
  rintro e' w6 ⟨yv, cv2, rfl, hv2, hR6, hK6⟩
  clear C2
  have HV2 := Lib.hid hv2
  obtain ⟨u2, u3, rfl, ⟨mu2, rfl⟩, ⟨qu2, rfl⟩⟩ := hv2.form
  have hal7 := (Below.refl _ w6).alloc (Nat.le_refl _) (.cells #[.int .i64 mu2, IF qu2] 106)
  have hK7 := (hK5.trans hK6).trans (Kep.below (r := r) (cv := cv2) hal7)
  have hs6 := hK6.size
  have lx : w4.heap.size < w6.heap.size := by omega
  have z7 := hK6.cell sx z5
  have z8 := hK6.cell sx z6
  go_wp2_with fail
  have z9 := newAt w6 _ rfl [.int .i64 mu2, IF qu2] 106 0 _ rfl
  have z10 := newAt w6 _ rfl [.int .i64 mu2, IF qu2] 106 1 _ rfl
  have z11 := (hal7.cell (p := ⟨w4.heap.size, 0, none⟩) lx).trans z7
  have z12 := (hal7.cell (p := ⟨w4.heap.size, 1, none⟩) lx).trans z8
  have g7 := (hal7.cell (p := ⟨w2.heap.size, 0, none⟩) (by show w2.heap.size < _; omega)).trans (hK6.cell so5.2 g5)
  have hl7 : (w6.alloc (.cells #[.int .i64 mu2, IF qu2] 106)).heap.size = w6.heap.size + 1 := by simp
  have hR7 := hR6.below hal7
  have hzz : (w6.alloc (.cells #[.int .i64 mu2, IF qu2] 106)).heap[w.heap.size]? = some (.cells #[z0, z1] 106 (0, 0)) := (hK7.safe (hR.new (X := X) (Nat.le_refl _) (by omega))).1.trans zz
  have hdep2 : s2.depth = s.depth := hG2.depth.trans hG.depth
  clear z5 z6 z7 z8 y3 y4 x3 x4 a3 b0 b1 hal hal5
  generalize w6.alloc (.cells #[.int .i64 mu2, IF qu2] 106) = W7 at hK7 z9 z10 z11 z12 g7 hl7 hR7 hzz ⊢
  clear hal7
  have e0 : w2.heap.size ≠ w.heap.size := by omega
  have e1 : w4.heap.size ≠ w.heap.size := by omega
  have e2 : w6.heap.size ≠ w.heap.size := by omega
  have hlt : w.heap.size < W7.heap.size := by omega
  have hlt2 : w2.heap.size < W7.heap.size := by omega
  have hlt4 : w4.heap.size < W7.heap.size := by omega
  have hlt6 : w6.heap.size < W7.heap.size := by omega
  have hb7 : Below W7.heap.size W7 W7.drew := (Below.refl _ W7).drew
  have five : ∀ w', Below W7.heap.size W7 w' → w'.cell? ⟨w2.heap.size, 0, none⟩ = some (.int .u8 (o.toNat : Int)) ∧ w'.cell? ⟨w4.heap.size, 0, none⟩ = some (.int .i64 mu) ∧ w'.cell? ⟨w4.heap.size, 1, none⟩ = some (IF qu) ∧ w'.cell? ⟨w6.heap.size, 0, none⟩ = some (.int .i64 mu2) ∧ w'.cell? ⟨w6.heap.size, 1, none⟩ = some (IF qu2) := fun w' h =>
    ⟨(h.cell (by exact hlt2)).trans g7, (h.cell (by exact hlt4)).trans z11, (h.cell (by exact hlt4)).trans z12, (h.cell (by exact hlt6)).trans z9, (h.cell (by exact hlt6)).trans z10⟩
  have M : ∀ (z : Value) (e0 : Ending), (∀ w', Calls Tryz.prog 62 #[z] w' fun e w'' => e = e0 ∧ Below w'.heap.size w' w'') → ∀ w', Below W7.heap.size W7 w' → Calls Tryz.prog 62 #[z] w' fun e w'' => e = e0 ∧ Below W7.heap.size W7 w'' ∧ w''.cell? ⟨w2.heap.size, 0, none⟩ = some (.int .u8 (o.toNat : Int)) ∧ w''.cell? ⟨w4.heap.size, 0, none⟩ = some (.int .i64 mu) ∧ w''.cell? ⟨w4.heap.size, 1, none⟩ = some (IF qu) ∧ w''.cell? ⟨w6.heap.size, 0, none⟩ = some (.int .i64 mu2) ∧ w''.cell? ⟨w6.heap.size, 1, none⟩ = some (IF qu2) := fun z e0 h w' hb => (h w').mono (by
      rintro e w'' ⟨rfl, hb2⟩
      have hb3 := hb.trans (hb2.mono hb.size)
      exact ⟨rfl, hb3, five _ hb3⟩)
  have CC : ∀ (x y : Value) (u : Value), (∀ w', Calls Tryz.prog 61 #[.int .u8 (o.toNat : Int), x, y] w' fun e w'' => e = .returned u ∧ w'' = w') → ∀ w', Below W7.heap.size W7 w' → Calls Tryz.prog 61 #[.int .u8 (o.toNat : Int), x, y] w' fun e w'' => e = .returned u ∧ Below W7.heap.size W7 w'' ∧ (w''.cell? ⟨w.heap.size, 0, none⟩ = some z0 ∧ w''.cell? ⟨w.heap.size, 1, none⟩ = some z1 ∧ w''.frozen? ⟨w.heap.size, 0, none⟩ = false ∧ w''.frozen? ⟨w.heap.size, 1, none⟩ = false) ∧ w''.cell? ⟨w2.heap.size, 0, none⟩ = some (.int .u8 (o.toNat : Int)) ∧ w''.cell? ⟨w4.heap.size, 0, none⟩ = some (.int .i64 mu) ∧ w''.cell? ⟨w4.heap.size, 1, none⟩ = some (IF qu) ∧ w''.cell? ⟨w6.heap.size, 0, none⟩ = some (.int .i64 mu2) ∧ w''.cell? ⟨w6.heap.size, 1, none⟩ = some (IF qu2) := fun x y u h w' hb => (h w').mono (by
      rintro e w'' ⟨rfl, rfl⟩
      exact ⟨rfl, hb, two_of ((hb.block _ hlt).trans hzz), five _ hb⟩)
  have fin : ∀ (w10 : World) (u : Nat), Below W7.heap.size W7 w10 → EvPost X r cv w s (.ok (.num u) s2) (.returned (.agg #[.int .i64 (u : Int), .nilIface])) ((w10.setCell ⟨w.heap.size, 0, none⟩ (.int .i64 (u : Int))).setCell ⟨w.heap.size, 1, none⟩ (.nilIface)) := fun w10 u hb =>
    ev_out hR (Nat.le_refl _) (.num u) (hR7.below hb) ((K1.trans hK7).trans (Kep.below hb)) (by have := hb.size; omega) (hown _ _ (hK7.trans (Kep.below hb)))
  have pan : ∀ w10, Below W7.heap.size W7 w10 → EvPost X r cv w s .fault (.panicked faultC) w10 := fun w10 hb => ⟨rfl, cv2, s2, hR7.bare.below hb, (K1.trans hK7).trans (Kep.below hb), hdep2⟩
  clear g7 z9 z10 z11 z12 zz hzz
  obtain ⟨k0, k1, k2, k3, k4⟩ := five _ hb7
  clear five
  have hv := HV.out
  have hv2 := HV2.out
  cases v with
  | num a =>
    have ha : a ≤ 99 := by cases hokv; assumption
    obtain ⟨rfl, rfl⟩ := num_if hv
    have MX := M _ _ (fun w' => mustNumber_c r (fun _ => True) (.num a) _ w' (.num a))
    cases v2 with
    | num a2 =>
      have ha2 : a2 ≤ 99 := by cases hokv2; assumption
      obtain ⟨rfl, rfl⟩ := num_if hv2
      (try simp only [if_none] at *); (try simp only [if_some] at *)
      have MY := M _ _ (fun w' => mustNumber_c r (fun _ => True) (.num a2) _ w' (.num a2))
      have CX := CC _ _ _ (fun w' => calculate_c o a a2 hoo ha ha2 w')
      clear M CC hv hv2 pan
      go_region_held3 (fun w' => w'.cell? ⟨w2.heap.size, 0, none⟩ = some (.int .u8 (o.toNat : Int)) ∧ w'.cell? ⟨w4.heap.size, 0, none⟩ = some (.int .i64 (a : Int)) ∧ w'.cell? ⟨w4.heap.size, 1, none⟩ = some (.nilIface) ∧ w'.cell? ⟨w6.heap.size, 0, none⟩ = some (.int .i64 (a2 : Int)) ∧ w'.cell? ⟨w6.heap.size, 1, none⟩ = some (.nilIface))
        (first | (simp only [set_far _ _ _ _ _ _ e0, set_far _ _ _ _ _ _ e1, set_far _ _ _ _ _ _ e2]; refine ⟨?_, ?_, ?_, ?_, ?_⟩ <;> assumption) | (refine ⟨?_, ?_, ?_, ?_, ?_⟩ <;> assumption) | go_keep)
        (first | (refine (MX _ (by assumption)).mono ?_; rintro e' w8 ⟨rfl, hb8, k0, k1, k2, k3, k4⟩) | (refine (MY _ (by assumption)).mono ?_; rintro e' w9 ⟨rfl, hb9, k0, k1, k2, k3, k4⟩) | (refine (CX _ (by assumption)).mono ?_; rintro e' w10 ⟨rfl, hb10, ⟨t0, t1, t2, t3⟩, k0, k1, k2, k3, k4⟩))
      all_goals go_wp2_with fail
      all_goals obtain ⟨j0, j1⟩ := set_two (u0 := .int .i64 (calN o a a2 : Nat)) (u1 := .nilIface) t0 t1
      all_goals refine bodyPost_ret (v := .agg #[.int .i64 (calN o a a2 : Nat), .nilIface]) (by simp [results, Tryz.results42, go_sem, j0, j1]) rfl ?_
      all_goals rw [HE.out]
      all_goals exact fin w10 _ hb10
    | clo j2 f2 e2' =>
      obtain ⟨rfl, b2, rfl⟩ := clo_if hv2
      (try simp only [if_none] at *); (try simp only [if_some] at *)
      have MY := M _ _ (fun w' => must_clo b2 w')
      have CX : ∀ (h : False), _ := fun h => CC (.int .i64 (a : Int)) (.int .i64 (0 : Nat)) (.int .i64 0) (fun w' => h.elim)
      clear M CC hv hv2 fin
      go_region_held (fun w' => w'.cell? ⟨w2.heap.size, 0, none⟩ = some (.int .u8 (o.toNat : Int)) ∧ w'.cell? ⟨w4.heap.size, 0, none⟩ = some (.int .i64 (a : Int)) ∧ w'.cell? ⟨w4.heap.size, 1, none⟩ = some (.nilIface) ∧ w'.cell? ⟨w6.heap.size, 0, none⟩ = some (.int .i64 0) ∧ w'.cell? ⟨w6.heap.size, 1, none⟩ = some (.iface 180 (ptr b2)))
        (first | (simp only [set_far _ _ _ _ _ _ e0, set_far _ _ _ _ _ _ e1, set_far _ _ _ _ _ _ e2]; refine ⟨?_, ?_, ?_, ?_, ?_⟩ <;> assumption) | (refine ⟨?_, ?_, ?_, ?_, ?_⟩ <;> assumption) | go_keep)
        (first | (refine (MX _ (by assumption)).mono ?_; rintro e' w8 ⟨rfl, hb8, k0, k1, k2, k3, k4⟩) | (refine (MY _ (by assumption)).mono ?_; rintro e' w8 ⟨he, hb8, k0, k1, k2, k3, k4⟩; rcases e' with v | c | _; rotate_left; (injection he with he; subst he; exact ⟨rfl, (HE.out.symm ▸ pan _ hb8 : EvPost X r cv w s (evB (ev n) (.op o l r0) i e s.step) (.panicked faultC) _)⟩); (exact absurd he (by simp)); have hF : RowKit.Hid False := Lib.hid (absurd he (by simp)); obtain ⟨rfl⟩ : v = .int .i64 (0 : Nat) := hF.out.elim) | (refine (CX hF.out _ (by assumption)).mono ?_; rintro e' w10 ⟨rfl, hb10, ⟨t0, t1, t2, t3⟩, k0, k1, k2, k3, k4⟩))
      all_goals exact hF.out.elim
  | clo j1 f1 e1' =>
    obtain ⟨rfl, b1, rfl⟩ := clo_if hv
    have MX := M _ _ (fun w' => must_clo b1 w')
    cases v2 with
    | num a2 =>
      obtain ⟨rfl, rfl⟩ := num_if hv2
      (try simp only [if_none] at *); (try simp only [if_some] at *)
      have MY := M _ _ (fun w' => mustNumber_c r (fun _ => True) (.num a2) _ w' (.num a2))
      have CX : ∀ (h : False), _ := fun h => CC (.int .i64 (0 : Nat)) (.int .i64 (a2 : Int)) (.int .i64 0) (fun w' => h.elim)
      clear M CC hv hv2 fin
      go_region_held (fun w' => w'.cell? ⟨w2.heap.size, 0, none⟩ = some (.int .u8 (o.toNat : Int)) ∧ w'.cell? ⟨w4.heap.size, 0, none⟩ = some (.int .i64 0) ∧ w'.cell? ⟨w4.heap.size, 1, none⟩ = some (.iface 180 (ptr b1)) ∧ w'.cell? ⟨w6.heap.size, 0, none⟩ = some (.int .i64 (a2 : Int)) ∧ w'.cell? ⟨w6.heap.size, 1, none⟩ = some (.nilIface))
        (first | (simp only [set_far _ _ _ _ _ _ e0, set_far _ _ _ _ _ _ e1, set_far _ _ _ _ _ _ e2]; refine ⟨?_, ?_, ?_, ?_, ?_⟩ <;> assumption) | (refine ⟨?_, ?_, ?_, ?_, ?_⟩ <;> assumption) | go_keep)
        (first | (refine (MX _ (by assumption)).mono ?_; rintro e' w8 ⟨he, hb8, k0, k1, k2, k3, k4⟩; rcases e' with v | c | _; rotate_left; (injection he with he; subst he; exact ⟨rfl, (HE.out.symm ▸ pan _ hb8 : EvPost X r cv w s (evB (ev n) (.op o l r0) i e s.step) (.panicked faultC) _)⟩); (exact absurd he (by simp)); have hF : RowKit.Hid False := Lib.hid (absurd he (by simp)); obtain ⟨rfl⟩ : v = .int .i64 (0 : Nat) := hF.out.elim) | (refine (MY _ (by assumption)).mono ?_; rintro e' w8 ⟨rfl, hb8, k0, k1, k2, k3, k4⟩) | (refine (CX hF.out _ (by assumption)).mono ?_; rintro e' w10 ⟨rfl, hb10, ⟨t0, t1, t2, t3⟩, k0, k1, k2, k3, k4⟩))
      all_goals exact hF.out.elim
    | clo j2 f2 e2' =>
      obtain ⟨rfl, b2, rfl⟩ := clo_if hv2
      (try simp only [if_none] at *); (try simp only [if_some] at *)
      have MY := M _ _ (fun w' => must_clo b2 w')
      have CX : ∀ (h : False), _ := fun h => CC (.int .i64 (0 : Nat)) (.int .i64 (0 : Nat)) (.int .i64 0) (fun w' => h.elim)
      clear M CC hv hv2 fin
      go_region_held (fun w' => w'.cell? ⟨w2.heap.size, 0, none⟩ = some (.int .u8 (o.toNat : Int)) ∧ w'.cell? ⟨w4.heap.size, 0, none⟩ = some (.int .i64 0) ∧ w'.cell? ⟨w4.heap.size, 1, none⟩ = some (.iface 180 (ptr b1)) ∧ w'.cell? ⟨w6.heap.size, 0, none⟩ = some (.int .i64 0) ∧ w'.cell? ⟨w6.heap.size, 1, none⟩ = some (.iface 180 (ptr b2)))
        (first | (simp only [set_far _ _ _ _ _ _ e0, set_far _ _ _ _ _ _ e1, set_far _ _ _ _ _ _ e2]; refine ⟨?_, ?_, ?_, ?_, ?_⟩ <;> assumption) | (refine ⟨?_, ?_, ?_, ?_, ?_⟩ <;> assumption) | go_keep)
        (first | (refine (MX _ (by assumption)).mono ?_; rintro e' w8 ⟨he, hb8, k0, k1, k2, k3, k4⟩; rcases e' with v | c | _; rotate_left; (injection he with he; subst he; exact ⟨rfl, (HE.out.symm ▸ pan _ hb8 : EvPost X r cv w s (evB (ev n) (.op o l r0) i e s.step) (.panicked faultC) _)⟩); (exact absurd he (by simp)); have hF : RowKit.Hid False := Lib.hid (absurd he (by simp)); obtain ⟨rfl⟩ : v = .int .i64 (0 : Nat) := hF.out.elim) | (refine (MY _ (by assumption)).mono ?_; rintro e' w8 ⟨he, hb8, k0, k1, k2, k3, k4⟩; rcases e' with v | c | _; rotate_left; (injection he with he; subst he; exact ⟨rfl, (HE.out.symm ▸ pan _ hb8 : EvPost X r cv w s (evB (ev n) (.op o l r0) i e s.step) (.panicked faultC) _)⟩); (exact absurd he (by simp)); have hF : RowKit.Hid False := Lib.hid (absurd he (by simp)); obtain ⟨rfl⟩ : v = .int .i64 (0 : Nat) := hF.out.elim) | (refine (CX hF.out _ (by assumption)).mono ?_; rintro e' w10 ⟨rfl, hb10, ⟨t0, t1, t2, t3⟩, k0, k1, k2, k3, k4⟩))
      all_goals exact hF.out.elim
end Go.Proofs.YtjfhncfbejephaaGreatDoor

/- The program's evaluate: it comes to what 'ev' says. -/
namespace Go.Proofs.YtjfhncfbejephaaGreatDoor
open Go.RowKit Go.Shelf
open Ff
set_option linter.unusedVariables false
attribute [local irreducible] Calls

theorem eval_long (t : Tm) (i : Nat) (e : En) (s : St) (X : Nat → Prop) (r : Nat) (cv : Rw) (pv ep : Value) (w : World) (hs : s.steps = 1500) (hR : RunAt X r cv w s) (hP : PlaceR (Safe X r cv w) w t i pv) (hE : RepE r (Safe X r cv w) w e ep) :
    Calls Tryz.prog 42 #[ptr r, pv, ep] w (EvPost X r cv w s .long) := by
  obtain ⟨b, rfl⟩ := hP.form
  obtain ⟨qe, rfl⟩ := hE.form
  have zb := (Below.refl w.heap.size w).alloc (Nat.le_refl _) (.cells #[.int .i64 0, .nilIface] 106)
  go_enter Tryz.func42, Tryz.ntmps42
  generalize hW1 : w.alloc (.cells #[.int .i64 0, .nilIface] 106) = W1 at zb
  have C0 := step_c r cv s W1 (hR.below zb) (by omega)
  go_wp2_with fail
  refine C0.mono ?_
  rintro e' w2 (⟨_, rfl, hR2, hK2⟩ | ⟨h, _⟩)
  · exact ⟨rfl, rfl, cv, s, hR2, (Kep.below zb).trans hK2, rfl⟩
  · omega
theorem eval_c : ∀ n, EvC n
  | 0 => by
    intro X t i e s r cv pv ep w hn hB
    have := hB.steps
    omega
  | n + 1 => by
    intro X t i e s r cv pv ep w hn hB hok hR hP hE
    have ih := eval_c n
    have h1 := hB.steps
    by_cases hs : 1500 ≤ s.steps
    · have : ev (n + 1) t i e s = .long := by simp only [ev]; rw [if_pos hs]
      rw [this]
      exact eval_long t i e s X r cv pv ep w (by omega) hR hP hE
    · have : ev (n + 1) t i e s = evB (ev n) t i e s.step := by simp only [ev]; rw [if_neg hs]
      rw [this]
      have hn2 : 1501 ≤ s.step.steps + n := by simp only [St.step]; omega
      have hs2 : s.steps < 1500 := by omega
      cases t with
      | num k => exact ev_num n ih k i e s r cv pv ep w hn2 hs2 hB hok hR hP hE
      | var c =>
        obtain ⟨v, hv, _⟩ := find_ok hok.env (hok.free c (by simp [sfree]))
        exact ev_var n ih c i e s r cv pv ep w hn2 hs2 hB hok hR hP hE v hv
      | fn c b => exact ev_fn n ih c b i e s r cv pv ep w hn2 hs2 hB hok hR hP hE
      | fix f c b => exact ev_fix n ih f c b (by have h := hok.good.1; simp [isNam] at h; omega) i e s r cv pv ep w hn2 hs2 hB hok hR hP hE
      | app f a => exact ev_app n ih f a i e s r cv pv ep w hn2 hs2 hB hok hR hP hE
      | bind c v b => exact ev_bind n ih c v b i e s r cv pv ep w hn2 hs2 hB hok hR hP hE
      | op o l r0 => exact ev_op n ih o l r0 i e s r cv pv ep w hn2 hs2 hB hok hR hP hE
      | sel a b c => exact ev_sel n ih a b c i e s r cv pv ep w hn2 hs2 hB hok hR hP hE
end Go.Proofs.YtjfhncfbejephaaGreatDoor
