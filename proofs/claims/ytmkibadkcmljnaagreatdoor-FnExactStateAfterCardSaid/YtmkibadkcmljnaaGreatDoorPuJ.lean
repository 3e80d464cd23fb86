import Derived.Test.YtmkibadkcmljnaaGreatDoorPuI
import Derived.Test.YtmkibadkcmljnaaGreatDoorMTx
import Derived.Test.YtmkibadkcmljnaaGreatDoorMDp
/- The program's putting: what recovers from a shortage; put; Put. -/
namespace Go.Proofs.YtmkibadkcmljnaaGreatDoor
open Go.RowKit
open Ff
set_option linter.unusedVariables false
attribute [local go_sem] Oper.semAt_some

theorem short_panicking (p q : Addr) (x y : Value) (u : TypeId) (pv : Value) (older : List PanicEntry) (w : World) (hne : p ≠ q) (hp : w.cell? p = some x) (hpz : w.frozen? p = false) (hq : w.cell? q = some y) (hqz : w.frozen? q = false) :
    CallsD Tryz.prog 113 #[.pointer (some p), .pointer (some q)] (.panicking ({ v := .iface u pv, recovered := false } :: older)) w fun e u' w' =>
      e = .returned (.tuple #[]) ∧ u' = .panicking ({ v := .iface u pv, recovered := true } :: older) ∧ w' = (w.setCell p .nilIface).setCell q (.bool false) := by
  refine callsD_of_wpS Tryz.func113 rfl fun c₀ cs hu => ?_
  apply wpS_seq
  apply wpS_region
  simp [wpOpsS, go_sem, recoverD, hu, Tryz.ntmps113, Exit.thenS]
  refine wpS_cond (t := true) (by simp [Act.eval, Array.replicate]) ?_
  simp only [if_true]
  apply wpS_region
  have h2 : (w.setCell p .nilIface).cell? q = some y := by rw [World.cell?_setCell_other _ _ _ _ hne]; exact hq
  simp [wpOpsS, go_sem, hp, hpz, h2, hqz, bodyPostS, results, Tryz.results113]

theorem short_idle (p q : Addr) (w : World) :
    CallsD Tryz.prog 113 #[.pointer (some p), .pointer (some q)] .returning w fun e u' w' => e = .returned (.tuple #[]) ∧ u' = .returning ∧ w' = w := by
  refine callsD_of_wpS Tryz.func113 rfl fun c₀ cs hu => ?_
  apply wpS_seq
  apply wpS_region
  simp [wpOpsS, go_sem, recoverD, hu, Tryz.ntmps113, Exit.thenS]
  refine wpS_cond (t := false) (by simp [Act.eval, Array.replicate]) ?_
  simp only [Bool.false_eq_true, if_false]
  refine wpS_of_wp (wp_skip ?_)
  cases c₀
  simp_all [bodyPostS, results, Tryz.results113]

/-- What putting comes to where a shortage is told. -/
def PutPost (w : World) (r : Tm × Bool) (e : Ending) (w' : World) : Prop := ((r.2 = true ∧ e = .returned (.tuple #[enc r.1, .bool true])) ∨ (r.2 = false ∧ e = .returned (.tuple #[.nilIface, .bool false]))) ∧ Below w.heap.size w w'
theorem two_new (w : World) (t1 t2 : TypeId) {W : World} (h : Below (w.heap.size + 1 + 1) ((w.alloc (.cells #[.nilIface] t1)).alloc (.cells #[.bool false] t2)) W) :
    W.cell? ⟨w.heap.size, 0, none⟩ = some .nilIface ∧ W.frozen? ⟨w.heap.size, 0, none⟩ = false ∧ W.cell? ⟨w.heap.size + 1, 0, none⟩ = some (.bool false) ∧ W.frozen? ⟨w.heap.size + 1, 0, none⟩ = false := by
  refine ⟨(h.cell (by show w.heap.size < _; omega)).trans ?_, (h.frozen (by show w.heap.size < _; omega)).trans ?_, (h.cell (by simp)).trans ?_, (h.frozen (by simp)).trans ?_⟩ <;> simp [go_sem]
set_option maxRecDepth 100000 in
set_option maxHeartbeats 2000000 in
theorem orShortage_c (r : Tm × Bool) (p1 p2 p3 : Value) (w : World) (hC : ∀ W, Below w.heap.size w W → Calls Tryz.prog 109 #[p1, p2, p3] W (SubP r W)) :
    Calls Tryz.prog 108 #[.func (.func 109) #[] #[p1, p2, p3]] w (PutPost w r) := by
  have hmf : ∀ (fn : Fn) (first cap : Array Value) (w : World), (Instr.makeFunc fn first cap).run Tryz.prog w = .ok (.func fn first cap) w := fun _ _ _ _ => rfl
  have C := hC _ (below_two w (.cells #[.nilIface] 44) (.cells #[.bool false] 4))
  clear hC
  go_enter_defers Tryz.func108, Tryz.ntmps108
  go_wp2_with fail
  refine C.mono ?_
  clear C
  have hz : ((w.alloc (.cells #[.nilIface] 44)).alloc (.cells #[.bool false] 4)).heap.size = w.heap.size + 1 + 1 := by simp
  rintro e w1 ⟨⟨hr, rfl⟩ | ⟨hr, rfl⟩, hb1⟩
  · rw [hz] at hb1
    obtain ⟨c1, f1, c2, f2⟩ := two_new w _ _ hb1
    have hb : Below w.heap.size w w1 := (below_two w _ _).trans (hb1.mono (by omega))
    obtain ⟨n, v, hv⟩ := enc_gen r.1
    have HV := Lib.hid hv
    have HR := Lib.hid hr
    rw [hv]
    clear hv hr
    go_wp2_with fail
    refine leaves_cons (f := 113) (args := #[.pointer (some ⟨w.heap.size, 0, none⟩), .pointer (some ⟨w.heap.size + 1, 0, none⟩)]) (by simp) (by simp [go_sem]) ?_
    refine (short_idle ⟨w.heap.size, 0, none⟩ ⟨w.heap.size + 1, 0, none⟩ _).mono ?_
    rintro e u' w'' ⟨rfl, rfl, rfl⟩
    refine ⟨.tuple #[.iface n v, .bool true], ?_, .inl ⟨HR.out, by rw [HV.out]⟩, (hb.setCell (p := ⟨w.heap.size, 0, none⟩) (Nat.le_refl _) _).setCell (p := ⟨w.heap.size + 1, 0, none⟩) (by simp) _⟩
    simp [results, Tryz.results108, go_sem, c1, c2]
  · rw [hz] at hb1
    obtain ⟨c1, f1, c2, f2⟩ := two_new w _ _ hb1
    have hb : Below w.heap.size w w1 := (below_two w _ _).trans (hb1.mono (by omega))
    unfold shortP
    refine leaves_cons (f := 113) (args := #[.pointer (some ⟨w.heap.size, 0, none⟩), .pointer (some ⟨w.heap.size + 1, 0, none⟩)]) (by simp) (by simp [go_sem]) ?_
    refine (short_panicking ⟨w.heap.size, 0, none⟩ ⟨w.heap.size + 1, 0, none⟩ _ _ 171 _ [] _ (by simp) c1 f1 c2 f2).mono ?_
    rintro e u' w'' ⟨rfl, rfl, rfl⟩
    refine ⟨.tuple #[.nilIface, .bool false], ?_, .inr ⟨hr, rfl⟩, (hb.setCell (p := ⟨w.heap.size, 0, none⟩) (Nat.le_refl _) _).setCell (p := ⟨w.heap.size + 1, 0, none⟩) (by simp) _⟩
    simp [results, Tryz.results108, go_sem, c1, c2]
/-- Three boxes. -/
abbrev Box3 (a b c : Nat) (x : UInt8) (u t : Value) (w0 w : World) : Prop := w.cell? ⟨a, 0, none⟩ = some (bv x) ∧ w.cell? ⟨b, 0, none⟩ = some u ∧ w.cell? ⟨c, 0, none⟩ = some t ∧ Below w0.heap.size w0 w
theorem Box3.keep {a b c : Nat} {x : UInt8} {u t : Value} {w0 w w' : World} (h : Box3 a b c x u t w0 w) (ha : a < w0.heap.size) (hb : b < w0.heap.size) (hc : c < w0.heap.size) (hk : Below w.heap.size w w') : Box3 a b c x u t w0 w' := by
  obtain ⟨h1, h2, h3, h4⟩ := h
  have := h4.size
  exact ⟨(hk.cell (p := ⟨a, 0, none⟩) (by show a < _; omega)).trans h1, (hk.cell (p := ⟨b, 0, none⟩) (by show b < _; omega)).trans h2, (hk.cell (p := ⟨c, 0, none⟩) (by show c < _; omega)).trans h3, h4.trans (hk.mono h4.size)⟩
set_option maxRecDepth 100000 in
set_option maxHeartbeats 4000000 in
theorem put1_c (x : UInt8) (u t : Tm) (a b c : Nat) (w0 w : World) (hn : t.depth ≤ 4000) (hg : t.good) (hu : u.good) (hpu : (parts u).length ≤ 4000) (hdu : u.depth ≤ 4000) (hp : (parts t).length ≤ 4000 ∨ sfree u = []) (ha : a < w0.heap.size) (hb : b < w0.heap.size) (hc : c < w0.heap.size) (hB : Box3 a b c x (enc u) (enc t) w0 w) :
    Calls Tryz.prog 109 #[.pointer (some ⟨a, 0, none⟩), .pointer (some ⟨b, 0, none⟩), .pointer (some ⟨c, 0, none⟩)] w (SubP (subS t.depth x u t) w) := by
  have K1 : ∀ W, Box3 a b c x (enc u) (enc t) w0 W → Calls Tryz.prog 110 #[bv x, enc u] W fun e W' => ∃ g m, e = .returned (putV x u g) ∧ m ≤ 4000 ∧ Tally W' g m (cntF u) ∧ Below W.heap.size W W' ∧ Box3 a b c x (enc u) (enc t) w0 W' :=
    fun W hS => (newPutting_c x u W hu hpu hdu).mono fun e W' ⟨g, m, h1, h2, h3, h4, h5⟩ => ⟨g, m, h1, by omega, h4, h5, hS.keep ha hb hc h5⟩
  have K2 : ∀ g m W, m ≤ 4000 → Tally W g m (cntF u) → Calls Tryz.prog 111 #[putV x u g, enc t] W (SubP (subS t.depth x u t) W) :=
    fun g m W hm hT => into_c t.depth x u t g m W (Nat.le_refl _) hn hg hu hpu hp hT hm
  generalize subS t.depth x u t = r at *
  obtain ⟨un, uv, huv⟩ := enc_gen u
  obtain ⟨tn, tv, htv⟩ := enc_gen t
  unfold putV at K1 K2
  rw [huv, htv] at hB K1
  simp only [huv, htv] at K2
  clear huv htv
  obtain ⟨q0, q1, q2, q3⟩ := hB
  have d0 : w.drew.cell? ⟨a, 0, none⟩ = some (bv x) := q0
  have d1 : w.drew.cell? ⟨b, 0, none⟩ = some (.iface un uv) := q1
  have d2 : w.drew.cell? ⟨c, 0, none⟩ = some (.iface tn tv) := q2
  have d3 := Below.drew q3
  have hBw : Below w.heap.size w w.drew := (Below.refl _ w).drew
  go_enter Tryz.func109, Tryz.ntmps109
  go_wp2_with fail
  have HBW := Lib.hid hBw
  have K1' : ∀ W, Box3 a b c x (.iface un uv) (.iface tn tv) w0 W → Below w.heap.size w W → Calls Tryz.prog 110 #[bv x, .iface un uv] W fun e W' => ∃ g m, e = .returned (.agg #[bv x, .iface un uv, .map (some g)]) ∧ m ≤ 4000 ∧ Tally W' g m (cntF u) ∧ Below w.heap.size w W' ∧ Box3 a b c x (.iface un uv) (.iface tn tv) w0 W' :=
    fun W hS hw => (K1 W hS).mono fun e W' ⟨g, m, h1, h2, h3, h4, h5⟩ => ⟨g, m, h1, h2, h3, hw.trans (h4.mono hw.size), h5⟩
  clear K1
  cases hr : r.2
  · have HR := Lib.hid hr
    clear hr
    go_region_held (fun w' => w'.cell? ⟨a, 0, none⟩ = some (bv x) ∧ w'.cell? ⟨b, 0, none⟩ = some (.iface un uv) ∧ w'.cell? ⟨c, 0, none⟩ = some (.iface tn tv) ∧ Below w0.heap.size w0 w' ∧ Below w.heap.size w w')
      (first | go_keep | refine ⟨?_, ?_, ?_, ?_, ?_⟩ <;> assumption)
      (first | (go_at_call 110; refine (K1' _ ?_ ?_).mono ?_; (refine ⟨?_, ?_, ?_, ?_⟩ <;> assumption); assumption; rintro e w6 ⟨g6, m6, rfl, hm6, hT6, hw6, h0, h1, h2, h3⟩) | (go_at_call 111; refine (K2 _ _ _ hm6 hT6).mono ?_; rintro e7 w7 ⟨he7, hb7⟩; rcases e7 with v7 | c7 | _; rotate_left; (rcases he7 with ⟨h7, _⟩ | ⟨_, he7⟩; (rw [HR.out] at h7; cases h7); injection he7 with he7; subst he7; exact ⟨rfl, .inr ⟨HR.out, rfl⟩, hw6.trans (hb7.mono hw6.size)⟩); (rcases he7 with ⟨_, he7⟩ | ⟨_, he7⟩ <;> cases he7); have hF : RowKit.Hid False := Lib.hid (by rcases he7 with ⟨h7, _⟩ | ⟨_, he7⟩; (rw [HR.out] at h7; cases h7); cases he7); obtain ⟨zn, zv, rfl⟩ : ∃ n v, v7 = .iface n v := hF.out.elim; obtain ⟨k0, k1, k2, k3, k4⟩ : w7.cell? ⟨a, 0, none⟩ = some (bv x) ∧ w7.cell? ⟨b, 0, none⟩ = some (.iface un uv) ∧ w7.cell? ⟨c, 0, none⟩ = some (.iface tn tv) ∧ Below w0.heap.size w0 w7 ∧ Below w.heap.size w w7 := hF.out.elim; clear he7))
    all_goals exact hF.out.elim
  · have HR := Lib.hid hr
    clear hr
    obtain ⟨rn, rv, hrv⟩ := enc_gen r.1
    have HRV := Lib.hid hrv
    have K3 : ∀ g m W, m ≤ 4000 → Tally W g m (cntF u) → Below w.heap.size w W → Box3 a b c x (.iface un uv) (.iface tn tv) w0 W → Calls Tryz.prog 111 #[.agg #[bv x, .iface un uv, .map (some g)], .iface tn tv] W fun e W' => e = .returned (.iface rn rv) ∧ Below w.heap.size w W' ∧ Box3 a b c x (.iface un uv) (.iface tn tv) w0 W' :=
      fun g m W hm hT hw hS => (K2 g m W hm hT).mono fun e W' ⟨h1, h2⟩ => by
        rcases h1 with ⟨_, h1⟩ | ⟨h1, _⟩
        · exact ⟨by rw [h1, hrv], hw.trans (h2.mono hw.size), hS.keep ha hb hc h2⟩
        · rw [HR.out] at h1; cases h1
    clear hrv K2
    go_region_held3 (fun w' => w'.cell? ⟨a, 0, none⟩ = some (bv x) ∧ w'.cell? ⟨b, 0, none⟩ = some (.iface un uv) ∧ w'.cell? ⟨c, 0, none⟩ = some (.iface tn tv) ∧ Below w0.heap.size w0 w' ∧ Below w.heap.size w w')
      (first | go_keep | refine ⟨?_, ?_, ?_, ?_, ?_⟩ <;> assumption)
      (first | (go_at_call 110; refine (K1' _ ?_ ?_).mono ?_; (refine ⟨?_, ?_, ?_, ?_⟩ <;> assumption); assumption; rintro e w6 ⟨g6, m6, rfl, hm6, hT6, hw6, h0, h1, h2, h3⟩) | (go_at_call 111; refine (K3 _ _ _ hm6 hT6 hw6 ?_).mono ?_; (refine ⟨?_, ?_, ?_, ?_⟩ <;> assumption); rintro e w7 ⟨rfl, hw7, k0, k1, k2, k3⟩))
    all_goals go_wp2_with fail
    all_goals go_ret
    all_goals exact ⟨.inl ⟨HR.out, by rw [HRV.out]; rfl⟩, hw7⟩
set_option maxRecDepth 100000 in
set_option maxHeartbeats 2000000 in
theorem put_c (x : UInt8) (u t : Tm) (w : World) (hn : t.depth ≤ 4000) (hg : t.good) (hu : u.good) (hpu : (parts u).length ≤ 4000) (hdu : u.depth ≤ 4000) (hp : (parts t).length ≤ 4000 ∨ sfree u = []) :
    Calls Tryz.prog 103 #[enc t, bv x, enc u] w (PutPost w (subS t.depth x u t)) := by
  have hmf : ∀ (fn : Fn) (first cap : Array Value) (w : World), (Instr.makeFunc fn first cap).run Tryz.prog w = .ok (.func fn first cap) w := fun _ _ _ _ => rfl
  have KO := fun a b c W (ha : a < W.heap.size) (hb : b < W.heap.size) (hc : c < W.heap.size) (hB : Box3 a b c x (enc u) (enc t) W W) => orShortage_c (subS t.depth x u t) (.pointer (some ⟨a, 0, none⟩)) (.pointer (some ⟨b, 0, none⟩)) (.pointer (some ⟨c, 0, none⟩)) W (fun W' hW => put1_c x u t a b c W W' hn hg hu hpu hdu hp ha hb hc ⟨(hW.cell (p := ⟨a, 0, none⟩) ha).trans hB.1, (hW.cell (p := ⟨b, 0, none⟩) hb).trans hB.2.1, (hW.cell (p := ⟨c, 0, none⟩) hc).trans hB.2.2.1, hW⟩)
  generalize subS t.depth x u t = r at *
  obtain ⟨un, uv, huv⟩ := enc_gen u
  obtain ⟨tn, tv, htv⟩ := enc_gen t
  rw [huv, htv] at KO
  rw [huv, htv]
  clear huv htv
  go_enter Tryz.func103, Tryz.ntmps103
  have hz : (((w.alloc (.cells #[.iface tn tv] 44)).alloc (.cells #[bv x] 5)).alloc (.cells #[.iface un uv] 44)).heap.size = w.heap.size + 1 + 1 + 1 := by simp
  have KW := KO (w.heap.size + 1) (w.heap.size + 1 + 1) w.heap.size (((w.alloc (.cells #[.iface tn tv] 44)).alloc (.cells #[bv x] 5)).alloc (.cells #[.iface un uv] 44)) (by rw [hz]; omega) (by rw [hz]; omega) (by rw [hz]; omega) ⟨by simp [go_sem], by simp [go_sem], by simp [go_sem], Below.refl _ _⟩
  have hb0 : Below w.heap.size w (((w.alloc (.cells #[.iface tn tv] 44)).alloc (.cells #[bv x] 5)).alloc (.cells #[.iface un uv] 44)) := (below_two w _ _).alloc (by simp; omega) _
  clear KO hz
  go_wp2_with fail
  refine KW.mono ?_
  clear KW
  rintro e w1 ⟨⟨hr, rfl⟩ | ⟨hr, rfl⟩, hb1⟩
  · obtain ⟨n, v, hv⟩ := enc_gen r.1
    have HV := Lib.hid hv
    have HR := Lib.hid hr
    rw [hv]
    clear hv hr
    go_wp2_with fail
    go_ret2
    exact ⟨.inl ⟨HR.out, by rw [HV.out]; rfl⟩, hb0.trans (hb1.mono hb0.size)⟩
  · have HR := Lib.hid hr
    clear hr
    go_wp2_with fail
    go_ret2
    exact ⟨.inr ⟨HR.out, rfl⟩, hb0.trans (hb1.mono hb0.size)⟩
end Go.Proofs.YtmkibadkcmljnaaGreatDoor
