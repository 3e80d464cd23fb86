import Derived.Test.YtjfhncfbejephaaGreatDoorMEf
/- The program's closures: the body of one. -/
namespace Go.Proofs.YtjfhncfbejephaaGreatDoor
open Go.RowKit Go.Shelf
open Ff
set_option linter.unusedVariables false
variable {X : Nat → Prop}
attribute [local irreducible] Calls
attribute [local go_sem] storeIF

/-- A value in a box, and the result's block. -/
def vW (w : World) (a0 a1 : Value) : World := (w.alloc (.cells #[a0, a1] 106)).alloc (.cells #[.int .i64 0, .nilIface] 106)
theorem vW_facts (w : World) (a0 a1 : Value) : ((vW w a0 a1).heap.size = w.heap.size + 2 ∧ Below w.heap.size w (vW w a0 a1)) ∧ (vW w a0 a1).cell? ⟨w.heap.size, 0, none⟩ = some a0 ∧ (vW w a0 a1).cell? ⟨w.heap.size, 1, none⟩ = some a1 ∧ ∃ z0 z1, (vW w a0 a1).heap[w.heap.size + 1]? = some (.cells #[z0, z1] 106 (0, 0)) := by
  refine ⟨⟨by simp [vW], ((Below.refl _ w).alloc (Nat.le_refl _) _).alloc (by simp) _⟩, by simp [vW, go_sem], by simp [vW, go_sem], .int .i64 0, .nilIface, ?_⟩
  have := World.alloc_heap_new (w.alloc (.cells #[a0, a1] 106)) (.cells #[.int .i64 0, .nilIface] 106)
  simpa [vW] using this
theorem bad_leave {r b : Nat} {cv cv1 : Rw} {w w6 w7 : World} {s s1 : St} {o o2 : Ou} {c : List PanicEntry} (h2 : o2 = o.next fun z s => .ok z s.leave) (ho : o.bad) (h : EvPost (AndX X b) r cv1 w6 s1 o (.panicked c) w7) (hK : Kep r cv w cv1 w6) (hd : s1.depth = s.depth + 1) (hd2 : s.depth ≤ 50) (tmps : Array Value) :
    Leaves Tryz.prog Tryz.f90 tmps (EvPost X r cv w s o2) [{ target := .fn (.func 98) #[], args := #[ptr r] }] (.panicking c) w7 := by
  obtain ⟨hc, cv7, s7, hR7, hK7, hd7⟩ := (evPost_bad ho _ _ _ _ _ _).1 h
  injection hc with hc
  subst hc
  refine leaves_cons (f := 98) (args := #[ptr r]) (by simp) (by simp [go_sem]) ?_
  refine (leaveCall_c r cv7 s7 _ hR7.bare (by omega) (by omega) _).mono ?_
  rintro e u' w9 ⟨rfl, rfl, hR9, hK9⟩
  have key : EvPost X r cv w s o2 (.panicked (panC o)) w9 := by
    rw [h2, Ou.next_bad ho]
    exact (evPost_bad ho _ _ _ _ _ _).2 ⟨rfl, cv7, _, hR9, (hK.trans hK7).trans hK9, by simp only [St.leave]; omega⟩
  rcases panC_cases ho with hp | hp <;> rw [hp] at key ⊢ <;> exact key
/-- What lies within a call comes to. -/
def callO (n : Nat) (t : Tm) (i : Nat) (e : En) (s1 s2 : St) : Ou := if 50 ≤ s1.depth then .long else (ev n t i e s2).next fun z s => .ok z s.leave
set_option maxRecDepth 100000 in
set_option maxHeartbeats 4000000 in
theorem evalBody_c (n : Nat) (ih : EvC n) (t : Tm) (i : Nat) (e : En) (s1 s2 : St) (r : Nat) (cv : Rw) (pv ep : Value) (w : World) (h2 : { s1 with calls := s1.calls + 1, depth := s1.depth + 1, deepest := max s1.deepest (s1.depth + 1) } = s2) (hn : 1501 ≤ s2.steps + n) (hB : s1.depth < 50 → StB s2) (hc : s1.calls ≤ 100000) (hd : s1.depth ≤ 50) (hok : TmOk t i e) (hR : RunAt X r cv w s1)
    (hP : PlaceR (Safe X r cv w) w t i pv) (hE : RepE r (Safe X r cv w) w e ep) :
    Calls Tryz.prog 90 #[ptr r, pv, ep] w (EvPost X r cv w s1 (callO n t i e s1 s2)) := by
  obtain ⟨pb, rfl⟩ := hP.form
  obtain ⟨qe, rfl⟩ := hE.form
  have hr0 := hR.lt
  have zb := (Below.refl w.heap.size w).alloc (Nat.le_refl _) (.cells #[.int .i64 0, .nilIface] 106)
  have zz := res_block w
  have zs : (w.alloc (.cells #[.int .i64 0, .nilIface] 106)).heap.size = w.heap.size + 1 := by simp
  go_enter_defers Tryz.func90, Tryz.ntmps90
  generalize hW1 : w.alloc (.cells #[.int .i64 0, .nilIface] 106) = W1 at zb zz zs
  obtain ⟨z0, z1, zz⟩ := zz
  have K1 := Kep.below (r := r) (cv := cv) zb
  have C := enterCall_c r cv s1 W1 (hR.below zb) hc hd
  go_wp2_with fail
  by_cases hd5 : 50 ≤ s1.depth
  · refine C.mono ?_
    rintro e' w' (⟨_, rfl, rfl⟩ | ⟨h, _⟩)
    · show EvPost X r cv w s1 (callO n t i e s1 s2) (.panicked longC) _
      unfold callO
      rw [if_pos hd5]
      exact ⟨rfl, cv, s1, hR.below zb, K1, rfl⟩
    · omega
  · refine C.mono ?_
    rintro e' w4 (⟨h, _⟩ | ⟨_, rfl, hR4, hK4⟩)
    · omega
    clear C
    rw [h2] at hR4
    have hs4 := hK4.size
    have hd2 : s2.depth = s1.depth + 1 := by rw [← h2]
    have H := (K1.trans hK4).hide (X := X) (b := w.heap.size) (Nat.le_refl _)
    have D := ih (AndX X w.heap.size) t i e s2 r cv (ptr pb) (.pointer qe) w4 hn (hB (by omega)) hok (hR4.hide (by omega)) (hP.keep H) (hE.keep H)
    have hW := ev_ok n _ _ _ s2 hok
    have hCO : callO n t i e s1 s2 = (ev n t i e s2).next fun z s => .ok z s.leave := if_neg hd5
    generalize ev n t i e s2 = o at D hW hCO
    have HC := Lib.hid hCO
    clear hCO h2
    have q0 : Safe X r cv W1 w.heap.size := hR.new (Nat.le_refl _) (by omega)
    go_wp2_with fail
    rcases Ou.cases o with ⟨v, s3, rfl⟩ | ho
    · have hd3 : s3.depth = s1.depth + 1 := by rw [← hd2]; exact hW.2.depth
      clear hW
      refine D.mono ?_
      rintro e' w7 ⟨x, cv7, rfl, hv, hR7, hK7⟩
      obtain ⟨u0, u1, rfl, ⟨mu, rfl⟩, ⟨qu, rfl⟩⟩ := hv.form
      have hK47 := hK4.trans hK7
      have hbo7 : ¬ cv7.own w.heap.size := fun e => by
        rcases hK47.own _ e with h | h
        · have := (hR.owns _ h).2; omega
        · omega
      obtain ⟨t0, t1, t2, t3⟩ := two_of ((hK47.safe q0).1.trans zz)
      have hs7 := hK7.size
      obtain ⟨hv8, hR8, hK8⟩ := ev_out0 hR (b := w.heap.size) (Nat.le_refl _) hv hR7 (K1.trans hK47) (by omega) hbo7
      obtain ⟨j0, j1⟩ := set_two (u0 := .int .i64 mu) (u1 := IF qu) t0 t1
      go_wp2_with fail
      refine leaves_cons (f := 98) (args := #[ptr r]) (by simp) (by simp [go_sem]) ?_
      refine (leaveCall_c r cv7 s3 _ hR8 (by omega) (by omega) _).mono ?_
      rintro e u' w9 ⟨rfl, rfl, hR9, hK9⟩
      have hsf : Safe X r cv7 ((w7.setCell ⟨w.heap.size, 0, none⟩ (.int .i64 mu)).setCell ⟨w.heap.size, 1, none⟩ (IF qu)) w.heap.size := ⟨by simp; omega, by omega, hbo7, fun e => by have := hR.priv _ e; omega⟩
      refine ⟨.agg #[.int .i64 mu, IF qu], by simp [results, Tryz.results90, go_sem, hK9.cell hsf j0, hK9.cell hsf j1], ?_⟩
      rw [HC.out]
      exact ⟨_, cv7, rfl, hK9.rep hv8, hR9, hK8.trans hK9⟩
    · clear hW
      refine D.mono ?_
      intro e' w7 h
      obtain ⟨hc', _⟩ := (evPost_bad ho _ _ _ _ _ _).1 h
      subst hc'
      exact bad_leave HC.out ho h (K1.trans hK4) hd2 hd _
theorem evPost_depth {r : Nat} {cv : Rw} {w w' : World} {s s2 : St} {o : Ou} {e : Ending} (hd : s.depth = s2.depth) (h : EvPost X r cv w s o e w') : EvPost X r cv w s2 o e w' := by
  cases o with
  | ok v s' => exact h
  | fault => obtain ⟨h1, cv', s', h2, h3, h4⟩ := h; exact ⟨h1, cv', s', h2, h3, h4.trans hd⟩
  | long => obtain ⟨h1, cv', s', h2, h3, h4⟩ := h; exact ⟨h1, cv', s', h2, h3, h4.trans hd⟩
end Go.Proofs.YtjfhncfbejephaaGreatDoor

/- The program's closures: called, they note it. -/
namespace Go.Proofs.YtjfhncfbejephaaGreatDoor
open Go.RowKit Go.Shelf
open Ff
set_option linter.unusedVariables false
variable {X : Nat → Prop}
attribute [local irreducible] Calls
attribute [local go_sem] storeIF
set_option maxRecDepth 100000 in
set_option maxHeartbeats 8000000 in
theorem clobody_c (n : Nat) (ih : EvC n) (g : Tm) (j : Nat) (e : En) (y : Vl) (s : St) (p : Nat) (r : Nat) (cv : Rw) (x : Value) (w : World) (b br bp be bx : Nat) (pl0 ee e0 : Value) (hn : 1501 ≤ s.steps + n) (hB : StB s) (hcs : s.calls < s.steps) (hcl : w.cell? ⟨r, 9, none⟩ = some (.int .i64 (p : Int))) (hf : isFun g = true) (hok : TmOk (bodyOf g) (j + 1) (bodyEn g j e y)) (hR : RunAt X r cv w s)
    (hv : RepV r (Safe X r cv w) w (.clo j g e) (.agg #[.int .i64 0, .iface 180 (ptr b)]))
    (hbr : Safe X r cv w br) (cr : w.cell? ⟨br, 0, none⟩ = some (ptr r)) (hbp : Safe X r cv w bp) (cp : w.cell? ⟨bp, 0, none⟩ = some pl0) (hp : PlaceR (Safe X r cv w) w g j pl0)
    (hbe : Safe X r cv w be) (ce : w.cell? ⟨be, 0, none⟩ = some ee) (hbx : Safe X r cv w bx) (cx : w.cell? ⟨bx, 1, none⟩ = some (.int .u8 ((paramOf g).toNat : Int)))
    (hee : CloEnv (Safe X r cv w) w g b ee e0) (he : RepE r (Safe X r cv w) w e e0) (hy : RepV r (Safe X r cv w) w y x) :
    Calls Tryz.prog 89 #[x, ptr br, ptr bp, ptr be, ptr bx] w (EvPost X r cv w s (callV (ev n) p (.clo j g e) y s)) := by
  obtain ⟨a0, a1, rfl, ⟨m, rfl⟩, ⟨q, rfl⟩⟩ := hy.form
  obtain ⟨bl, gk, cap, pk, rfl, hbl, hgk, p3, p4, hpk⟩ := kid_place hp (fun_kid hf).1
  rw [(fun_kid hf).2.1] at p3
  rw [(fun_kid hf).2.2] at hpk
  obtain ⟨pb, rfl⟩ := hpk.form
  obtain ⟨⟨qe, rfl⟩, htop⟩ := cloEnv_form hee he
  have pi := place_idx hp
  have hb0 := hbr.1
  have hb1 := hbp.1
  have hb2 := hbe.1
  have hb3 := hbx.1
  have hb4 := hbl.1
  have hb5 := hgk.1
  have hr0 := hR.lt
  obtain ⟨s1, s2, s3, s4, s5, s6, s7, s8, s9⟩ := hB
  go_enter Tryz.func89, Tryz.ntmps89
  go_wp2_with fail
  have z := vW_facts w (.int .i64 m) (IF q)
  change Code.wp _ _ _ _ (vW w (.int .i64 m) (IF q))
  generalize vW w (.int .i64 m) (IF q) = W1 at z ⊢
  obtain ⟨⟨zs, zb⟩, z0, z1, zz0, zz1, z2⟩ := z
  have hR1 := hR.below zb
  have c0 := (zb.cell (p := ⟨br, 0, none⟩) hb0).trans cr
  have c1 := (zb.cell (p := ⟨bp, 0, none⟩) hb1).trans cp
  have c9 := (zb.cell (p := ⟨r, 9, none⟩) hr0).trans hcl
  have ci := (zb.cell (p := ⟨bl, 1, none⟩) hb4).trans pi
  obtain ⟨_, _, _, _, _, _, _, c7, _, _, rf⟩ := hR1.at
  have lr : r < W1.heap.size := hR1.lt
  have lbr : br < W1.heap.size := by omega
  have lbp : bp < W1.heap.size := by omega
  have lbl : bl < W1.heap.size := by omega
  have lrr : r + 1 ≤ ((W1.alloc (.cells #[.int .i64 (p : Int), .int .i64 (j : Int)] 51)).drew).heap.size := by simp; omega
  have hlen : s.called.length ≤ 10000 := by omega
  have nB : some br ≠ cv.c.ownBlock := fun e => hbr.2.2.1 (.inl e.symm)
  have nP : some bp ≠ cv.c.ownBlock := fun e => hbp.2.2.1 (.inl e.symm)
  have nL : some bl ≠ cv.c.ownBlock := fun e => hbl.2.2.1 (.inl e.symm)
  have nR : some r ≠ cv.c.ownBlock := fun e => row_not2 hR1.row e.symm
  have n0 : Safe X r cv W1 w.heap.size := hR.new (Nat.le_refl _) (by omega)
  have n1 : Safe X r cv W1 (w.heap.size + 1) := hR.new (Nat.le_succ _) (by omega)
  have PK := Lib.hid (And.intro hn (And.intro hcs (And.intro hf (And.intro hok (And.intro hv (And.intro hbr (And.intro cr (And.intro hbp (And.intro cp (And.intro hp (And.intro hbe (And.intro ce (And.intro hbx (And.intro cx (And.intro hee (And.intro he (And.intro hy (And.intro hbl (And.intro hgk (And.intro p3 (And.intro p4 (And.intro hpk (And.intro htop (And.intro pi (And.intro hb0 (And.intro hb1 (And.intro hb2 (And.intro hb3 (And.intro hb4 (And.intro hb5 (And.intro hr0 (And.intro s1 (And.intro s2 (And.intro s3 (And.intro s4 (And.intro s5 (And.intro s6 (And.intro s7 (And.intro s8 (And.intro s9 (And.intro zs (And.intro zb (And.intro z0 (And.intro z1 (And.intro z2 (And.intro n0 (And.intro n1 hcl)))))))))))))))))))))))))))))))))))))))))))))))
  clear hcl n1 n0 z2 z1 z0 zb zs s9 s8 s7 s6 s5 s4 s3 s2 s1 hr0 hb5 hb4 hb3 hb2 hb1 hb0 pi htop hpk p4 p3 hgk hbl hy he hee cx hbx ce hbe hp cp hbp cr hbr hv hok hf hcs hn
  refine wp_region_T 18 (fun w' => w'.cell? ⟨br, 0, none⟩ = some (ptr r) ∧ w'.cell? ⟨bp, 0, none⟩ = some (ptr bl) ∧ w'.cell? ⟨bl, 1, none⟩ = some (.int .i64 (j : Int)) ∧ w'.cell? ⟨r, 7, none⟩ = some cv.c ∧ w'.cell? ⟨r, 9, none⟩ = some (.int .i64 (p : Int))) (by kernel_rfl) ⟨c0, c1, ci, c7, c9⟩ (fun hHeld => ?_)
  refine AnyT.take [16, 17, 18] (i := 0) (v := ?_) rfl (by kernel_rfl) (by kernel_rfl) (by kernel_rfl) (by kernel_rfl) (fun _ _ _ h => h) (Or.inl ⟨by rfl, ?_⟩) (by assumption) ?_
  rotate_left 1
  · intro w' hSw
    (try dsimp only at hSw)
    go_simp
    try with_reducible rfl
  (try simp only [Act.put]); (try simp only [List.setIfInBounds_toArray]); (try simp only [List.set_cons_zero]); (try simp only [List.set_cons_succ])
  refine AnyT.take [2, 3, 4, 15, 18] (i := 1) (v := ?_) rfl (by kernel_rfl) (by kernel_rfl) (by kernel_rfl) (by kernel_rfl) (fun _ _ _ h => h) (Or.inl ⟨by rfl, ?_⟩) (by assumption) ?_
  rotate_left 1
  · intro w' hSw
    (try dsimp only at hSw)
    go_simp
    try with_reducible rfl
  (try simp only [Act.put]); (try simp only [List.setIfInBounds_toArray]); (try simp only [List.set_cons_zero]); (try simp only [List.set_cons_succ])
  refine AnyT.take [3, 4, 15, 18] (i := 2) (v := ?_) rfl (by kernel_rfl) (by kernel_rfl) (by kernel_rfl) (by kernel_rfl) (fun _ _ _ h => h) (Or.inl ⟨by rfl, ?_⟩) (by assumption) ?_
  rotate_left 1
  · intro w' hSw
    (try dsimp only at hSw)
    go_simp
    try with_reducible rfl
  (try simp only [Act.put]); (try simp only [List.setIfInBounds_toArray]); (try simp only [List.set_cons_zero]); (try simp only [List.set_cons_succ])
  refine AnyT.take [4, 15, 18] (i := 3) (v := ?_) rfl (by kernel_rfl) (by kernel_rfl) (by kernel_rfl) (by kernel_rfl) (fun _ _ _ h => h) (Or.inl ⟨by rfl, ?_⟩) (by assumption) ?_
  rotate_left 1
  · intro w' hSw
    (try dsimp only at hSw)
    go_simp
    try with_reducible rfl
  (try simp only [Act.put]); (try simp only [List.setIfInBounds_toArray]); (try simp only [List.set_cons_zero]); (try simp only [List.set_cons_succ])
  refine AnyT.take [15, 18] (i := 4) (v := ?_) rfl (by kernel_rfl) (by kernel_rfl) (by kernel_rfl) (by kernel_rfl) (fun _ _ _ h => h) (Or.inl ⟨by rfl, ?_⟩) (by assumption) ?_
  rotate_left 1
  · intro w' hSw
    (try dsimp only at hSw)
    go_simp
    try with_reducible rfl
  (try simp only [Act.put]); (try simp only [List.setIfInBounds_toArray]); (try simp only [List.set_cons_zero]); (try simp only [List.set_cons_succ])
  refine AnyT.take [6, 7, 8, 13, 14, 15, 18] (i := 5) (v := ?_) rfl (by kernel_rfl) (by kernel_rfl) (by kernel_rfl) (by kernel_rfl) (fun _ _ _ h => h) (Or.inl ⟨by rfl, ?_⟩) (by assumption) ?_
  rotate_left 1
  · intro w' hSw
    (try dsimp only at hSw)
    go_simp
    try with_reducible rfl
  (try simp only [Act.put]); (try simp only [List.setIfInBounds_toArray]); (try simp only [List.set_cons_zero]); (try simp only [List.set_cons_succ])
  refine AnyT.take [7, 8, 13, 14, 15, 18] (i := 6) (v := ?_) rfl (by kernel_rfl) (by kernel_rfl) (by kernel_rfl) (by kernel_rfl) (fun _ _ _ h => h) (Or.inl ⟨by rfl, ?_⟩) (by assumption) ?_
  rotate_left 1
  · intro w' hSw
    (try dsimp only at hSw)
    go_simp
    try with_reducible rfl
  (try simp only [Act.put]); (try simp only [List.setIfInBounds_toArray]); (try simp only [List.set_cons_zero]); (try simp only [List.set_cons_succ])
  refine AnyT.take [8, 13, 14, 15, 18] (i := 7) (v := ?_) rfl (by kernel_rfl) (by kernel_rfl) (by kernel_rfl) (by kernel_rfl) (fun _ _ _ h => h) (Or.inl ⟨by rfl, ?_⟩) (by assumption) ?_
  rotate_left 1
  · intro w' hSw
    (try dsimp only at hSw)
    go_simp
    try with_reducible rfl
  (try simp only [Act.put]); (try simp only [List.setIfInBounds_toArray]); (try simp only [List.set_cons_zero]); (try simp only [List.set_cons_succ])
  refine AnyT.take [13, 14, 15, 18] (i := 8) (v := ?_) rfl (by kernel_rfl) (by kernel_rfl) (by kernel_rfl) (by kernel_rfl) (fun _ _ _ h => h) (Or.inl ⟨by rfl, ?_⟩) (by assumption) ?_
  rotate_left 1
  · intro w' hSw
    (try dsimp only at hSw)
    go_simp
    try with_reducible rfl
  (try simp only [Act.put]); (try simp only [List.setIfInBounds_toArray]); (try simp only [List.set_cons_zero]); (try simp only [List.set_cons_succ])
  refine AnyT.take [10, 11, 12, 13, 14, 15, 18] (i := 9) (v := ?_) rfl (by kernel_rfl) (by kernel_rfl) (by kernel_rfl) (by kernel_rfl) (fun _ _ _ h => h) (Or.inl ⟨by rfl, ?_⟩) (by assumption) ?_
  rotate_left 1
  · intro w' hSw
    (try dsimp only at hSw)
    go_simp
    try with_reducible rfl
  (try simp only [Act.put]); (try simp only [List.setIfInBounds_toArray]); (try simp only [List.set_cons_zero]); (try simp only [List.set_cons_succ])
  refine AnyT.take [11, 12, 13, 14, 15, 18] (i := 10) (v := ?_) rfl (by kernel_rfl) (by kernel_rfl) (by kernel_rfl) (by kernel_rfl) (fun _ _ _ h => h) (Or.inl ⟨by rfl, ?_⟩) (by assumption) ?_
  rotate_left 1
  · intro w' hSw
    (try dsimp only at hSw)
    go_simp
    try with_reducible rfl
  (try simp only [Act.put]); (try simp only [List.setIfInBounds_toArray]); (try simp only [List.set_cons_zero]); (try simp only [List.set_cons_succ])
  refine AnyT.take [12, 13, 14, 15, 18] (i := 11) (v := ?_) rfl (by kernel_rfl) (by kernel_rfl) (by kernel_rfl) (by kernel_rfl) (fun _ _ _ h => h) (Or.inl ⟨by rfl, ?_⟩) (by assumption) ?_
  rotate_left 1
  · intro w' hSw
    (try dsimp only at hSw)
    go_simp
    try with_reducible rfl
  (try simp only [Act.put]); (try simp only [List.setIfInBounds_toArray]); (try simp only [List.set_cons_zero]); (try simp only [List.set_cons_succ])
  refine AnyT.take [13, 14, 15, 18] (i := 12) (v := ?_) rfl (by kernel_rfl) (by kernel_rfl) (by kernel_rfl) (by kernel_rfl) (fun _ _ _ h => h) (Or.inl ⟨by rfl, ?_⟩) (by assumption) ?_
  rotate_left 1
  · intro w' hSw
    (try dsimp only at hSw)
    go_simp
    try with_reducible rfl
  (try simp only [Act.put]); (try simp only [List.setIfInBounds_toArray]); (try simp only [List.set_cons_zero]); (try simp only [List.set_cons_succ])
  refine AnyT.take [14, 15, 18] (i := 13) (v := ?_) rfl (by kernel_rfl) (by kernel_rfl) (by kernel_rfl) (by kernel_rfl) (fun _ _ _ h => h) (Or.inl ⟨by rfl, ?_⟩) (by assumption) ?_
  rotate_left 1
  · intro w' hSw
    (try dsimp only at hSw)
    go_simp
    try with_reducible rfl
  (try simp only [Act.put]); (try simp only [List.setIfInBounds_toArray]); (try simp only [List.set_cons_zero]); (try simp only [List.set_cons_succ])
  refine AnyT.one (i := 14) (by kernel_rfl) rfl (fun K hK => ?_)
  go_simp
  refine hK.out _ _ (fun _ => ?_) ?_
  · exact ⟨alloc_far lbr c0, alloc_far lbp c1, alloc_far lbl ci, alloc_far lr c7, alloc_far lr c9⟩
  clear hK K
  (try simp only [Act.put]); (try simp only [List.setIfInBounds_toArray]); (try simp only [List.set_cons_zero]); (try simp only [List.set_cons_succ])
  refine AnyT.one (i := 15) (by kernel_rfl) rfl (fun K hK => ?_)
  refine step_app_pair _ (by rfl) _ _ (by rfl) (r + 1) cv.c s.called.length (pairsV s.froms s.called) (by rfl) (row_up hR1.row _) ⟨W1.heap.size, 0, none⟩ [.int .i64 (p : Int), .int .i64 (j : Int)] (by rfl) rfl (nine_block (cs := [.int .i64 (p : Int), .int .i64 (j : Int)]) (alloc_at W1 _)) (by simp [Value.oneCell']) hlen lrr ?_
  intro gr cr2 w5 hrow5 hgr5 hwh5
  obtain ⟨c57, fz57⟩ := hR1.cellC hgr5
  have c50 := (World.cell?_of_block (a := ⟨br, 0, none⟩) (grown_block hgr5 lbr nB)).trans c0
  have c51 := (World.cell?_of_block (a := ⟨bp, 0, none⟩) (grown_block hgr5 lbp nP)).trans c1
  have c52 := (World.cell?_of_block (a := ⟨bl, 1, none⟩) (grown_block hgr5 lbl nL)).trans ci
  have c59 := (World.cell?_of_block (a := ⟨r, 9, none⟩) (grown_block hgr5 lr nR)).trans c9
  have hHeld5 : w5.cell? ⟨br, 0, none⟩ = some (ptr r) ∧ w5.cell? ⟨bp, 0, none⟩ = some (ptr bl) ∧ w5.cell? ⟨bl, 1, none⟩ = some (.int .i64 (j : Int)) ∧ w5.cell? ⟨r, 7, none⟩ = some cv.c ∧ w5.cell? ⟨r, 9, none⟩ = some (.int .i64 (p : Int)) := ⟨c50, c51, c52, c57, c59⟩
  refine hK.out _ _ (fun _ => hHeld5) ?_
  clear hK K
  (try simp only [Act.put]); (try simp only [List.setIfInBounds_toArray]); (try simp only [List.set_cons_zero]); (try simp only [List.set_cons_succ])
  refine AnyT.take [17, 18] (i := 16) (v := ?_) rfl (by kernel_rfl) (by kernel_rfl) (by kernel_rfl) (by kernel_rfl) (fun _ _ _ h => h) (Or.inl ⟨by rfl, ?_⟩) (by assumption) ?_
  rotate_left 1
  · intro w' hSw
    (try dsimp only at hSw)
    go_simp
    try with_reducible rfl
  (try simp only [Act.put]); (try simp only [List.setIfInBounds_toArray]); (try simp only [List.set_cons_zero]); (try simp only [List.set_cons_succ])
  refine AnyT.take [18] (i := 17) (v := ?_) rfl (by kernel_rfl) (by kernel_rfl) (by kernel_rfl) (by kernel_rfl) (fun _ _ _ h => h) (Or.inl ⟨by rfl, ?_⟩) (by assumption) ?_
  rotate_left 1
  · intro w' hSw
    (try dsimp only at hSw)
    go_simp
    try with_reducible rfl
  (try simp only [Act.put]); (try simp only [List.setIfInBounds_toArray]); (try simp only [List.set_cons_zero]); (try simp only [List.set_cons_succ])
  refine AnyT.one (i := 18) (by kernel_rfl) rfl (fun K hK => ?_)
  go_simp
  refine hK.out _ _ (fun h => absurd h (by simp)) ?_
  clear hK K
  (try simp only [Act.put]); (try simp only [List.setIfInBounds_toArray]); (try simp only [List.set_cons_zero]); (try simp only [List.set_cons_succ])
  refine AnyT.done (by kernel_rfl) ?_ _
  clear hHeld5 c50 c51 c52 c57 c59 fz57 hHeld
  go_wp2_with fail
  obtain ⟨hn, hcs, hf, hok, hv, hbr, cr, hbp, cp, hp, hbe, ce, hbx, cx, hee, he, hy, hbl, hgk, p3, p4, hpk, htop, pi, hb0, hb1, hb2, hb3, hb4, hb5, hr0, s1, s2, s3, s4, s5, s6, s7, s8, s9, zs, zb, z0, z1, z2, n0, n1, hcl⟩ := PK.out
  obtain ⟨hR2, K12⟩ := hR1.addCall hrow5 hgr5 hwh5
  have hs12 := K12.size
  generalize (w5.setCell ⟨r, 7, none⟩ (.slice (some ⟨gr, 0, none⟩) (s.called.length + 1) cr2)) = W2 at hR2 K12 hs12 ⊢
  generalize (Value.slice (some ⟨gr, 0, none⟩) (s.called.length + 1) cr2) = cc at hR2 K12
  clear hrow5 hgr5 hwh5 c7 rf lrr hlen c0 c1 c9 ci lr lbr lbp lbl
  have K2 := (Kep.below (r := r) (cv := cv) zb).trans K12
  have H2 : ∀ g, Safe X r cv w g → W2.heap[g]? = w.heap[g]? ∧ Safe X r ⟨cc, cv.d⟩ W2 g := fun g hg => K2.safe hg
  have z0 := K12.cell n0 z0
  have z1 := K12.cell n0 z1
  have z2 := (K12.safe n1).1.trans z2
  have m0 := (K12.safe n0).2
  have m1 := (K12.safe n1).2
  have d0 := cell_keep H2 hbr cr
  have d1 := cell_keep H2 hbp cp
  have d2 := cell_keep H2 hbe ce
  have d3 := cell_keep H2 hbx cx
  have d4 := cell_keep H2 hbl p3
  have d5 := cell_keep H2 hgk p4
  have tbr := (H2 br hbr).2
  have tbp := (H2 bp hbp).2
  have tbe := (H2 be hbe).2
  have tbx := (H2 bx hbx).2
  have tbl := (H2 bl hbl).2
  have tgk := (H2 gk hgk).2
  clear cr cp ce cx p3 p4 n0 n1 hp pi hcl
  have C := with_c (.pointer qe) (paramOf g) (.int .i64 m) (IF q) ⟨_, rfl⟩ ⟨_, rfl⟩ ⟨_, rfl⟩ W2.drew
  have C2 : Calls Tryz.prog 60 #[.pointer qe, .int .u8 ((paramOf g).toNat : Int), .agg #[.int .i64 m, IF q]] W2.drew fun e' w' => ∃ x, e' = .returned x ∧ (∃ bs, x = ptr bs ∧ W2.heap.size ≤ bs ∧ bs < w'.heap.size ∧ Below W2.heap.size W2 w' ∧ w'.cell? ⟨bs, 0, none⟩ = some (.int .u8 ((paramOf g).toNat : Int)) ∧ w'.cell? ⟨bs, 1, none⟩ = some (.int .i64 m) ∧ w'.cell? ⟨bs, 2, none⟩ = some (IF q) ∧ w'.cell? ⟨bs, 3, none⟩ = some (.pointer qe)) ∧ w'.cell? ⟨br, 0, none⟩ = some (ptr r) ∧ w'.cell? ⟨bp, 0, none⟩ = some (ptr bl) ∧ w'.cell? ⟨bl, 3, none⟩ = some (.slice (some ⟨gk, 0, none⟩) 1 cap) ∧ w'.cell? ⟨gk, 0, none⟩ = some (ptr pb) ∧ w'.cell? ⟨be, 0, none⟩ = some (.pointer qe) ∧ w'.cell? ⟨bx, 1, none⟩ = some (.int .u8 ((paramOf g).toNat : Int)) ∧ w'.cell? ⟨w.heap.size, 0, none⟩ = some (.int .i64 m) ∧ w'.cell? ⟨w.heap.size, 1, none⟩ = some (IF q) := C.mono (by
      rintro e' w' ⟨bs, rfl, q1, q2, q3, q4, q5, q6, q7⟩
      have q8 : Below W2.heap.size W2 w' := ((Below.refl _ W2).drew).trans q3
      exact ⟨_, rfl, ⟨bs, rfl, q1, q2, q8, q4, q5, q6, q7⟩, (q8.cell tbr.1).trans d0, (q8.cell tbp.1).trans d1, (q8.cell tbl.1).trans d4, (q8.cell tgk.1).trans d5, (q8.cell tbe.1).trans d2, (q8.cell tbx.1).trans d3, (q8.cell m0.1).trans z0, (q8.cell m0.1).trans z1⟩)
  clear C
  obtain ⟨o, ho⟩ : ∃ o, callV (ev n) p (.clo j g e) y s = o := ⟨_, rfl⟩
  have hent : { { s with called := s.called ++ [j], froms := s.froms ++ [p] } with calls := s.calls + 1, depth := s.depth + 1, deepest := max s.deepest (s.depth + 1) } = s.enter p j := rfl
  have D : ∀ w3 bs, W2.heap.size ≤ bs → bs < w3.heap.size → Below W2.heap.size W2 w3 → w3.cell? ⟨bs, 0, none⟩ = some (.int .u8 ((paramOf g).toNat : Int)) → w3.cell? ⟨bs, 1, none⟩ = some (.int .i64 m) → w3.cell? ⟨bs, 2, none⟩ = some (IF q) → w3.cell? ⟨bs, 3, none⟩ = some (.pointer qe) →
      Calls Tryz.prog 90 #[ptr r, ptr pb, ptr bs] w3 fun e' w' => EvPost (AndX X (w.heap.size + 1)) r ⟨cc, cv.d⟩ w3 s o e' w' ∧ Kep r ⟨cc, cv.d⟩ W2 ⟨cc, cv.d⟩ w3 ∧ W2.heap.size ≤ w3.heap.size ∧ (∃ z0 z1, w'.heap[w.heap.size + 1]? = some (.cells #[z0, z1] 106 (0, 0))) ∧ w'.cell? ⟨br, 0, none⟩ = some (ptr r) ∧ w'.cell? ⟨bp, 0, none⟩ = some (ptr bl) ∧ w'.cell? ⟨bl, 3, none⟩ = some (.slice (some ⟨gk, 0, none⟩) 1 cap) ∧ w'.cell? ⟨gk, 0, none⟩ = some (ptr pb) ∧ w'.cell? ⟨be, 0, none⟩ = some (.pointer qe) ∧ w'.cell? ⟨bx, 1, none⟩ = some (.int .u8 ((paramOf g).toNat : Int)) ∧ w'.cell? ⟨w.heap.size, 0, none⟩ = some (.int .i64 m) ∧ w'.cell? ⟨w.heap.size, 1, none⟩ = some (IF q) := by
    intro w3 bs q1 q2 q3 q4 q5 q6 q7
    have K3 := K2.trans (Kep.below (r := r) (cv := ⟨cc, cv.d⟩) q3)
    have H : ∀ g, Safe X r cv w g → w3.heap[g]? = w.heap[g]? ∧ Safe (AndX X (w.heap.size + 1)) r ⟨cc, cv.d⟩ w3 g := K3.hide (Nat.le_succ _)
    have hR3 := hR2.below q3
    have hs : Safe (AndX X (w.heap.size + 1)) r ⟨cc, cv.d⟩ w3 bs := ⟨q2, by have := hR2.lt; omega, fun e => by have := (hR2.owns bs e).2; omega, fun e => by rcases e with e | e; (have := hR.priv bs e; omega); omega⟩
    have hBe : s.depth < 50 → StB (s.enter p j) := fun hd => ⟨s1, by simp only [St.enter]; omega, s3, s4, by simp only [St.enter]; omega, by simp only [St.enter]; omega, by simp only [St.enter, List.length_append, List.length_cons, List.length_nil]; omega, by simp only [St.enter, List.length_append, List.length_cons, List.length_nil]; omega, s9⟩
    refine (evalBody_c (X := AndX X (w.heap.size + 1)) n ih (bodyOf g) (j + 1) (bodyEn g j e y) _ (s.enter p j) r ⟨cc, cv.d⟩ (ptr pb) (ptr bs) w3 hent hn hBe (by show s.calls ≤ 100000; omega) s6 hok (hR3.hide (by omega)) (hpk.keep H) (body_env hf (hv.keep H) (hee.keep H) (he.keep H) (hy.keep H) hs q4 q5 q6 q7 (by have := htop w.heap.size (fun g hg => hg.1); omega))).mono ?_
    intro e' w' h
    have h : EvPost (AndX X (w.heap.size + 1)) r ⟨cc, cv.d⟩ w3 s o e' w' := by
      rw [← ho]
      exact evPost_depth rfl h
    obtain ⟨cv', hk⟩ := evPost_kep h
    have hk2 := K3.trans hk
    have hkz : ∀ k v, W2.cell? ⟨w.heap.size, k, none⟩ = some v → w'.cell? ⟨w.heap.size, k, none⟩ = some v := fun k v hv => ((Kep.below (r := r) (cv := ⟨cc, cv.d⟩) q3).trans hk).cell m0 hv
    have q3k := (Kep.below (r := r) (cv := ⟨cc, cv.d⟩) q3)
    exact ⟨h, q3k, q3.size, ⟨zz0, zz1, ((q3k.trans hk).safe m1).1.trans z2⟩, (q3k.trans hk).cell tbr d0, (q3k.trans hk).cell tbp d1, (q3k.trans hk).cell tbl d4, (q3k.trans hk).cell tgk d5, (q3k.trans hk).cell tbe d2, (q3k.trans hk).cell tbx d3, hkz _ _ z0, hkz _ _ z1⟩
  clear hpk hee he hy hv
  have n6 : w.heap.size ≠ w.heap.size + 1 := by omega
  have n0 : br ≠ w.heap.size + 1 := by omega
  have n1 : bp ≠ w.heap.size + 1 := by omega
  have n2 : be ≠ w.heap.size + 1 := by omega
  have n3 : bx ≠ w.heap.size + 1 := by omega
  have n4 : bl ≠ w.heap.size + 1 := by omega
  have n5 : gk ≠ w.heap.size + 1 := by omega
  rw [ho]
  have HO := Lib.hid ho
  clear ho hent H2 s1 s2 s3 s4 s5 s6 s7 s8 s9
  rcases Ou.cases o with ⟨v, s', hO⟩ | hbad
  · subst hO
    go_region_held3 (fun w' => w'.cell? ⟨br, 0, none⟩ = some (ptr r) ∧ w'.cell? ⟨bp, 0, none⟩ = some (ptr bl) ∧ w'.cell? ⟨bl, 3, none⟩ = some (.slice (some ⟨gk, 0, none⟩) 1 cap) ∧ w'.cell? ⟨gk, 0, none⟩ = some (ptr pb) ∧ w'.cell? ⟨be, 0, none⟩ = some (.pointer qe) ∧ w'.cell? ⟨bx, 1, none⟩ = some (.int .u8 ((paramOf g).toNat : Int)) ∧ w'.cell? ⟨w.heap.size, 0, none⟩ = some (.int .i64 m) ∧ w'.cell? ⟨w.heap.size, 1, none⟩ = some (IF q))
      (first | (simp only [set_far _ _ _ _ _ _ n0, set_far _ _ _ _ _ _ n1, set_far _ _ _ _ _ _ n2, set_far _ _ _ _ _ _ n3, set_far _ _ _ _ _ _ n4, set_far _ _ _ _ _ _ n5, set_far _ _ _ _ _ _ n6]; refine ⟨?_, ?_, ?_, ?_, ?_, ?_, ?_, ?_⟩ <;> assumption) | (refine ⟨?_, ?_, ?_, ?_, ?_, ?_, ?_, ?_⟩ <;> assumption) | go_keep)
      (first | (refine C2.mono ?_; rintro e' w3 ⟨x, rfl, ⟨bs, rfl, q1, q2, q3, q4, q5, q6, q7⟩, k0, k1, k2, k3, k4, k5, k6, k7⟩) | (refine (D _ _ q1 q2 q3 q4 q5 q6 q7).mono ?_; rintro e' w4 ⟨⟨x, cv', rfl, hv, hR4, hK4⟩, hK3, hsz, ⟨y0, y1, hz⟩, k0, k1, k2, k3, k4, k5, k6, k7⟩; obtain ⟨u0, u1, rfl, ⟨mu, rfl⟩, ⟨qu, rfl⟩⟩ := hv.form; obtain ⟨t0, t1, t2, t3⟩ := two_of hz))
    go_wp2_with fail
    refine bodyPost_ret (v := .agg #[.int .i64 mu, IF qu]) (by simp [results, Tryz.results89, go_sem, t0, t1]) rfl ?_
    rw [HO.out]
    refine ev_out (b := w.heap.size + 1) hR (Nat.le_succ _) hv hR4 (K2.trans (hK3.trans hK4)) (by have := hK4.size; omega) (fun e => ?_)
    rcases (K12.trans (hK3.trans hK4)).own _ e with h | h
    · have := (hR.owns _ h).2; omega
    · omega
  · go_region_held (fun w' => w'.cell? ⟨br, 0, none⟩ = some (ptr r) ∧ w'.cell? ⟨bp, 0, none⟩ = some (ptr bl) ∧ w'.cell? ⟨bl, 3, none⟩ = some (.slice (some ⟨gk, 0, none⟩) 1 cap) ∧ w'.cell? ⟨gk, 0, none⟩ = some (ptr pb) ∧ w'.cell? ⟨be, 0, none⟩ = some (.pointer qe) ∧ w'.cell? ⟨bx, 1, none⟩ = some (.int .u8 ((paramOf g).toNat : Int)) ∧ w'.cell? ⟨w.heap.size, 0, none⟩ = some (.int .i64 m) ∧ w'.cell? ⟨w.heap.size, 1, none⟩ = some (IF q))
      (first | (simp only [set_far _ _ _ _ _ _ n0, set_far _ _ _ _ _ _ n1, set_far _ _ _ _ _ _ n2, set_far _ _ _ _ _ _ n3, set_far _ _ _ _ _ _ n4, set_far _ _ _ _ _ _ n5, set_far _ _ _ _ _ _ n6]; refine ⟨?_, ?_, ?_, ?_, ?_, ?_, ?_, ?_⟩ <;> assumption) | (refine ⟨?_, ?_, ?_, ?_, ?_, ?_, ?_, ?_⟩ <;> assumption) | go_keep)
      (first | (refine C2.mono ?_; rintro e' w3 ⟨x, rfl, ⟨bs, rfl, q1, q2, q3, q4, q5, q6, q7⟩, k0, k1, k2, k3, k4, k5, k6, k7⟩) | (refine (D _ _ q1 q2 q3 q4 q5 q6 q7).mono ?_; rintro e' w4 ⟨h, hK3, hsz, ⟨y0, y1, hz⟩, k0, k1, k2, k3, k4, k5, k6, k7⟩; rcases e' with v | c | _; rotate_left; (obtain ⟨hc, cv', s', h2, h3, h4⟩ := (evPost_bad hbad _ _ _ _ _ _).1 h; injection hc with hc; subst hc; exact ⟨rfl, (evPost_bad hbad _ _ _ _ _ _).2 ⟨rfl, cv', s', h2.bare, K2.trans (hK3.trans h3), h4⟩⟩); (exact absurd ((evPost_bad hbad _ _ _ _ _ _).1 h).1 (by simp)); have hF : RowKit.Hid False := Lib.hid (absurd ((evPost_bad hbad _ _ _ _ _ _).1 h).1 (by simp)); obtain ⟨u0, u1, rfl⟩ : ∃ u0 u1, v = .agg #[.int .i64 u0, .pointer u1] := hF.out.elim; obtain ⟨t0, t1, t2, t3⟩ := two_of hz))
    exact hF.out.elim
end Go.Proofs.YtjfhncfbejephaaGreatDoor

/- The program's closures: a call. -/
namespace Go.Proofs.YtjfhncfbejephaaGreatDoor
open Go.RowKit Go.Shelf
open Ff
set_option linter.unusedVariables false
variable {X : Nat → Prop}
attribute [local irreducible] Calls
attribute [local go_sem] storeIF

/-- A method with an argument, called through the interface: it returns. -/
theorem wpList_invoke1 {P : Program} {ops : Array Oper} {rest : List Oper} {o : Oper} {a : Act} {Q : Exit → Act → World → Prop} {w : World} (hgd : o.guard = none) (r : Operand) (m : String) (t : TypeId) (v : Value) (x : Operand) (tx : TypeId) (y : Value)
    (ho : o.op = .call { callee := .invoke r m, args := #[x], argTypes := #[tx] }) (hr : a.eval r = .iface t v) (hx : a.eval x = y) (f : FuncId) (hm : (method (P.types.size + 100) t v m).run P w = .ok (f, v) w)
    (hf : (callFunc f #[v, y]).run P w = .ok (.enter f #[v, y]) w) (S : Value → World → Prop) (hC : Calls P f #[v, y] w fun e w' => ∃ z, e = .returned z ∧ S z w')
    (h : ∀ z w', S z w' → wpList P ops Q rest (a.put o.dst z) w') : wpList P ops Q (o :: rest) a w := by
  refine wpList_plain hgd fun K hK => ?_
  unfold Oper.wp execOp
  simp only [ho, resolve, invoke, callMethod, Sem.run_bind, Sem.run_pure, Result.andThen_ok, List.map_toArray, List.map_cons, List.map_nil, hr, hx]
  simp [hm, hf, Sem.run_bind, go_sem]
  refine hC.mono ?_
  rintro e w' ⟨z, rfl, hS⟩
  exact hK _ _ (h z w' hS)
/-- .. it panics. -/
theorem wpList_invoke1_bad {P : Program} {ops : Array Oper} {rest : List Oper} {o : Oper} {a : Act} {Q : Exit → Act → World → Prop} {w : World} (hgd : o.guard = none) (r : Operand) (m : String) (t : TypeId) (v : Value) (x : Operand) (tx : TypeId) (y : Value)
    (ho : o.op = .call { callee := .invoke r m, args := #[x], argTypes := #[tx] }) (hr : a.eval r = .iface t v) (hx : a.eval x = y) (f : FuncId) (hm : (method (P.types.size + 100) t v m).run P w = .ok (f, v) w)
    (hf : (callFunc f #[v, y]).run P w = .ok (.enter f #[v, y]) w) (S : List PanicEntry → World → Prop) (hC : Calls P f #[v, y] w fun e w' => ∃ c, e = .panicked c ∧ S c w')
    (h : ∀ c w', S c w' → Q (.panic c) a w') : wpList P ops Q (o :: rest) a w := by
  refine wpList_plain hgd fun K hK => ?_
  unfold Oper.wp execOp
  simp only [ho, resolve, invoke, callMethod, Sem.run_bind, Sem.run_pure, Result.andThen_ok, List.map_toArray, List.map_cons, List.map_nil, hr, hx]
  simp [hm, hf, Sem.run_bind, go_sem]
  refine hC.mono ?_
  rintro e w' ⟨c, rfl, hS⟩
  exact h c w' hS
def CallName (m : String) : Prop := (((Tryz.prog.info? 180).bind fun i => (i.methods[0]?).map (·.name)).getD "") = m
theorem call_m (b : Nat) (m : String) (hm : CallName m) (w : World) : (method (Tryz.prog.types.size + 100) 180 (ptr b) m).run Tryz.prog w = .ok (158, ptr b) w := by
  unfold CallName at hm
  subst hm
  kernel_rfl
theorem call_f (b : Nat) (y : Value) (w : World) : (callFunc 158 #[ptr b, y]).run Tryz.prog w = .ok (.enter 158 #[ptr b, y]) w := by kernel_rfl
theorem agg2 {a0 a1 b0 b1 : Value} (h : Value.agg #[a0, a1] = .agg #[b0, b1]) : a0 = b0 ∧ a1 = b1 := by
  simp only [Value.agg.injEq, Array.mk.injEq, List.cons.injEq, and_true] at h; exact h
/-- Three blocks: two values in boxes, and the result's. -/
def cW (w : World) (x0 x1 y0 y1 : Value) : World := ((w.alloc (.cells #[x0, x1] 106)).alloc (.cells #[y0, y1] 106)).alloc (.cells #[.int .i64 0, .nilIface] 106)
theorem cW_facts (w : World) (x0 x1 y0 y1 : Value) : ((cW w x0 x1 y0 y1).heap.size = w.heap.size + 3 ∧ Below w.heap.size w (cW w x0 x1 y0 y1)) ∧ (cW w x0 x1 y0 y1).cell? ⟨w.heap.size, 0, none⟩ = some x0 ∧ (cW w x0 x1 y0 y1).cell? ⟨w.heap.size, 1, none⟩ = some x1 ∧ (cW w x0 x1 y0 y1).cell? ⟨w.heap.size + 1, 0, none⟩ = some y0 ∧ (cW w x0 x1 y0 y1).cell? ⟨w.heap.size + 1, 1, none⟩ = some y1 ∧ ∃ z0 z1, (cW w x0 x1 y0 y1).heap[w.heap.size + 1 + 1]? = some (.cells #[z0, z1] 106 (0, 0)) := by
  refine ⟨⟨by simp [cW], (((Below.refl _ w).alloc (Nat.le_refl _) _).alloc (by simp) _).alloc (by simp; omega) _⟩, by simp [cW, go_sem], by simp [cW, go_sem], by simp [cW, go_sem], by simp [cW, go_sem], .int .i64 0, .nilIface, ?_⟩
  have := World.alloc_heap_new ((w.alloc (.cells #[x0, x1] 106)).alloc (.cells #[y0, y1] 106)) (.cells #[.int .i64 0, .nilIface] 106)
  simpa [cW] using this
set_option maxRecDepth 100000 in
set_option maxHeartbeats 4000000 in
theorem call_num (r : Nat) (cv : Rw) (s : St) (k : Nat) (pf y : Value) (vy : Vl) (w : World) (hR : RunAt X r cv w s) (hy : RepV r (Safe X r cv w) w vy y) :
    Calls Tryz.prog 59 #[ptr r, pf, .agg #[.int .i64 (k : Int), .nilIface], y] w (EvPost X r cv w s .fault) := by
  obtain ⟨a0, a1, rfl, ⟨m, rfl⟩, ⟨q, rfl⟩⟩ := hy.form
  go_enter Tryz.func59, Tryz.ntmps59
  go_wp2_with fail

  have hb := (cW_facts w (.int .i64 (k : Int)) (.nilIface) (.int .i64 m) (IF q)).1.2
  exact ⟨rfl, rfl, cv, s, hR.below hb, Kep.below hb, rfl⟩
set_option maxRecDepth 100000 in
set_option maxHeartbeats 4000000 in
theorem cloCall_c (n : Nat) (ih : EvC n) (g : Tm) (j : Nat) (e : En) (vy : Vl) (s : St) (p r : Nat) (cv : Rw) (y : Value) (w : World) (b : Nat) (hn : 1501 ≤ s.steps + n) (hB : StB s) (hcs : s.calls < s.steps) (hcl : w.cell? ⟨r, 9, none⟩ = some (.int .i64 (p : Int))) (hf : isFun g = true) (hok : TmOk (bodyOf g) (j + 1) (bodyEn g j e vy)) (hR : RunAt X r cv w s)
    (hx : RepV r (Safe X r cv w) w (.clo j g e) (.agg #[.int .i64 0, .iface 180 (ptr b)])) (hy : RepV r (Safe X r cv w) w vy y) :
    Calls Tryz.prog 158 #[ptr b, y] w (EvPost X r cv w s (callV (ev n) p (.clo j g e) vy s)) := by
  obtain ⟨a0, a1, rfl, ⟨m, rfl⟩, ⟨q, rfl⟩⟩ := hy.form
  have hX := hx
  have hr0 := hR.lt
  cases hx with
  | clo _ _ _ _ br bp be bx pl0 ee e0 hb c1 hbr cr hbp cp hp hbe ce hbx cx hee he =>
    have hbl := hb.1
    go_enter Tryz.func158, Tryz.ntmps158
    go_wp2_with fail
    have z := vW_facts w (.int .i64 m) (IF q)
    change Code.wp _ _ _ _ (vW w (.int .i64 m) (IF q))
    generalize vW w (.int .i64 m) (IF q) = W2 at z ⊢
    obtain ⟨⟨zs, zb⟩, z0, z1, zz0, zz1, z2⟩ := z
    have zd := zb.drew
    have K := Kep.below (r := r) (cv := cv) zd
    have H : ∀ g, Safe X r cv w g → W2.drew.heap[g]? = w.heap[g]? ∧ Safe (AndX X (w.heap.size + 1)) r cv W2.drew g := K.hide (Nat.le_succ _)
    have D := clobody_c (X := AndX X (w.heap.size + 1)) n ih g j e vy s p r cv (.agg #[.int .i64 m, IF q]) W2.drew b br bp be bx pl0 ee e0 hn hB hcs ((zd.cell (p := ⟨r, 9, none⟩) hr0).trans hcl) hf hok ((hR.below zd).hide (by show _ < W2.heap.size; omega)) (hX.keep H) (H br hbr).2 (cell_keep H hbr cr) (H bp hbp).2 (cell_keep H hbp cp) (hp.keep H) (H be hbe).2 (cell_keep H hbe ce) (H bx hbx).2 (cell_keep H hbx cx) (hee.keep H) (he.keep H) (hy.keep H)
    have d1 := (zb.cell (p := ⟨b, 0, none⟩) hbl).trans c1
    have sB := (K.safe hb).2
    have s0 : Safe X r cv W2.drew w.heap.size := hR.new (Nat.le_refl _) (by show _ < W2.heap.size; omega)
    have s1 : Safe X r cv W2.drew (w.heap.size + 1) := hR.new (Nat.le_succ _) (by show _ < W2.heap.size; omega)
    obtain ⟨o, ho⟩ : ∃ o, callV (ev n) p (.clo j g e) vy s = o := ⟨_, rfl⟩
    rw [ho] at D ⊢
    have D2 : Calls Tryz.prog 89 #[.agg #[.int .i64 m, IF q], ptr br, ptr bp, ptr be, ptr bx] W2.drew fun e' w' => EvPost (AndX X (w.heap.size + 1)) r cv W2.drew s o e' w' ∧ (∃ z0 z1, w'.heap[w.heap.size + 1]? = some (.cells #[z0, z1] 106 (0, 0))) ∧ w'.cell? ⟨w.heap.size, 0, none⟩ = some (.int .i64 m) ∧ w'.cell? ⟨w.heap.size, 1, none⟩ = some (IF q) ∧ w'.cell? ⟨b, 0, none⟩ = some (.func (.func 89) #[] #[ptr br, ptr bp, ptr be, ptr bx]) := D.mono (by
      intro e' w' h
      obtain ⟨cv7, hk⟩ := evPost_kep h
      exact ⟨h, ⟨zz0, zz1, (hk.safe s1).1.trans z2⟩, hk.cell s0 z0, hk.cell s0 z1, hk.cell sB d1⟩)
    have e1 : b ≠ w.heap.size + 1 := by omega
    have e2 : w.heap.size ≠ w.heap.size + 1 := by omega
    clear D c1 cr cp ce cx hee he hp hX hy hB hcl hn hcs
    rcases Ou.cases o with ⟨v, s3, hO⟩ | hbad
    · subst hO
      go_region_held3 (fun w' => w'.cell? ⟨w.heap.size, 0, none⟩ = some (.int .i64 m) ∧ w'.cell? ⟨w.heap.size, 1, none⟩ = some (IF q) ∧ w'.cell? ⟨b, 0, none⟩ = some (.func (.func 89) #[] #[ptr br, ptr bp, ptr be, ptr bx]))
        (first | (simp only [set_far _ _ _ _ _ _ e1, set_far _ _ _ _ _ _ e2]; refine ⟨?_, ?_, ?_⟩ <;> assumption) | (refine ⟨?_, ?_, ?_⟩ <;> assumption) | go_keep)
        (first | (refine D2.mono ?_; rintro e' w7 ⟨⟨x, cv7, rfl, hv, hR7, hK7⟩, ⟨q0, q1, hz⟩, k0, k1, k2⟩; obtain ⟨u0, u1, rfl, ⟨mu, rfl⟩, ⟨qu, rfl⟩⟩ := hv.form; obtain ⟨t0, t1, t2, t3⟩ := two_of hz))
      go_wp2_with fail
      refine bodyPost_ret (v := .agg #[.int .i64 mu, IF qu]) (by simp [results, Tryz.results158, go_sem, t0, t1]) rfl ?_
      rw [ho]
      refine ev_out (b := w.heap.size + 1) hR (Nat.le_succ _) hv hR7 (K.trans hK7) (by have := hK7.size; have : W2.drew.heap.size = W2.heap.size := rfl; omega) (fun e => ?_)
      rcases hK7.own _ e with h | h
      · have := (hR.owns _ h).2; omega
      · have : W2.drew.heap.size = W2.heap.size := rfl; omega
    · go_region_held (fun w' => w'.cell? ⟨w.heap.size, 0, none⟩ = some (.int .i64 m) ∧ w'.cell? ⟨w.heap.size, 1, none⟩ = some (IF q) ∧ w'.cell? ⟨b, 0, none⟩ = some (.func (.func 89) #[] #[ptr br, ptr bp, ptr be, ptr bx]))
        (first | (simp only [set_far _ _ _ _ _ _ e1, set_far _ _ _ _ _ _ e2]; refine ⟨?_, ?_, ?_⟩ <;> assumption) | (refine ⟨?_, ?_, ?_⟩ <;> assumption) | go_keep)
        (first | (refine D2.mono ?_; rintro e' w7 ⟨h, ⟨q0, q1, hz⟩, k0, k1, k2⟩; rcases e' with v | c | _; rotate_left; (obtain ⟨hc, cv', s', h2, h3, h4⟩ := (evPost_bad hbad _ _ _ _ _ _).1 h; injection hc with hc; subst hc; exact ⟨rfl, (evPost_bad hbad _ _ _ _ _ _).2 ⟨rfl, cv', s', h2.bare, K.trans h3, h4⟩⟩); (exact absurd ((evPost_bad hbad _ _ _ _ _ _).1 h).1 (by simp)); have hF : RowKit.Hid False := Lib.hid (absurd ((evPost_bad hbad _ _ _ _ _ _).1 h).1 (by simp)); obtain ⟨u0, u1, rfl⟩ : ∃ u0 u1, v = .agg #[.int .i64 u0, .pointer u1] := hF.out.elim; obtain ⟨t0, t1, t2, t3⟩ := two_of hz))
      exact hF.out.elim
theorem RunAt.setCaller {r : Nat} {cv : Rw} {W : World} {s : St} (h : RunAt X r cv W s) (z : Int) : RunAt X r cv (W.setCell ⟨r, 9, none⟩ (.int .i64 z)) s ∧ (W.setCell ⟨r, 9, none⟩ (.int .i64 z)).cell? ⟨r, 9, none⟩ = some (.int .i64 z) := by
  obtain ⟨_, _, _, _, _, _, _, _, _, ⟨z0, h9⟩, _⟩ := h.at
  exact ⟨h.set 9 _ (fun _ => ⟨z, rfl⟩) ⟨rfl, rfl, rfl⟩, World.cell?_setCell_same _ _ _ h9⟩
set_option maxRecDepth 100000 in
set_option maxHeartbeats 8000000 in
theorem call_clo (n : Nat) (ih : EvC n) (r : Nat) (cv : Rw) (s : St) (i j : Nat) (g : Tm) (e : En) (vy : Vl) (bf : Nat) (x y : Value) (w : World) (hn : 1501 ≤ s.steps + n) (hB : StB s) (hcs : s.calls < s.steps) (hox : VlOk (.clo j g e)) (hoy : VlOk vy) (hR : RunAt X r cv w s)
    (hsf : Safe X r cv w bf) (hfi : w.cell? ⟨bf, 1, none⟩ = some (.int .i64 (i : Int))) (hx : RepV r (Safe X r cv w) w (.clo j g e) x) (hy : RepV r (Safe X r cv w) w vy y) :
    Calls Tryz.prog 59 #[ptr r, ptr bf, x, y] w (EvPost X r cv w s (callV (ev n) i (.clo j g e) vy s)) := by
  obtain ⟨a0, a1, rfl, ⟨m, rfl⟩, ⟨q, rfl⟩⟩ := hy.form
  have hr0 := hR.lt
  have hf : isFun g = true := by cases hox; assumption
  obtain ⟨b, rfl⟩ : ∃ b, x = .agg #[.int .i64 0, .iface 180 (ptr b)] := by cases hx; exact ⟨_, rfl⟩
  have hfl := hsf.1
  go_enter Tryz.func59, Tryz.ntmps59
  obtain ⟨⟨zs, zb⟩, z0, z1, z2, z3, z4, z5, zz⟩ := cW_facts w (.int .i64 0) (.iface 180 (ptr b)) (.int .i64 m) (IF q)
  generalize hW : cW w (.int .i64 0) (.iface 180 (ptr b)) (.int .i64 m) (IF q) = W3 at zs zb z0 z1 z2 z3 zz
  unfold cW at hW
  have hR3 := hR.below zb
  obtain ⟨_, _, _, _, _, _, _, _, _, ⟨zc, r9⟩, rf⟩ := hR3.at
  have d1 := (zb.cell (p := ⟨bf, 1, none⟩) hfl).trans hfi
  obtain ⟨hR4, r94⟩ := hR3.setCaller (i : Int)
  have K := kep_set (Kep.below (r := r) (cv := cv) zb) 9 (.int .i64 (i : Int))
  have zs4 : (W3.setCell ⟨r, 9, none⟩ (.int .i64 (i : Int))).heap.size = w.heap.size + 3 := by simp [zs]
  have f0 := set_far W3 r 9 (.int .i64 (i : Int)) w.heap.size 1 (by omega)
  have f1 := set_far W3 r 9 (.int .i64 (i : Int)) (w.heap.size + 1) 0 (by omega)
  have f2 := set_far W3 r 9 (.int .i64 (i : Int)) (w.heap.size + 1) 1 (by omega)
  have y1 := f0.trans z1
  have y2 := f1.trans z2
  have y3 := f2.trans z3
  have y5 := (Below.heap_setCell W3 ⟨r, 9, none⟩ (.int .i64 (i : Int)) (w.heap.size + 1 + 1) (by show _ ≠ r; omega)).trans zz
  clear f0 f1 f2
  have H := K.hide (X := X) (b := w.heap.size + 1 + 1) (by omega)
  have D := cloCall_c (X := AndX X (w.heap.size + 1 + 1)) n ih g j e vy s i r cv (.agg #[.int .i64 m, IF q]) (W3.setCell ⟨r, 9, none⟩ (.int .i64 (i : Int))) b hn hB hcs r94 hf (clo_body hox hoy) (hR4.hide (by omega)) (hx.keep H) (hy.keep H)
  have s2 : Safe X r cv (W3.setCell ⟨r, 9, none⟩ (.int .i64 (i : Int))) (w.heap.size + 1 + 1) := hR.new (by omega) (by omega)
  obtain ⟨o, ho⟩ : ∃ o, callV (ev n) i (.clo j g e) vy s = o := ⟨_, rfl⟩
  rw [ho] at D ⊢
  have HP := Lib.hid (And.intro hR4 (And.intro K (And.intro y5 (And.intro zs4 s2))))
  clear hR4 K r94 y5 zs4 s2 H hx hy hox hoy hB hn hcs hfi
  rcases Ou.cases o with ⟨v, s3, hO⟩ | hbad
  · subst hO
    have D2 : Calls Tryz.prog 158 #[ptr b, .agg #[.int .i64 m, IF q]] (W3.setCell ⟨r, 9, none⟩ (.int .i64 (i : Int))) fun e' w' => ∃ z, e' = .returned z ∧ ∃ mu qu cv7, z = .agg #[.int .i64 mu, IF qu] ∧ RepV r (Safe (AndX X (w.heap.size + 1 + 1)) r cv7 w') w' v (.agg #[.int .i64 mu, IF qu]) ∧ RunAt (AndX X (w.heap.size + 1 + 1)) r cv7 w' s3 ∧ Kep r cv (W3.setCell ⟨r, 9, none⟩ (.int .i64 (i : Int))) cv7 w' ∧ ∃ z0 z1, w'.heap[w.heap.size + 1 + 1]? = some (.cells #[z0, z1] 106 (0, 0)) := D.mono (by
      rintro e' w' ⟨x, cv7, rfl, hv, hR7, hK7⟩
      obtain ⟨u0, u1, rfl, ⟨mu, rfl⟩, ⟨qu, rfl⟩⟩ := hv.form
      obtain ⟨_, K, y5, _, s2⟩ := HP.out
      exact ⟨_, rfl, mu, qu, cv7, rfl, hv, hR7, hK7, z4, z5, (hK7.safe s2).1.trans y5⟩)
    clear D
    go_wp2_with (refine wpList_invoke1 rfl _ _ 180 (ptr b) _ _ (.agg #[.int .i64 m, IF q]) rfl rfl rfl 158 (call_m b _ (by unfold CallName; kernel_rfl) _) (call_f b _ _) _ D2 ?_; rintro z w7 ⟨mu, qu, cv7, rfl, hv, hR7, hK7, q0, q1, hz⟩; obtain ⟨t0, t1, t2, t3⟩ := two_of hz)
    obtain ⟨hR4, K, y5, zs4, s2⟩ := HP.out
    refine bodyPost_ret (v := .agg #[.int .i64 mu, IF qu]) (by simp [results, Tryz.results59, go_sem, t0, t1]) rfl ?_
    refine ev_out (b := w.heap.size + 1 + 1) hR (by omega) hv hR7 (K.trans hK7) (by have := hK7.size; omega) (fun e => ?_)
    rcases (K.trans hK7).own _ e with h | h
    · have := (hR.owns _ h).2; omega
    · rcases hK7.own _ e with h | h
      · have := (hR.owns _ h).2; omega
      · omega
  · have D2 : Calls Tryz.prog 158 #[ptr b, .agg #[.int .i64 m, IF q]] (W3.setCell ⟨r, 9, none⟩ (.int .i64 (i : Int))) fun e' w' => ∃ c, e' = .panicked c ∧ EvPost X r cv w s o (.panicked c) w' := D.mono (by
      intro e' w' h
      obtain ⟨_, K, y5, _, s2⟩ := HP.out
      obtain ⟨hc, cv', s', h2, h3, h4⟩ := (evPost_bad hbad _ _ _ _ _ _).1 h
      exact ⟨_, hc, (evPost_bad hbad _ _ _ _ _ _).2 ⟨rfl, cv', s', h2.bare, K.trans h3, h4⟩⟩)
    clear D
    go_wp2_with (refine wpList_invoke1_bad rfl _ _ 180 (ptr b) _ _ (.agg #[.int .i64 m, IF q]) rfl rfl rfl 158 (call_m b _ (by unfold CallName; kernel_rfl) _) (call_f b _ _) _ D2 ?_; intro c w7 h; first | exact ⟨rfl, h⟩ | exact ⟨rfl, by rw [ho]; exact h⟩)
end Go.Proofs.YtjfhncfbejephaaGreatDoor

/- The program's runner: what chooses. -/
namespace Go.Proofs.YtjfhncfbejephaaGreatDoor
open Go.RowKit Go.Shelf
open Ff
set_option linter.unusedVariables false
variable {X : Nat → Prop}
attribute [local irreducible] Calls
attribute [local go_sem] storeIF

theorem before_len0 (t : Tm) : (before t 0).length = 1 := by simp [before]
/-- The places of two kids. -/
theorem kids2 {S : Nat → Prop} {w : World} {t f a : Tm} {i : Nat} {v : Value} (h : PlaceR S w t i v) (hk : t.kids = [f, a]) : ∃ b g cap p0 p1, v = ptr b ∧ S b ∧ S g ∧ w.cell? ⟨b, 0, none⟩ = some (enc t) ∧ w.cell? ⟨b, 3, none⟩ = some (.slice (some ⟨g, 0, none⟩) 2 cap) ∧ w.cell? ⟨g, 0, none⟩ = some (ptr p0) ∧ w.cell? ⟨g, 1, none⟩ = some (ptr p1) ∧ PlaceR S w f (i + 1) (ptr p0) ∧ PlaceR S w a (i + 1 + (parts f).length) (ptr p1) := by
  cases h with
  | mk _ _ b g cap kv pk hb c0 c1 c3 c4 hkv hc hk2 =>
    obtain ⟨rfl, hg⟩ := hkv (by rw [hk]; simp)
    have q0 := hk2 0 f (by rw [hk]; rfl)
    have q1 := hk2 1 a (by rw [hk]; rfl)
    have r0 := hc 0 f (by rw [hk]; rfl)
    have r1 := hc 1 a (by rw [hk]; rfl)
    obtain ⟨p0, e0⟩ := q0.form
    obtain ⟨p1, e1⟩ := q1.form
    rw [before_len0] at q0
    rw [before_succ t 0 f (by rw [hk]; rfl), List.length_append, before_len0] at q1
    rw [e0] at q0 r0
    rw [e1] at q1 r1
    refine ⟨b, g, cap, p0, p1, rfl, hb, hg, c0, by rw [c3, hk]; rfl, r0, r1, q0, ?_⟩
    rw [show i + 1 + (parts f).length = i + (1 + (parts f).length) by omega]
    exact q1
theorem kids3 {S : Nat → Prop} {w : World} {t x y z : Tm} {i : Nat} {v : Value} (h : PlaceR S w t i v) (hk : t.kids = [x, y, z]) : ∃ b g cap p0 p1 p2, v = ptr b ∧ S b ∧ S g ∧ w.cell? ⟨b, 0, none⟩ = some (enc t) ∧ w.cell? ⟨b, 3, none⟩ = some (.slice (some ⟨g, 0, none⟩) 3 cap) ∧ w.cell? ⟨g, 0, none⟩ = some (ptr p0) ∧ w.cell? ⟨g, 1, none⟩ = some (ptr p1) ∧ w.cell? ⟨g, 2, none⟩ = some (ptr p2) ∧ PlaceR S w x (i + 1) (ptr p0) ∧ PlaceR S w y (i + 1 + (parts x).length) (ptr p1) ∧ PlaceR S w z (i + 1 + (parts x).length + (parts y).length) (ptr p2) := by
  cases h with
  | mk _ _ b g cap kv pk hb c0 c1 c3 c4 hkv hc hk2 =>
    obtain ⟨rfl, hg⟩ := hkv (by rw [hk]; simp)
    have q0 := hk2 0 x (by rw [hk]; rfl)
    have q1 := hk2 1 y (by rw [hk]; rfl)
    have q2 := hk2 2 z (by rw [hk]; rfl)
    have r0 := hc 0 x (by rw [hk]; rfl)
    have r1 := hc 1 y (by rw [hk]; rfl)
    have r2 := hc 2 z (by rw [hk]; rfl)
    obtain ⟨p0, e0⟩ := q0.form
    obtain ⟨p1, e1⟩ := q1.form
    obtain ⟨p2, e2⟩ := q2.form
    rw [before_len0] at q0
    rw [before_succ t 0 x (by rw [hk]; rfl), List.length_append, before_len0] at q1
    rw [before_succ t 1 y (by rw [hk]; rfl), List.length_append, before_succ t 0 x (by rw [hk]; rfl), List.length_append, before_len0] at q2
    rw [e0] at q0 r0
    rw [e1] at q1 r1
    rw [e2] at q2 r2
    refine ⟨b, g, cap, p0, p1, p2, rfl, hb, hg, c0, by rw [c3, hk]; rfl, r0, r1, r2, q0, ?_, ?_⟩
    · rw [show i + 1 + (parts x).length = i + (1 + (parts x).length) by omega]
      exact q1
    · rw [show i + 1 + (parts x).length + (parts y).length = i + (1 + (parts x).length + (parts y).length) by omega]
      exact q2
theorem StB.of_le {s s' : St} (h : StB s) (g : Goes s s') : StB s' := h.goes g
/-- What a sub-evaluation leaves, within a frame that has a block of its own. -/
theorem sub_bad {r b : Nat} {cv cv1 : Rw} {w w2 w3 : World} {s s1 : St} {o : Ou} {fn : Func} {e : Ending} {a : Act} (ho : o.bad) (h : EvPost (AndX X b) r cv1 w2 s1 o e w3) (K : Kep r cv w cv1 w2) (hd : s1.depth = s.depth) (ha : a.defers = []) {Q : Exit → Act → World → Prop} {R : Ending → World → Prop}
    (hQ : ∀ c, Q (.panic c) a w3 = (a.defers = [] ∧ R (.panicked c) w3)) (hR : R = EvPost X r cv w s o) : ∃ c, e = .panicked c ∧ Q (.panic c) a w3 := by
  have h2 := (evPost_bad ho _ _ _ _ _ _).1 h
  refine ⟨_, h2.1, ?_⟩
  rw [hQ, hR]
  refine ⟨ha, (evPost_bad ho _ _ _ _ _ _).2 ?_⟩
  rw [← h2.1]
  exact pan_out K hd h2
set_option maxRecDepth 100000 in
set_option maxHeartbeats 4000000 in
theorem choose_c (n : Nat) (ih : EvC n) (x y z : Tm) (i : Nat) (e : En) (s : St) (r : Nat) (cv : Rw) (pv ep : Value) (w : World) (hn : 1501 ≤ s.steps + n) (hB : StB s) (hok : TmOk (.sel x y z) i e) (hR : RunAt X r cv w s) (hP : PlaceR (Safe X r cv w) w (.sel x y z) i pv) (hE : RepE r (Safe X r cv w) w e ep) :
    Calls Tryz.prog 63 #[ptr r, pv, ep] w (EvPost X r cv w s (evB (ev n) (.sel x y z) i e s)) := by
  obtain ⟨b, g, cap, p0, p1, p2, rfl, hb, hg, c0, c3, d0, d1, d2, hp0, hp1, hp2⟩ := kids3 hP rfl
  obtain ⟨hx, hy, hz⟩ := hok.sel
  have hr0 := hR.lt
  have hbl := hb.1
  have hgl := hg.1
  have hW := ev_ok n _ _ _ s hx
  have zb := (Below.refl w.heap.size w).alloc (Nat.le_refl _) (.cells #[.int .i64 0, .nilIface] 106)
  have zz := res_block w
  have zs : (w.alloc (.cells #[.int .i64 0, .nilIface] 106)).heap.size = w.heap.size + 1 := by simp
  go_enter Tryz.func63, Tryz.ntmps63
  have a3 := (zb.cell (p := ⟨b, 3, none⟩) hbl).trans c3
  have b0 := (zb.cell (p := ⟨g, 0, none⟩) hgl).trans d0
  have b1 := (zb.cell (p := ⟨g, 1, none⟩) hgl).trans d1
  have b2 := (zb.cell (p := ⟨g, 2, none⟩) hgl).trans d2
  generalize hW1 : w.alloc (.cells #[.int .i64 0, .nilIface] 106) = W1 at zb zz zs a3 b0 b1 b2
  obtain ⟨z0, z1, zz⟩ := zz
  have K1 := Kep.below (r := r) (cv := cv) zb
  have H1 := K1.hide (X := X) (b := w.heap.size) (Nat.le_refl _)
  have C := ih (AndX X w.heap.size) x (i + 1) e s r cv (ptr p0) ep W1 hn hB hx ((hR.below zb).hide (by omega)) (hp0.keep H1) (hE.keep H1)
  have HO : ∃ o, ev n x (i + 1) e s = o := ⟨_, rfl⟩
  obtain ⟨o, ho⟩ := HO
  have hevB : evB (ev n) (.sel x y z) i e s = o.next fun u s => match u with
    | .num k => if k = 0 then ev n y (i + 1 + (parts x).length) e s else ev n z (i + 1 + (parts x).length + (parts y).length) e s
    | .clo _ _ _ => .fault := by rw [← ho]; rfl
  rw [ho] at C hW
  have HE := Lib.hid hevB
  clear hevB ho
  have hfin : ∀ (o3 : Ou) (s2 : St) (cv2 : Rw) (w3 w4 : World) (e' : Ending), Kep r cv W1 cv2 w3 → EvPost (AndX X w.heap.size) r cv2 w3 s2 o3 e' w4 → Kep r cv w cv2 w3 ∧ ∃ y0 y1, w4.heap[w.heap.size]? = some (.cells #[y0, y1] 106 (0, 0)) := fun o3 s2 cv2 w3 w4 e' hK h => by
    obtain ⟨cv', hk⟩ := evPost_kep h
    have q0 : Safe X r cv W1 w.heap.size := hR.new (Nat.le_refl _) (by omega)
    exact ⟨K1.trans hK, z0, z1, ((hK.trans hk).safe q0).1.trans zz⟩
  have hown : ∀ (cv2 : Rw) (w4 : World), Kep r cv W1 cv2 w4 → ¬ cv2.own w.heap.size := fun cv2 w4 hK e => by
    rcases hK.own _ e with h | h
    · have := (hR.owns _ h).2; omega
    · omega
  go_wp2_with fail
  rcases Ou.cases o with ⟨v, s1, rfl⟩ | hbad
  · obtain ⟨hokv, hG⟩ := hW
    have hB1 := hB.goes hG
    refine C.mono ?_
    rintro e' w2 ⟨xv, cv1, rfl, hv, hR2, hK2⟩
    clear C
    have hs2 := hK2.size
    have sb : Safe X r cv W1 b := (K1.safe hb).2
    have sg : Safe X r cv W1 g := (K1.safe hg).2
    have H2 := (K1.trans hK2).hide (X := X) (b := w.heap.size) (Nat.le_refl _)
    have aa3 := hK2.cell sb a3
    have bb1 := hK2.cell sg b1
    have bb2 := hK2.cell sg b2
    have M := mustNumber_c r _ v xv w2 hv
    cases v with
    | clo j f e1 =>
      go_wp2_with fail
      refine M.mono ?_
      rintro e' w3 ⟨he, hb3⟩
      rw [show e' = .panicked faultC from he]
      refine ⟨rfl, ?_⟩
      rw [HE.out]
      exact ⟨rfl, cv1, s1, hR2.bare.below hb3, (K1.trans hK2).trans (Kep.below hb3), hG.depth⟩
    | num k =>
      go_wp2_with fail
      refine M.mono ?_
      rintro e' w3 ⟨he, hb3⟩
      rw [show e' = .returned (.int .i64 (k : Int)) from he]
      clear he M
      have hK3 := hK2.trans (Kep.below (r := r) (cv := cv1) hb3)
      have hs3 := hb3.size
      have H3 := (K1.trans hK3).hide (X := X) (b := w.heap.size) (Nat.le_refl _)
      have ab3 := hK3.cell sb a3
      have ab1 := hK3.cell sg b1
      have ab2 := hK3.cell sg b2
      clear aa3 bb1 bb2
      have fin : ∀ (t : Tm) (j : Nat) (pt : Nat), TmOk t j e → PlaceR (Safe X r cv w) w t j (ptr pt) → Calls Tryz.prog 42 #[ptr r, ptr pt, ep] w3 (EvPost (AndX X w.heap.size) r cv1 w3 s1 (ev n t j e s1)) := fun t j pt h1 h2 =>
        ih _ _ _ _ _ _ _ _ _ _ (by have := hG.steps; omega) hB1 h1 (hR2.below hb3) (h2.keep H3) (hE.keep H3)
      by_cases hk : k = 0
      · have hk2 : ((k : Int) == 0) = true := by simp [hk]
        have C := fin y _ p1 hy hp1
        have HE2 : evB (ev n) (.sel x y z) i e s = ev n y (i + 1 + (parts x).length) e s1 := HE.out.trans (if_pos hk)
        have HE := Lib.hid HE2
        clear HE2
        generalize ev n y (i + 1 + (parts x).length) e s1 = o2 at C HE
        clear fin hk
        go_wp2_with fail
        refine C.mono ?_
        intro e' w4 h
        obtain ⟨kk, y0, y1, hzz⟩ := hfin _ _ _ _ _ _ hK3 h
        obtain ⟨t0, t1, t2, t3⟩ := two_of hzz
        rcases Ou.cases o2 with ⟨v2, s3, rfl⟩ | hbad2
        · obtain ⟨x4, cv4, rfl, hv4, hR4, hK4⟩ := h
          obtain ⟨u0, u1, rfl, ⟨mu, rfl⟩, ⟨qu, rfl⟩⟩ := hv4.form
          have hs4 := hK4.size
          go_wp2_with fail
          refine bodyPost_ret (v := .agg #[.int .i64 mu, IF qu]) (by simp [results, Tryz.results63, go_sem, t0, t1]) rfl ?_
          rw [HE.out]
          exact ev_out hR (Nat.le_refl _) hv4 hR4 (kk.trans hK4) (by omega) (hown _ _ (hK3.trans hK4))
        · obtain ⟨hc, hp⟩ := (evPost_bad hbad2 _ _ _ _ _ _).1 h
          rw [hc]
          refine ⟨rfl, ?_⟩
          rw [HE.out]
          exact (evPost_bad hbad2 _ _ _ _ _ _).2 (pan_out kk hG.depth ⟨rfl, hp⟩)
      · have hk2 : ((k : Int) == 0) = false := by simp [hk]
        have C := fin z _ p2 hz hp2
        have HE2 : evB (ev n) (.sel x y z) i e s = ev n z (i + 1 + (parts x).length + (parts y).length) e s1 := HE.out.trans (if_neg hk)
        have HE := Lib.hid HE2
        clear HE2
        generalize ev n z (i + 1 + (parts x).length + (parts y).length) e s1 = o2 at C HE
        clear fin hk
        go_wp2_with fail
        refine C.mono ?_
        intro e' w4 h
        obtain ⟨kk, y0, y1, hzz⟩ := hfin _ _ _ _ _ _ hK3 h
        obtain ⟨t0, t1, t2, t3⟩ := two_of hzz
        rcases Ou.cases o2 with ⟨v2, s3, rfl⟩ | hbad2
        · obtain ⟨x4, cv4, rfl, hv4, hR4, hK4⟩ := h
          obtain ⟨u0, u1, rfl, ⟨mu, rfl⟩, ⟨qu, rfl⟩⟩ := hv4.form
          have hs4 := hK4.size
          go_wp2_with fail
          refine bodyPost_ret (v := .agg #[.int .i64 mu, IF qu]) (by simp [results, Tryz.results63, go_sem, t0, t1]) rfl ?_
          rw [HE.out]
          exact ev_out hR (Nat.le_refl _) hv4 hR4 (kk.trans hK4) (by omega) (hown _ _ (hK3.trans hK4))
        · obtain ⟨hc, hp⟩ := (evPost_bad hbad2 _ _ _ _ _ _).1 h
          rw [hc]
          refine ⟨rfl, ?_⟩
          rw [HE.out]
          exact (evPost_bad hbad2 _ _ _ _ _ _).2 (pan_out kk hG.depth ⟨rfl, hp⟩)
  · refine C.mono ?_
    intro e' w2 h
    obtain ⟨hc, hp⟩ := (evPost_bad hbad _ _ _ _ _ _).1 h
    rw [hc]
    refine ⟨rfl, ?_⟩
    rw [HE.out, Ou.next_bad hbad]
    exact (evPost_bad hbad _ _ _ _ _ _).2 (pan_out K1 rfl ⟨rfl, hp⟩)
end Go.Proofs.YtjfhncfbejephaaGreatDoor
