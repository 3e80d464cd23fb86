import Derived.Test.YthjhpfcilaghgaaGreatDoorEvH
import Derived.Test.YthjhpfcilaghgaaGreatDoorHt
/- The program's closures: called, they note it. -/
namespace Go.Proofs.YthjhpfcilaghgaaGreatDoor
open Go.RowKit Go.Shelf
open Ff
set_option linter.unusedVariables false
variable {X : Nat → Prop}
attribute [local irreducible] Calls
attribute [local go_sem] storeIF
theorem alloc_far {W : World} {o : Obj} {g k : Nat} {v : Value} (hg : g < W.heap.size) (h : W.cell? ⟨g, k, none⟩ = some v) : (W.alloc o).cell? ⟨g, k, none⟩ = some v := (World.cell?_alloc_lt W o ⟨g, k, none⟩ hg).trans h
set_option maxRecDepth 100000 in
set_option maxHeartbeats 8000000 in
theorem clobody_c (n : Nat) (ih : EvC n) (g : Tm) (j : Nat) (e : En) (y : Vl) (s : St) (p : Nat) (r : Nat) (cv : Rw) (x : Value) (w : World) (b br bp be bx : Nat) (pl0 ee e0 : Value) (hn : 1501 ≤ s.steps + n) (hB : StB s) (hcs : s.calls < s.steps) (hcl : w.cell? ⟨r, 9, none⟩ = some (.int .i64 (p : Int))) (hf : isFun g = true) (hok : TmOk (bodyOf g) (j + 1) (bodyEn g j e y)) (hR : RunAt X r cv w s)
    (hv : RepV r (Safe X r cv w) w (.clo j g e) (.agg #[.int .i64 0, .iface 179 (ptr b)]))
    (hbr : Safe X r cv w br) (cr : w.cell? ⟨br, 0, none⟩ = some (ptr r)) (hbp : Safe X r cv w bp) (cp : w.cell? ⟨bp, 0, none⟩ = some pl0) (hp : PlaceR (Safe X r cv w) w g j pl0)
    (hbe : Safe X r cv w be) (ce : w.cell? ⟨be, 0, none⟩ = some ee) (hbx : Safe X r cv w bx) (cx : w.cell? ⟨bx, 1, none⟩ = some (.int .u8 ((paramOf g).toNat : Int)))
    (hee : CloEnv (Safe X r cv w) w g b ee e0) (he : RepE r (Safe X r cv w) w e e0) (hy : RepV r (Safe X r cv w) w y x) :
    Calls Tryz.prog 95 #[x, ptr br, ptr bp, ptr be, ptr bx] w (EvPost X r cv w s (callV (ev n) p (.clo j g e) y s)) := by
  obtain ⟨a0, a1, rfl, ⟨m, rfl⟩, ⟨q, rfl⟩⟩ := hy.form
  obtain ⟨bl, gk, cap, pk, rfl, hbl, hgk, p3, p4, hpk⟩ := kid_place hp (fun_kid hf).1
  rw [(fun_kid hf).2.1] at p3
  rw [(fun_kid hf).2.2] at hpk
  obtain ⟨pb, rfl⟩ := hpk.form
  obtain ⟨⟨qe, rfl⟩, htop⟩ := cloEnv_form hee he
  have pi := place_idx hp
  have hb0 := hbr.1
  have hb1 := hbp.1
  have hb2 := hbe.1
  have hb3 := hbx.1
  have hb4 := hbl.1
  have hb5 := hgk.1
  have hr0 := hR.lt
  obtain ⟨s1, s2, s3, s4, s5, s6, s7, s8, s9⟩ := hB
  go_enter Tryz.func95, Tryz.ntmps95
  go_wp2_with fail
  have z := vW_facts w (.int .i64 m) (IF q)
  change Code.wp _ _ _ _ (vW w (.int .i64 m) (IF q))
  generalize vW w (.int .i64 m) (IF q) = W1 at z ⊢
  obtain ⟨⟨zs, zb⟩, z0, z1, zz0, zz1, z2⟩ := z
  have hR1 := hR.below zb
  have c0 := (zb.cell (p := ⟨br, 0, none⟩) hb0).trans cr
  have c1 := (zb.cell (p := ⟨bp, 0, none⟩) hb1).trans cp
  have c9 := (zb.cell (p := ⟨r, 9, none⟩) hr0).trans hcl
  have ci := (zb.cell (p := ⟨bl, 1, none⟩) hb4).trans pi
  obtain ⟨_, _, _, _, _, _, _, c7, _, _, rf⟩ := hR1.at
  have lr : r < W1.heap.size := hR1.lt
  have lbr : br < W1.heap.size := by omega
  have lbp : bp < W1.heap.size := by omega
  have lbl : bl < W1.heap.size := by omega
  have lrr : r + 1 ≤ ((W1.alloc (.cells #[.int .i64 (p : Int), .int .i64 (j : Int)] 85)).drew).heap.size := by simp; omega
  have hlen : s.called.length ≤ 10000 := by omega
  have nB : some br ≠ cv.c.ownBlock := fun e => hbr.2.2.1 (.inl e.symm)
  have nP : some bp ≠ cv.c.ownBlock := fun e => hbp.2.2.1 (.inl e.symm)
  have nL : some bl ≠ cv.c.ownBlock := fun e => hbl.2.2.1 (.inl e.symm)
  have nR : some r ≠ cv.c.ownBlock := fun e => row_not2 hR1.row e.symm
  have n0 : Safe X r cv W1 w.heap.size := hR.new (Nat.le_refl _) (by omega)
  have n1 : Safe X r cv W1 (w.heap.size + 1) := hR.new (Nat.le_succ _) (by omega)
  have PK := Lib.hid (And.intro hn (And.intro hcs (And.intro hf (And.intro hok (And.intro hv (And.intro hbr (And.intro cr (And.intro hbp (And.intro cp (And.intro hp (And.intro hbe (And.intro ce (And.intro hbx (And.intro cx (And.intro hee (And.intro he (And.intro hy (And.intro hbl (And.intro hgk (And.intro p3 (And.intro p4 (And.intro hpk (And.intro htop (And.intro pi (And.intro hb0 (And.intro hb1 (And.intro hb2 (And.intro hb3 (And.intro hb4 (And.intro hb5 (And.intro hr0 (And.intro s1 (And.intro s2 (And.intro s3 (And.intro s4 (And.intro s5 (And.intro s6 (And.intro s7 (And.intro s8 (And.intro s9 (And.intro zs (And.intro zb (And.intro z0 (And.intro z1 (And.intro z2 (And.intro n0 (And.intro n1 hcl)))))))))))))))))))))))))))))))))))))))))))))))
  clear hcl n1 n0 z2 z1 z0 zb zs s9 s8 s7 s6 s5 s4 s3 s2 s1 hr0 hb5 hb4 hb3 hb2 hb1 hb0 pi htop hpk p4 p3 hgk hbl hy he hee cx hbx ce hbe hp cp hbp cr hbr hv hok hf hcs hn
  refine wp_region_T 18 (fun w' => w'.cell? ⟨br, 0, none⟩ = some (ptr r) ∧ w'.cell? ⟨bp, 0, none⟩ = some (ptr bl) ∧ w'.cell? ⟨bl, 1, none⟩ = some (.int .i64 (j : Int)) ∧ w'.cell? ⟨r, 7, none⟩ = some cv.c ∧ w'.cell? ⟨r, 9, none⟩ = some (.int .i64 (p : Int))) (by kernel_rfl) ⟨c0, c1, ci, c7, c9⟩ (fun hHeld => ?_)
  refine AnyT.take [16, 17, 18] (i := 0) (v := ?_) rfl (by kernel_rfl) (by kernel_rfl) (by kernel_rfl) (by kernel_rfl) (fun _ _ _ h => h) (Or.inl ⟨by rfl, ?_⟩) (by assumption) ?_
  rotate_left 1
  · intro w' hSw
    (try dsimp only at hSw)
    go_simp
    try with_reducible rfl
  (try simp only [Act.put]); (try simp only [List.setIfInBounds_toArray]); (try simp only [List.set_cons_zero]); (try simp only [List.set_cons_succ])
  refine AnyT.take [2, 3, 4, 15, 18] (i := 1) (v := ?_) rfl (by kernel_rfl) (by kernel_rfl) (by kernel_rfl) (by kernel_rfl) (fun _ _ _ h => h) (Or.inl ⟨by rfl, ?_⟩) (by assumption) ?_
  rotate_left 1
  · intro w' hSw
    (try dsimp only at hSw)
    go_simp
    try with_reducible rfl
  (try simp only [Act.put]); (try simp only [List.setIfInBounds_toArray]); (try simp only [List.set_cons_zero]); (try simp only [List.set_cons_succ])
  refine AnyT.take [3, 4, 15, 18] (i := 2) (v := ?_) rfl (by kernel_rfl) (by kernel_rfl) (by kernel_rfl) (by kernel_rfl) (fun _ _ _ h => h) (Or.inl ⟨by rfl, ?_⟩) (by assumption) ?_
  rotate_left 1
  · intro w' hSw
    (try dsimp only at hSw)
    go_simp
    try with_reducible rfl
  (try simp only [Act.put]); (try simp only [List.setIfInBounds_toArray]); (try simp only [List.set_cons_zero]); (try simp only [List.set_cons_succ])
  refine AnyT.take [4, 15, 18] (i := 3) (v := ?_) rfl (by kernel_rfl) (by kernel_rfl) (by kernel_rfl) (by kernel_rfl) (fun _ _ _ h => h) (Or.inl ⟨by rfl, ?_⟩) (by assumption) ?_
  rotate_left 1
  · intro w' hSw
    (try dsimp only at hSw)
    go_simp
    try with_reducible rfl
  (try simp only [Act.put]); (try simp only [List.setIfInBounds_toArray]); (try simp only [List.set_cons_zero]); (try simp only [List.set_cons_succ])
  refine AnyT.take [15, 18] (i := 4) (v := ?_) rfl (by kernel_rfl) (by kernel_rfl) (by kernel_rfl) (by kernel_rfl) (fun _ _ _ h => h) (Or.inl ⟨by rfl, ?_⟩) (by assumption) ?_
  rotate_left 1
  · intro w' hSw
    (try dsimp only at hSw)
    go_simp
    try with_reducible rfl
  (try simp only [Act.put]); (try simp only [List.setIfInBounds_toArray]); (try simp only [List.set_cons_zero]); (try simp only [List.set_cons_succ])
  refine AnyT.take [6, 7, 8, 13, 14, 15, 18] (i := 5) (v := ?_) rfl (by kernel_rfl) (by kernel_rfl) (by kernel_rfl) (by kernel_rfl) (fun _ _ _ h => h) (Or.inl ⟨by rfl, ?_⟩) (by assumption) ?_
  rotate_left 1
  · intro w' hSw
    (try dsimp only at hSw)
    go_simp
    try with_reducible rfl
  (try simp only [Act.put]); (try simp only [List.setIfInBounds_toArray]); (try simp only [List.set_cons_zero]); (try simp only [List.set_cons_succ])
  refine AnyT.take [7, 8, 13, 14, 15, 18] (i := 6) (v := ?_) rfl (by kernel_rfl) (by kernel_rfl) (by kernel_rfl) (by kernel_rfl) (fun _ _ _ h => h) (Or.inl ⟨by rfl, ?_⟩) (by assumption) ?_
  rotate_left 1
  · intro w' hSw
    (try dsimp only at hSw)
    go_simp
    try with_reducible rfl
  (try simp only [Act.put]); (try simp only [List.setIfInBounds_toArray]); (try simp only [List.set_cons_zero]); (try simp only [List.set_cons_succ])
  refine AnyT.take [8, 13, 14, 15, 18] (i := 7) (v := ?_) rfl (by kernel_rfl) (by kernel_rfl) (by kernel_rfl) (by kernel_rfl) (fun _ _ _ h => h) (Or.inl ⟨by rfl, ?_⟩) (by assumption) ?_
  rotate_left 1
  · intro w' hSw
    (try dsimp only at hSw)
    go_simp
    try with_reducible rfl
  (try simp only [Act.put]); (try simp only [List.setIfInBounds_toArray]); (try simp only [List.set_cons_zero]); (try simp only [List.set_cons_succ])
  refine AnyT.take [13, 14, 15, 18] (i := 8) (v := ?_) rfl (by kernel_rfl) (by kernel_rfl) (by kernel_rfl) (by kernel_rfl) (fun _ _ _ h => h) (Or.inl ⟨by rfl, ?_⟩) (by assumption) ?_
  rotate_left 1
  · intro w' hSw
    (try dsimp only at hSw)
    go_simp
    try with_reducible rfl
  (try simp only [Act.put]); (try simp only [List.setIfInBounds_toArray]); (try simp only [List.set_cons_zero]); (try simp only [List.set_cons_succ])
  refine AnyT.take [10, 11, 12, 13, 14, 15, 18] (i := 9) (v := ?_) rfl (by kernel_rfl) (by kernel_rfl) (by kernel_rfl) (by kernel_rfl) (fun _ _ _ h => h) (Or.inl ⟨by rfl, ?_⟩) (by assumption) ?_
  rotate_left 1
  · intro w' hSw
    (try dsimp only at hSw)
    go_simp
    try with_reducible rfl
  (try simp only [Act.put]); (try simp only [List.setIfInBounds_toArray]); (try simp only [List.set_cons_zero]); (try simp only [List.set_cons_succ])
  refine AnyT.take [11, 12, 13, 14, 15, 18] (i := 10) (v := ?_) rfl (by kernel_rfl) (by kernel_rfl) (by kernel_rfl) (by kernel_rfl) (fun _ _ _ h => h) (Or.inl ⟨by rfl, ?_⟩) (by assumption) ?_
  rotate_left 1
  · intro w' hSw
    (try dsimp only at hSw)
    go_simp
    try with_reducible rfl
  (try simp only [Act.put]); (try simp only [List.setIfInBounds_toArray]); (try simp only [List.set_cons_zero]); (try simp only [List.set_cons_succ])
  refine AnyT.take [12, 13, 14, 15, 18] (i := 11) (v := ?_) rfl (by kernel_rfl) (by kernel_rfl) (by kernel_rfl) (by kernel_rfl) (fun _ _ _ h => h) (Or.inl ⟨by rfl, ?_⟩) (by assumption) ?_
  rotate_left 1
  · intro w' hSw
    (try dsimp only at hSw)
    go_simp
    try with_reducible rfl
  (try simp only [Act.put]); (try simp only [List.setIfInBounds_toArray]); (try simp only [List.set_cons_zero]); (try simp only [List.set_cons_succ])
  refine AnyT.take [13, 14, 15, 18] (i := 12) (v := ?_) rfl (by kernel_rfl) (by kernel_rfl) (by kernel_rfl) (by kernel_rfl) (fun _ _ _ h => h) (Or.inl ⟨by rfl, ?_⟩) (by assumption) ?_
  rotate_left 1
  · intro w' hSw
    (try dsimp only at hSw)
    go_simp
    try with_reducible rfl
  (try simp only [Act.put]); (try simp only [List.setIfInBounds_toArray]); (try simp only [List.set_cons_zero]); (try simp only [List.set_cons_succ])
  refine AnyT.take [14, 15, 18] (i := 13) (v := ?_) rfl (by kernel_rfl) (by kernel_rfl) (by kernel_rfl) (by kernel_rfl) (fun _ _ _ h => h) (Or.inl ⟨by rfl, ?_⟩) (by assumption) ?_
  rotate_left 1
  · intro w' hSw
    (try dsimp only at hSw)
    go_simp
    try with_reducible rfl
  (try simp only [Act.put]); (try simp only [List.setIfInBounds_toArray]); (try simp only [List.set_cons_zero]); (try simp only [List.set_cons_succ])
  refine AnyT.one (i := 14) (by kernel_rfl) rfl (fun K hK => ?_)
  go_simp
  refine hK.out _ _ (fun _ => ?_) ?_
  · exact ⟨alloc_far lbr c0, alloc_far lbp c1, alloc_far lbl ci, alloc_far lr c7, alloc_far lr c9⟩
  clear hK K
  (try simp only [Act.put]); (try simp only [List.setIfInBounds_toArray]); (try simp only [List.set_cons_zero]); (try simp only [List.set_cons_succ])
  refine AnyT.one (i := 15) (by kernel_rfl) rfl (fun K hK => ?_)
  refine step_app_pair _ (by rfl) _ _ (by rfl) (r + 1) cv.c s.called.length (pairsV s.froms s.called) (by rfl) (row_up hR1.row _) ⟨W1.heap.size, 0, none⟩ [.int .i64 (p : Int), .int .i64 (j : Int)] (by rfl) rfl (nine_block (cs := [.int .i64 (p : Int), .int .i64 (j : Int)]) (alloc_at W1 _)) (by simp [Value.oneCell']) hlen lrr ?_
  intro gr cr2 w5 hrow5 hgr5 hwh5
  obtain ⟨c57, fz57⟩ := hR1.cellC hgr5
  have c50 := (World.cell?_of_block (a := ⟨br, 0, none⟩) (grown_block hgr5 lbr nB)).trans c0
  have c51 := (World.cell?_of_block (a := ⟨bp, 0, none⟩) (grown_block hgr5 lbp nP)).trans c1
  have c52 := (World.cell?_of_block (a := ⟨bl, 1, none⟩) (grown_block hgr5 lbl nL)).trans ci
  have c59 := (World.cell?_of_block (a := ⟨r, 9, none⟩) (grown_block hgr5 lr nR)).trans c9
  have hHeld5 : w5.cell? ⟨br, 0, none⟩ = some (ptr r) ∧ w5.cell? ⟨bp, 0, none⟩ = some (ptr bl) ∧ w5.cell? ⟨bl, 1, none⟩ = some (.int .i64 (j : Int)) ∧ w5.cell? ⟨r, 7, none⟩ = some cv.c ∧ w5.cell? ⟨r, 9, none⟩ = some (.int .i64 (p : Int)) := ⟨c50, c51, c52, c57, c59⟩
  refine hK.out _ _ (fun _ => hHeld5) ?_
  clear hK K
  (try simp only [Act.put]); (try simp only [List.setIfInBounds_toArray]); (try simp only [List.set_cons_zero]); (try simp only [List.set_cons_succ])
  refine AnyT.take [17, 18] (i := 16) (v := ?_) rfl (by kernel_rfl) (by kernel_rfl) (by kernel_rfl) (by kernel_rfl) (fun _ _ _ h => h) (Or.inl ⟨by rfl, ?_⟩) (by assumption) ?_
  rotate_left 1
  · intro w' hSw
    (try dsimp only at hSw)
    go_simp
    try with_reducible rfl
  (try simp only [Act.put]); (try simp only [List.setIfInBounds_toArray]); (try simp only [List.set_cons_zero]); (try simp only [List.set_cons_succ])
  refine AnyT.take [18] (i := 17) (v := ?_) rfl (by kernel_rfl) (by kernel_rfl) (by kernel_rfl) (by kernel_rfl) (fun _ _ _ h => h) (Or.inl ⟨by rfl, ?_⟩) (by assumption) ?_
  rotate_left 1
  · intro w' hSw
    (try dsimp only at hSw)
    go_simp
    try with_reducible rfl
  (try simp only [Act.put]); (try simp only [List.setIfInBounds_toArray]); (try simp only [List.set_cons_zero]); (try simp only [List.set_cons_succ])
  refine AnyT.one (i := 18) (by kernel_rfl) rfl (fun K hK => ?_)
  go_simp
  refine hK.out _ _ (fun h => absurd h (by simp)) ?_
  clear hK K
  (try simp only [Act.put]); (try simp only [List.setIfInBounds_toArray]); (try simp only [List.set_cons_zero]); (try simp only [List.set_cons_succ])
  refine AnyT.done (by kernel_rfl) ?_ _
  clear hHeld5 c50 c51 c52 c57 c59 fz57 hHeld
  go_wp2_with fail
  obtain ⟨hn, hcs, hf, hok, hv, hbr, cr, hbp, cp, hp, hbe, ce, hbx, cx, hee, he, hy, hbl, hgk, p3, p4, hpk, htop, pi, hb0, hb1, hb2, hb3, hb4, hb5, hr0, s1, s2, s3, s4, s5, s6, s7, s8, s9, zs, zb, z0, z1, z2, n0, n1, hcl⟩ := PK.out
  obtain ⟨hR2, K12⟩ := hR1.addCall hrow5 hgr5 hwh5
  have hs12 := K12.size
  generalize (w5.setCell ⟨r, 7, none⟩ (.slice (some ⟨gr, 0, none⟩) (s.called.length + 1) cr2)) = W2 at hR2 K12 hs12 ⊢
  generalize (Value.slice (some ⟨gr, 0, none⟩) (s.called.length + 1) cr2) = cc at hR2 K12
  clear hrow5 hgr5 hwh5 c7 rf lrr hlen c0 c1 c9 ci lr lbr lbp lbl
  have K2 := (Kep.below (r := r) (cv := cv) zb).trans K12
  have H2 : ∀ g, Safe X r cv w g → W2.heap[g]? = w.heap[g]? ∧ Safe X r ⟨cc, cv.d⟩ W2 g := fun g hg => K2.safe hg
  have z0 := K12.cell n0 z0
  have z1 := K12.cell n0 z1
  have z2 := (K12.safe n1).1.trans z2
  have m0 := (K12.safe n0).2
  have m1 := (K12.safe n1).2
  have d0 := cell_keep H2 hbr cr
  have d1 := cell_keep H2 hbp cp
  have d2 := cell_keep H2 hbe ce
  have d3 := cell_keep H2 hbx cx
  have d4 := cell_keep H2 hbl p3
  have d5 := cell_keep H2 hgk p4
  have tbr := (H2 br hbr).2
  have tbp := (H2 bp hbp).2
  have tbe := (H2 be hbe).2
  have tbx := (H2 bx hbx).2
  have tbl := (H2 bl hbl).2
  have tgk := (H2 gk hgk).2
  clear cr cp ce cx p3 p4 n0 n1 hp pi hcl
  have C := with_c (.pointer qe) (paramOf g) (.int .i64 m) (IF q) ⟨_, rfl⟩ ⟨_, rfl⟩ ⟨_, rfl⟩ W2.drew
  have C2 : Calls Tryz.prog 51 #[.pointer qe, .int .u8 ((paramOf g).toNat : Int), .agg #[.int .i64 m, IF q]] W2.drew fun e' w' => ∃ x, e' = .returned x ∧ (∃ bs, x = ptr bs ∧ W2.heap.size ≤ bs ∧ bs < w'.heap.size ∧ Below W2.heap.size W2 w' ∧ w'.cell? ⟨bs, 0, none⟩ = some (.int .u8 ((paramOf g).toNat : Int)) ∧ w'.cell? ⟨bs, 1, none⟩ = some (.int .i64 m) ∧ w'.cell? ⟨bs, 2, none⟩ = some (IF q) ∧ w'.cell? ⟨bs, 3, none⟩ = some (.pointer qe)) ∧ w'.cell? ⟨br, 0, none⟩ = some (ptr r) ∧ w'.cell? ⟨bp, 0, none⟩ = some (ptr bl) ∧ w'.cell? ⟨bl, 3, none⟩ = some (.slice (some ⟨gk, 0, none⟩) 1 cap) ∧ w'.cell? ⟨gk, 0, none⟩ = some (ptr pb) ∧ w'.cell? ⟨be, 0, none⟩ = some (.pointer qe) ∧ w'.cell? ⟨bx, 1, none⟩ = some (.int .u8 ((paramOf g).toNat : Int)) ∧ w'.cell? ⟨w.heap.size, 0, none⟩ = some (.int .i64 m) ∧ w'.cell? ⟨w.heap.size, 1, none⟩ = some (IF q) := C.mono (by
      rintro e' w' ⟨bs, rfl, q1, q2, q3, q4, q5, q6, q7⟩
      have q8 : Below W2.heap.size W2 w' := ((Below.refl _ W2).drew).trans q3
      exact ⟨_, rfl, ⟨bs, rfl, q1, q2, q8, q4, q5, q6, q7⟩, (q8.cell tbr.1).trans d0, (q8.cell tbp.1).trans d1, (q8.cell tbl.1).trans d4, (q8.cell tgk.1).trans d5, (q8.cell tbe.1).trans d2, (q8.cell tbx.1).trans d3, (q8.cell m0.1).trans z0, (q8.cell m0.1).trans z1⟩)
  clear C
  obtain ⟨o, ho⟩ : ∃ o, callV (ev n) p (.clo j g e) y s = o := ⟨_, rfl⟩
  have hent : { { s with called := s.called ++ [j], froms := s.froms ++ [p] } with calls := s.calls + 1, depth := s.depth + 1, deepest := max s.deepest (s.depth + 1) } = s.enter p j := rfl
  have D : ∀ w3 bs, W2.heap.size ≤ bs → bs < w3.heap.size → Below W2.heap.size W2 w3 → w3.cell? ⟨bs, 0, none⟩ = some (.int .u8 ((paramOf g).toNat : Int)) → w3.cell? ⟨bs, 1, none⟩ = some (.int .i64 m) → w3.cell? ⟨bs, 2, none⟩ = some (IF q) → w3.cell? ⟨bs, 3, none⟩ = some (.pointer qe) →
      Calls Tryz.prog 96 #[ptr r, ptr pb, ptr bs] w3 fun e' w' => EvPost (AndX X (w.heap.size + 1)) r ⟨cc, cv.d⟩ w3 s o e' w' ∧ Kep r ⟨cc, cv.d⟩ W2 ⟨cc, cv.d⟩ w3 ∧ W2.heap.size ≤ w3.heap.size ∧ (∃ z0 z1, w'.heap[w.heap.size + 1]? = some (.cells #[z0, z1] 105 (0, 0))) ∧ w'.cell? ⟨br, 0, none⟩ = some (ptr r) ∧ w'.cell? ⟨bp, 0, none⟩ = some (ptr bl) ∧ w'.cell? ⟨bl, 3, none⟩ = some (.slice (some ⟨gk, 0, none⟩) 1 cap) ∧ w'.cell? ⟨gk, 0, none⟩ = some (ptr pb) ∧ w'.cell? ⟨be, 0, none⟩ = some (.pointer qe) ∧ w'.cell? ⟨bx, 1, none⟩ = some (.int .u8 ((paramOf g).toNat : Int)) ∧ w'.cell? ⟨w.heap.size, 0, none⟩ = some (.int .i64 m) ∧ w'.cell? ⟨w.heap.size, 1, none⟩ = some (IF q) := by
    intro w3 bs q1 q2 q3 q4 q5 q6 q7
    have K3 := K2.trans (Kep.below (r := r) (cv := ⟨cc, cv.d⟩) q3)
    have H : ∀ g, Safe X r cv w g → w3.heap[g]? = w.heap[g]? ∧ Safe (AndX X (w.heap.size + 1)) r ⟨cc, cv.d⟩ w3 g := K3.hide (Nat.le_succ _)
    have hR3 := hR2.below q3
    have hs : Safe (AndX X (w.heap.size + 1)) r ⟨cc, cv.d⟩ w3 bs := ⟨q2, by have := hR2.lt; omega, fun e => by have := (hR2.owns bs e).2; omega, fun e => by rcases e with e | e; (have := hR.priv bs e; omega); omega⟩
    have hBe : s.depth < 50 → StB (s.enter p j) := fun hd => ⟨s1, by simp only [St.enter]; omega, s3, s4, by simp only [St.enter]; omega, by simp only [St.enter]; omega, by simp only [St.enter, List.length_append, List.length_cons, List.length_nil]; omega, by simp only [St.enter, List.length_append, List.length_cons, List.length_nil]; omega, s9⟩
    refine (evalBody_c (X := AndX X (w.heap.size + 1)) n ih (bodyOf g) (j + 1) (bodyEn g j e y) _ (s.enter p j) r ⟨cc, cv.d⟩ (ptr pb) (ptr bs) w3 hent hn hBe (by show s.calls ≤ 100000; omega) s6 hok (hR3.hide (by omega)) (hpk.keep H) (body_env hf (hv.keep H) (hee.keep H) (he.keep H) (hy.keep H) hs q4 q5 q6 q7 (by have := htop w.heap.size (fun g hg => hg.1); omega))).mono ?_
    intro e' w' h
    have h : EvPost (AndX X (w.heap.size + 1)) r ⟨cc, cv.d⟩ w3 s o e' w' := by
      rw [← ho]
      exact evPost_depth rfl h
    obtain ⟨cv', hk⟩ := evPost_kep h
    have hk2 := K3.trans hk
    have hkz : ∀ k v, W2.cell? ⟨w.heap.size, k, none⟩ = some v → w'.cell? ⟨w.heap.size, k, none⟩ = some v := fun k v hv => ((Kep.below (r := r) (cv := ⟨cc, cv.d⟩) q3).trans hk).cell m0 hv
    have q3k := (Kep.below (r := r) (cv := ⟨cc, cv.d⟩) q3)
    exact ⟨h, q3k, q3.size, ⟨zz0, zz1, ((q3k.trans hk).safe m1).1.trans z2⟩, (q3k.trans hk).cell tbr d0, (q3k.trans hk).cell tbp d1, (q3k.trans hk).cell tbl d4, (q3k.trans hk).cell tgk d5, (q3k.trans hk).cell tbe d2, (q3k.trans hk).cell tbx d3, hkz _ _ z0, hkz _ _ z1⟩
  clear hpk hee he hy hv
  have n6 : w.heap.size ≠ w.heap.size + 1 := by omega
  have n0 : br ≠ w.heap.size + 1 := by omega
  have n1 : bp ≠ w.heap.size + 1 := by omega
  have n2 : be ≠ w.heap.size + 1 := by omega
  have n3 : bx ≠ w.heap.size + 1 := by omega
  have n4 : bl ≠ w.heap.size + 1 := by omega
  have n5 : gk ≠ w.heap.size + 1 := by omega
  rw [ho]
  have HO := Lib.hid ho
  clear ho hent H2 s1 s2 s3 s4 s5 s6 s7 s8 s9
  rcases Ou.cases o with ⟨v, s', hO⟩ | hbad
  · subst hO
    go_region_held3 (fun w' => w'.cell? ⟨br, 0, none⟩ = some (ptr r) ∧ w'.cell? ⟨bp, 0, none⟩ = some (ptr bl) ∧ w'.cell? ⟨bl, 3, none⟩ = some (.slice (some ⟨gk, 0, none⟩) 1 cap) ∧ w'.cell? ⟨gk, 0, none⟩ = some (ptr pb) ∧ w'.cell? ⟨be, 0, none⟩ = some (.pointer qe) ∧ w'.cell? ⟨bx, 1, none⟩ = some (.int .u8 ((paramOf g).toNat : Int)) ∧ w'.cell? ⟨w.heap.size, 0, none⟩ = some (.int .i64 m) ∧ w'.cell? ⟨w.heap.size, 1, none⟩ = some (IF q))
      (first | (simp only [set_far _ _ _ _ _ _ n0, set_far _ _ _ _ _ _ n1, set_far _ _ _ _ _ _ n2, set_far _ _ _ _ _ _ n3, set_far _ _ _ _ _ _ n4, set_far _ _ _ _ _ _ n5, set_far _ _ _ _ _ _ n6]; refine ⟨?_, ?_, ?_, ?_, ?_, ?_, ?_, ?_⟩ <;> assumption) | (refine ⟨?_, ?_, ?_, ?_, ?_, ?_, ?_, ?_⟩ <;> assumption) | go_keep)
      (first | (refine C2.mono ?_; rintro e' w3 ⟨x, rfl, ⟨bs, rfl, q1, q2, q3, q4, q5, q6, q7⟩, k0, k1, k2, k3, k4, k5, k6, k7⟩) | (refine (D _ _ q1 q2 q3 q4 q5 q6 q7).mono ?_; rintro e' w4 ⟨⟨x, cv', rfl, hv, hR4, hK4⟩, hK3, hsz, ⟨y0, y1, hz⟩, k0, k1, k2, k3, k4, k5, k6, k7⟩; obtain ⟨u0, u1, rfl, ⟨mu, rfl⟩, ⟨qu, rfl⟩⟩ := hv.form; obtain ⟨t0, t1, t2, t3⟩ := two_of hz))
    go_wp2_with fail
    refine bodyPost_ret (v := .agg #[.int .i64 mu, IF qu]) (by simp [results, Tryz.results95, go_sem, t0, t1]) rfl ?_
    rw [HO.out]
    refine ev_out (b := w.heap.size + 1) hR (Nat.le_succ _) hv hR4 (K2.trans (hK3.trans hK4)) (by have := hK4.size; omega) (fun e => ?_)
    rcases (K12.trans (hK3.trans hK4)).own _ e with h | h
    · have := (hR.owns _ h).2; omega
    · omega
  · go_region_held (fun w' => w'.cell? ⟨br, 0, none⟩ = some (ptr r) ∧ w'.cell? ⟨bp, 0, none⟩ = some (ptr bl) ∧ w'.cell? ⟨bl, 3, none⟩ = some (.slice (some ⟨gk, 0, none⟩) 1 cap) ∧ w'.cell? ⟨gk, 0, none⟩ = some (ptr pb) ∧ w'.cell? ⟨be, 0, none⟩ = some (.pointer qe) ∧ w'.cell? ⟨bx, 1, none⟩ = some (.int .u8 ((paramOf g).toNat : Int)) ∧ w'.cell? ⟨w.heap.size, 0, none⟩ = some (.int .i64 m) ∧ w'.cell? ⟨w.heap.size, 1, none⟩ = some (IF q))
      (first | (simp only [set_far _ _ _ _ _ _ n0, set_far _ _ _ _ _ _ n1, set_far _ _ _ _ _ _ n2, set_far _ _ _ _ _ _ n3, set_far _ _ _ _ _ _ n4, set_far _ _ _ _ _ _ n5, set_far _ _ _ _ _ _ n6]; refine ⟨?_, ?_, ?_, ?_, ?_, ?_, ?_, ?_⟩ <;> assumption) | (refine ⟨?_, ?_, ?_, ?_, ?_, ?_, ?_, ?_⟩ <;> assumption) | go_keep)
      (first | (refine C2.mono ?_; rintro e' w3 ⟨x, rfl, ⟨bs, rfl, q1, q2, q3, q4, q5, q6, q7⟩, k0, k1, k2, k3, k4, k5, k6, k7⟩) | (refine (D _ _ q1 q2 q3 q4 q5 q6 q7).mono ?_; rintro e' w4 ⟨h, hK3, hsz, ⟨y0, y1, hz⟩, k0, k1, k2, k3, k4, k5, k6, k7⟩; rcases e' with v | c | _; rotate_left; (obtain ⟨hc, cv', s', h2, h3, h4⟩ := (evPost_bad hbad _ _ _ _ _ _).1 h; injection hc with hc; subst hc; exact ⟨rfl, (evPost_bad hbad _ _ _ _ _ _).2 ⟨rfl, cv', s', h2.bare, K2.trans (hK3.trans h3), h4⟩⟩); (exact absurd ((evPost_bad hbad _ _ _ _ _ _).1 h).1 (by simp)); have hF : RowKit.Hid False := Lib.hid (absurd ((evPost_bad hbad _ _ _ _ _ _).1 h).1 (by simp)); obtain ⟨u0, u1, rfl⟩ : ∃ u0 u1, v = .agg #[.int .i64 u0, .pointer u1] := hF.out.elim; obtain ⟨t0, t1, t2, t3⟩ := two_of hz))
    exact hF.out.elim
end Go.Proofs.YthjhpfcilaghgaaGreatDoor
