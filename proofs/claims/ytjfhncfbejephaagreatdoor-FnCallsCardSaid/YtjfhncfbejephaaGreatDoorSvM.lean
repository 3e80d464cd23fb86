import Derived.Test.YtjfhncfbejephaaGreatDoorMVd
/- The specification's eval: calls. Written by genS.py. -/
namespace Go.Proofs.YtjfhncfbejephaaGreatDoor
open Go.RowKit Go.Shelf
open Ff
set_option linter.unusedVariables false
variable {X : Nat → Prop}
attribute [local irreducible] Calls

/-- A call comes to. -/
def SCallC (n : Nat) : Prop := ∀ (X : Nat → Prop) (vx vy : Vl) (s : St) (rb : Nat) (cv av : Value) (pp : Nat) (fv yv : Value) (w : World), 1501 ≤ s.steps + n → StB s → s.calls < s.steps → VlOk vx → VlOk vy → RunS X rb cv av w s 0 → SV (SafeS X rb cv av w) w vx fv → SV (SafeS X rb cv av w) w vy yv →
  Calls Tryz.prog 72 #[ptr rb, .int .i64 (pp : Int), fv, yv] w (SPost X rb cv av w (callV (ev n) pp vx vy s))
set_option maxRecDepth 100000 in
set_option maxHeartbeats 8000000 in
theorem sev_app (n : Nat) (ih : SEvC n) (hC : SCallC n) (f a : Tm) (i : Nat) (e : En) (s : St) (rb : Nat) (cv av tv vv : Value) (w : World) (hn : 1501 ≤ s.step.steps + n) (hs : s.steps < 1500) (hB : StB s) (hok : TmOk (.app f a) i e) (hR : RunS X rb cv av w s 0) (hP : RepN (SafeS X rb cv av w) w (.app f a) i tv) (hE : SE (SafeS X rb cv av w) w e vv) :
    Calls Tryz.prog 47 #[ptr rb, tv, vv] w (SPost X rb cv av w (evB (ev n) (.app f a) i e s.step)) := by
  obtain ⟨g, cap, rfl, hg, hkids⟩ := hP.head
  obtain ⟨ae, ce, rfl⟩ := hE.form
  have hlen := hok.room
  rw [← En.ents_len] at hlen
  have hB2 : StB s.step := ⟨hs, by simp only [St.step]; have := hB.calls; omega, by simp only [St.step]; have := hB.clos; omega, by simp only [St.step]; have := hB.capt; omega, hB.deepest, hB.depth, hB.called, hB.froms, hB.encl⟩
  have hcs : s.step.calls < s.step.steps := by simp only [St.step]; have := hB.calls; omega
  have hdep : s.step.depth = s.depth := rfl
  have hrb := hR.lt
  have hgl := hg.1
  show Calls Tryz.prog 47 #[ptr rb, .agg #[.int .u8 40, .int .i64 (i : Int), .string ⟨#[]⟩, .slice (some ⟨g, 0, none⟩) 2 cap], .slice (some ae) e.ents.length ce] w _
  obtain ⟨ws, wb, x0, x1, x2, x3, z0, z1, z2, z3, z4, z5, z6, z7, zz⟩ := sW_facts w 40 (i : Int) ⟨#[]⟩ (some ⟨g, 0, none⟩) 2 cap
  have hR1 := (hR.below wb).hide (b := w.heap.size + 1) (by omega)
  go_enter Tryz.func47, Tryz.ntmps47
  generalize hW : sW w 40 (i : Int) ⟨#[]⟩ (some ⟨g, 0, none⟩) 2 cap = W at ws wb x0 x1 x2 x3 zz hR1
  unfold sW at hW
  obtain ⟨y0, y1, _⟩ := hR1.at
  have fz := hR1.fz
  have hR2 : RunS (AndX X (w.heap.size + 1)) rb cv av (W.setCell ⟨rb, 1, none⟩ (.int .i64 ((s.steps : Int) + 1))) s.step 0 := hR1.set 1 _ (by decide) (by simp [runL, St.step]) rfl
  have K2 := (KepS.below (rb := rb) (cv := cv) (av := av) wb).set 1 (.int .i64 ((s.steps : Int) + 1))
  have K12 := (KepS.refl rb cv av W).set 1 (.int .i64 ((s.steps : Int) + 1))
  have G := goes_c rb 0 _ hR2.at.1
  go_wp2_with fail
  refine G.mono ?_
  rintro e' w' ⟨rfl, rfl⟩
  clear G y0 y1 fz
  have o0 : rb ≠ w.heap.size := by omega
  have o1 : rb ≠ w.heap.size + 1 := by omega
  have x0 := (set_far W rb 1 (.int .i64 ((s.steps : Int) + 1)) w.heap.size 0 (Ne.symm o0)).trans x0
  have x1 := (set_far W rb 1 (.int .i64 ((s.steps : Int) + 1)) w.heap.size 1 (Ne.symm o0)).trans x1
  have x2 := (set_far W rb 1 (.int .i64 ((s.steps : Int) + 1)) w.heap.size 2 (Ne.symm o0)).trans x2
  have x3 := (set_far W rb 1 (.int .i64 ((s.steps : Int) + 1)) w.heap.size 3 (Ne.symm o0)).trans x3
  have zz := (Below.heap_setCell W ⟨rb, 1, none⟩ (.int .i64 ((s.steps : Int) + 1)) (w.heap.size + 1) (Ne.symm o1)).trans zz
  have hz : (W.setCell ⟨rb, 1, none⟩ (.int .i64 ((s.steps : Int) + 1))).heap.size = w.heap.size + 2 := by simp [ws]
  generalize (W.setCell ⟨rb, 1, none⟩ (.int .i64 ((s.steps : Int) + 1))) = w2 at hR2 K2 K12 x0 x1 x2 x3 zz hz ⊢
  have H2 := K2.hide (X := X) (b := w.heap.size + 1) (Nat.le_succ _)
  have hown : ∀ (cv2 av2 : Value) (w4 : World), KepS rb cv av w2 cv2 av2 w4 → ∀ j, cv2.ownBlock = some j ∨ av2.ownBlock = some j → j ≠ w.heap.size + 1 := fun cv2 av2 w4 hK j hj e => by
    rcases hK.own j hj with h | h | h
    · have := (hR.owns j (.inl h)).2; omega
    · have := (hR.owns j (.inr h)).2; omega
    · omega
  have sB : SafeS X rb cv av w2 (w.heap.size + 1) := hR.new (Nat.le_succ _) (by omega)
  have sb : SafeS X rb cv av w2 w.heap.size := hR.new (Nat.le_refl _) (by omega)
  have sg := (K2.safe hg).2
  have hfin : ∀ (cv2 av2 : Value) (w4 : World), KepS rb cv av w2 cv2 av2 w4 → w4.heap[w.heap.size + 1]? = some (.cells #[z0, z1, z2, z3, z4, z5, z6, z7] 114 (0, 0)) := fun cv2 av2 w4 hK => (hK.safe sB).1.trans zz
  obtain ⟨kka, mma, ssa, aaa, lla, cca, na0, na1, na2, na3, hka⟩ := skid (j := (i + 1)) hkids (k := 0) rfl (by rw [before_len0]) (q := 0) rfl
  have na0 : w.cell? ⟨g, 0, none⟩ = _ := na0
  have na1 : w.cell? ⟨g, 1, none⟩ = _ := na1
  have na2 : w.cell? ⟨g, 2, none⟩ = _ := na2
  have na3 : w.cell? ⟨g, 3, none⟩ = _ := na3
  obtain ⟨kkb, mmb, ssb, aab, llb, ccb, nb0, nb1, nb2, nb3, hkb⟩ := skid (j := (i + 1 + (parts f).length)) hkids (k := 1) rfl (before1 rfl i) (q := 4) rfl
  have nb0 : w.cell? ⟨g, 4, none⟩ = _ := nb0
  have nb1 : w.cell? ⟨g, 5, none⟩ = _ := nb1
  have nb2 : w.cell? ⟨g, 6, none⟩ = _ := nb2
  have nb3 : w.cell? ⟨g, 7, none⟩ = _ := nb3
  have e0 := K2.cell hg na0
  have e1 := K2.cell hg na1
  have e2 := K2.cell hg na2
  have e3 := K2.cell hg na3
  have hW := ev_ok n _ _ _ s.step hok.app.1
  have HE := Lib.hid (show evB (ev n) (.app f a) i e s.step = (ev n f (i + 1) e s.step).next fun x s => (ev n a (i + 1 + (parts f).length) e s).next fun y s => callV (ev n) i x y s from rfl)
  have C := ih (AndX X (w.heap.size + 1)) f (i + 1) e s.step rb cv av _ _ w2 hn hB2 hok.app.1 hR2 (hka.keep H2) (hE.keep H2)
  generalize ev n f (i + 1) e s.step = o at C HE hW
  go_wp2_with fail
  refine C.mono ?_
  intro e' w4 h
  clear C e0 e1 e2 e3
  rcases Ou.cases o with ⟨v, s1, rfl⟩ | hbad
  rotate_left
  · obtain ⟨he, hD, cv1, av1, hK4⟩ := (sPost_bad hbad _ _ _ _ _ _).1 h
    rw [he]
    have hb5 := (Below.refl _ w4).alloc (Nat.le_refl _) (.cells #[.bool false, .int .i64 0, .int .u8 0, .int .i64 0, .string ⟨#[]⟩, .slice none 0 0, .int .i64 0, .slice none 0 0] 114)
    have hK5 := hK4.trans (KepS.below (rb := rb) (cv := cv1) (av := av1) hb5)
    have hs4 := hK4.size
    have x3 := hK5.cell sb x3
    have K3 := K2.trans hK5
    have f0 := K3.cell hg nb0
    have f1 := K3.cell hg nb1
    have f2 := K3.cell hg nb2
    have f3 := K3.cell hg nb3
    have C := dead_eval rb (enO o) kkb mmb ssb aab llb ccb (some ae) e.ents.length ce .nilIface .nilIface _ (hD.below hb5)
    go_wp2_with fail
    refine C.mono ?_
    rintro e' w6 ⟨rfl, hD6, cv6, av6, hK6⟩
    have hK26 := hK5.plain hK6
    have hb7 := (Below.refl _ w6).alloc (Nat.le_refl _) (.cells #[.bool false, .int .i64 0, .int .u8 0, .int .i64 0, .string ⟨#[]⟩, .slice none 0 0, .int .i64 0, .slice none 0 0] 114)
    have hK27 := hK26.trans (KepS.below (rb := rb) (cv := cv1) (av := av1) hb7)
    have hD7 := hD6.below hb7
    clear C
    have hzd := hfin _ _ _ hK27
    have Gd := goes_c rb (enO o) _ (hD7).c0
    rw [show (enO o == 0) = false by cases o <;> first | exact hbad.elim | rfl] at Gd
    go_wp2_with fail
    generalize w6.alloc (.cells #[.bool false, .int .i64 0, .int .u8 0, .int .i64 0, .string ⟨#[]⟩, .slice none 0 0, .int .i64 0, .slice none 0 0] 114) = w7 at Gd hD7 hK27 hzd ⊢
    refine Gd.mono ?_
    rintro e' w9 ⟨rfl, rfl⟩
    obtain ⟨t0, t1, t2, t3, t4, t5, t6, t7, tff⟩ := eight_of hzd
    go_wp2_with fail
    have h8 := eight_of (set8_at hzd (.bool false) (.int .i64 0) (.int .u8 0) (.int .i64 0) (.string ⟨#[]⟩) (.slice none 0 0) (.int .i64 0) (.slice none 0 0))
    obtain ⟨r0, r1, r2, r3, r4, r5, r6, r7, _⟩ := h8
    unfold set8 at r0 r1 r2 r3 r4 r5 r6 r7
    refine bodyPost_ret (v := zero8) (by simp [results, Tryz.results47, go_sem, r0, r1, r2, r3, r4, r5, r6, r7]) rfl ?_
    rw [HE.out, Ou.next_bad hbad]
    exact (sPost_bad hbad _ _ _ _ _ _).2 (dead_out (Nat.le_succ _) hrb K2 ⟨rfl, hD7, _, _, hK27⟩)

  obtain ⟨hokv, hG⟩ := hW
  have hB3 := hB2.goes hG
  have hn3 : 1501 ≤ s1.steps + n := by have := hG.steps; omega
  obtain ⟨xv, cv1, av1, rfl, hv, hR4, hK4⟩ := h
  obtain ⟨bv, nv, kv, mv, sv, av2, lv, cv2, iv, av3, lv3, cv3, rfl⟩ := hv.form
  have hb5 := (Below.refl _ w4).alloc (Nat.le_refl _) (.cells #[.bool bv, .int .i64 nv, .int .u8 kv, .int .i64 mv, .string sv, .slice av2 lv cv2, .int .i64 iv, .slice av3 lv3 cv3] 114)
  have hR5 := hR4.below hb5
  have hK5 := hK4.trans (KepS.below (rb := rb) (cv := cv1) (av := av1) hb5)
  have hv5 := hv.keep (fun q hq => (KepS.below (rb := rb) (cv := cv1) (av := av1) hb5).safe hq)
  obtain ⟨u0, u1, u2, u3, u4, u5, u6, u7, _⟩ := eight_of (alloc_at w4 (.cells #[.bool bv, .int .i64 nv, .int .u8 kv, .int .i64 mv, .string sv, .slice av2 lv cv2, .int .i64 iv, .slice av3 lv3 cv3] 114))
  have hl5 : (w4.alloc (.cells #[.bool bv, .int .i64 nv, .int .u8 kv, .int .i64 mv, .string sv, .slice av2 lv cv2, .int .i64 iv, .slice av3 lv3 cv3] 114)).heap.size = w4.heap.size + 1 := by simp
  have hs4 := hK4.size
  have s45 : SafeS (AndX X (w.heap.size + 1)) rb cv1 av1 (w4.alloc (.cells #[.bool bv, .int .i64 nv, .int .u8 kv, .int .i64 mv, .string sv, .slice av2 lv cv2, .int .i64 iv, .slice av3 lv3 cv3] 114)) w4.heap.size := hR4.new (Nat.le_refl _) (by omega)
  have x3 := hK5.cell sb x3
  have K3 := K2.trans hK5
  have H5 := K3.hide (X := X) (b := w.heap.size + 1) (Nat.le_succ _)
  have f0 := K3.cell hg nb0
  have f1 := K3.cell hg nb1
  have f2 := K3.cell hg nb2
  have f3 := K3.cell hg nb3
  have hW := ev_ok n _ _ _ s1 hok.app.2
  have C := ih (AndX X (w.heap.size + 1)) a (i + 1 + (parts f).length) e s1 rb cv1 av1 _ _ _ hn3 hB3 hok.app.2 hR5 (hkb.keep H5) (hE.keep H5)
  have HE2 := Lib.hid (show evB (ev n) (.app f a) i e s.step = (ev n a (i + 1 + (parts f).length) e s1).next fun y s => callV (ev n) i v y s from HE.out)
  clear HE
  have HE := HE2
  clear HE2
  generalize ev n a (i + 1 + (parts f).length) e s1 = o2 at C HE hW
  go_wp2_with fail
  refine C.mono ?_
  generalize w4.alloc (.cells #[.bool bv, .int .i64 nv, .int .u8 kv, .int .i64 mv, .string sv, .slice av2 lv cv2, .int .i64 iv, .slice av3 lv3 cv3] 114) = w5 at hb5 hR5 hK5 hv5 u0 u1 u2 u3 u4 u5 u6 u7 hl5 s45 K3 H5
  intro e' w6 h
  clear C f0 f1 f2 f3 x3
  rcases Ou.cases o2 with ⟨v2, s2, rfl⟩ | hbad2
  rotate_left
  · obtain ⟨he, hD, cv6, av6, hK6⟩ := (sPost_bad hbad2 _ _ _ _ _ _).1 h
    rw [he]
    have hb7 := (Below.refl _ w6).alloc (Nat.le_refl _) (.cells #[.bool false, .int .i64 0, .int .u8 0, .int .i64 0, .string ⟨#[]⟩, .slice none 0 0, .int .i64 0, .slice none 0 0] 114)
    have hK27 := (hK5.trans hK6).trans (KepS.below (rb := rb) (cv := cv6) (av := av6) hb7)
    have hD7 := hD.below hb7
    have hzd := hfin _ _ _ hK27
    have Gd := goes_c rb (enO o2) _ (hD7).c0
    rw [show (enO o2 == 0) = false by cases o2 <;> first | exact hbad2.elim | rfl] at Gd
    go_wp2_with fail
    generalize w6.alloc (.cells #[.bool false, .int .i64 0, .int .u8 0, .int .i64 0, .string ⟨#[]⟩, .slice none 0 0, .int .i64 0, .slice none 0 0] 114) = w7 at Gd hD7 hK27 hzd ⊢
    refine Gd.mono ?_
    rintro e' w9 ⟨rfl, rfl⟩
    obtain ⟨t0, t1, t2, t3, t4, t5, t6, t7, tff⟩ := eight_of hzd
    go_wp2_with fail
    have h8 := eight_of (set8_at hzd (.bool false) (.int .i64 0) (.int .u8 0) (.int .i64 0) (.string ⟨#[]⟩) (.slice none 0 0) (.int .i64 0) (.slice none 0 0))
    obtain ⟨r0, r1, r2, r3, r4, r5, r6, r7, _⟩ := h8
    unfold set8 at r0 r1 r2 r3 r4 r5 r6 r7
    refine bodyPost_ret (v := zero8) (by simp [results, Tryz.results47, go_sem, r0, r1, r2, r3, r4, r5, r6, r7]) rfl ?_
    rw [HE.out, Ou.next_bad hbad2]
    exact (sPost_bad hbad2 _ _ _ _ _ _).2 (dead_out (Nat.le_succ _) hrb K2 ⟨rfl, hD7, _, _, hK27⟩)

  obtain ⟨hokv2, hG2⟩ := hW
  have hB5 := hB3.goes hG2
  obtain ⟨yv, cv6, av6, rfl, hv2, hR6, hK6⟩ := h
  obtain ⟨bw, nw, kw, mw, sw, aw2, lw, cw2, iw, aw3, lw3, cw3, rfl⟩ := hv2.form
  have hb7 := (Below.refl _ w6).alloc (Nat.le_refl _) (.cells #[.bool bw, .int .i64 nw, .int .u8 kw, .int .i64 mw, .string sw, .slice aw2 lw cw2, .int .i64 iw, .slice aw3 lw3 cw3] 114)
  have hR7 := hR6.below hb7
  have hK67 := hK6.trans (KepS.below (rb := rb) (cv := cv6) (av := av6) hb7)
  have hK7 := hK5.trans hK67
  obtain ⟨p0, p1, p2, p3, p4, p5, p6, p7, _⟩ := eight_of (alloc_at w6 (.cells #[.bool bw, .int .i64 nw, .int .u8 kw, .int .i64 mw, .string sw, .slice aw2 lw cw2, .int .i64 iw, .slice aw3 lw3 cw3] 114))
  have hs6 := hK6.size
  have u0 := hK67.cell s45 u0
  have u1 := hK67.cell s45 u1
  have u2 := hK67.cell s45 u2
  have u3 := hK67.cell s45 u3
  have u4 := hK67.cell s45 u4
  have u5 := hK67.cell s45 u5
  have u6 := hK67.cell s45 u6
  have u7 := hK67.cell s45 u7
  have x0 := hK7.cell sb x0
  have x1 := hK7.cell sb x1
  have hvx := hv5.keep (fun q hq => hK67.safe hq)
  have hvy := hv2.keep (fun q hq => (KepS.below (rb := rb) (cv := cv6) (av := av6) hb7).safe hq)
  have G := goes_c rb 0 _ hR7.at.1
  go_wp2_with fail
  refine G.mono ?_
  rintro e' w9 ⟨rfl, rfl⟩
  have hl7 : (w6.alloc (.cells #[.bool bw, .int .i64 nw, .int .u8 kw, .int .i64 mw, .string sw, .slice aw2 lw cw2, .int .i64 iw, .slice aw3 lw3 cw3] 114)).heap.size = w6.heap.size + 1 := by simp
  generalize w6.alloc (.cells #[.bool bw, .int .i64 nw, .int .u8 kw, .int .i64 mw, .string sw, .slice aw2 lw cw2, .int .i64 iw, .slice aw3 lw3 cw3] 114) = w7 at hR7 hK7 hK67 p0 p1 p2 p3 p4 p5 p6 p7 u0 u1 u2 u3 u4 u5 u6 u7 x0 x1 hvx hvy hl7 ⊢
  clear G hb7
  have hn5 : 1501 ≤ s2.steps + n := by have := hG2.steps; omega
  have hc5 : s2.calls < s2.steps := by have h1 := hG.calls; have h2 := hG2.calls; omega
  have CX := hC (AndX X (w.heap.size + 1)) v v2 s2 rb cv6 av6 i _ _ w7 hn5 hB5 hc5 hokv hokv2 hR7 hvx hvy
  have HE2 := Lib.hid (show evB (ev n) (.app f a) i e s.step = callV (ev n) i v v2 s2 from HE.out)
  clear HE
  have HE := HE2
  clear HE2
  generalize callV (ev n) i v v2 s2 = o3 at CX HE
  go_wp2_with fail
  refine CX.mono ?_
  intro e' w9 h
  rcases Ou.cases o3 with ⟨v3, s3, rfl⟩ | hbad3
  · obtain ⟨x9, cv9, av9, rfl, hv9, hR9, hK9⟩ := h
    obtain ⟨bq, nq, kq, mq, sq, aq, lq, cq, iq, aq2, lq2, cq2, rfl⟩ := hv9.form
    have hs9 := hK9.size
    have hz9 := hfin _ _ _ (hK7.trans hK9)
    obtain ⟨t0, t1, t2, t3, t4, t5, t6, t7, tff⟩ := eight_of hz9
    go_wp2_with fail
    have h8 := eight_of (set8_at hz9 (.bool bq) (.int .i64 nq) (.int .u8 kq) (.int .i64 mq) (.string sq) (.slice aq lq cq) (.int .i64 iq) (.slice aq2 lq2 cq2))
    obtain ⟨r0, r1, r2, r3, r4, r5, r6, r7, _⟩ := h8
    unfold set8 at r0 r1 r2 r3 r4 r5 r6 r7
    refine bodyPost_ret (v := v8 bq nq kq mq sq aq lq cq iq aq2 lq2 cq2) (by simp [results, Tryz.results47, go_sem, r0, r1, r2, r3, r4, r5, r6, r7]) rfl ?_
    rw [HE.out]
    exact sv_out hR (Nat.le_succ _) (by omega) hv9 hR9 ((K2.trans hK7).trans hK9) (hown _ _ _ (hK7.trans hK9))
  · obtain ⟨he, hD, cv9, av9, hK9⟩ := (sPost_bad hbad3 _ _ _ _ _ _).1 h
    subst he
    have hz9 := hfin _ _ _ (hK7.trans hK9)
    obtain ⟨t0, t1, t2, t3, t4, t5, t6, t7, tff⟩ := eight_of hz9
    go_wp2_with fail
    have h8 := eight_of (set8_at hz9 (.bool false) (.int .i64 0) (.int .u8 0) (.int .i64 0) (.string ⟨#[]⟩) (.slice none 0 0) (.int .i64 0) (.slice none 0 0))
    obtain ⟨r0, r1, r2, r3, r4, r5, r6, r7, _⟩ := h8
    unfold set8 at r0 r1 r2 r3 r4 r5 r6 r7
    refine bodyPost_ret (v := zero8) (by simp [results, Tryz.results47, go_sem, r0, r1, r2, r3, r4, r5, r6, r7]) rfl ?_
    rw [HE.out]
    exact (sPost_bad hbad3 _ _ _ _ _ _).2 (dead_out (Nat.le_succ _) hrb (K2.trans hK7) ⟨rfl, hD, _, _, hK9⟩)
end Go.Proofs.YtjfhncfbejephaaGreatDoor
