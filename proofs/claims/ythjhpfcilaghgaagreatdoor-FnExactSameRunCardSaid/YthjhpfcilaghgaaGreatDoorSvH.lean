import Derived.Test.YthjhpfcilaghgaaGreatDoorSvG
import Derived.Test.YthjhpfcilaghgaaGreatDoorEvJ
/- The specification's eval: a choice. Written by genS.py. -/
namespace Go.Proofs.YthjhpfcilaghgaaGreatDoor
open Go.RowKit Go.Shelf
open Ff
set_option linter.unusedVariables false
variable {X : Nat → Prop}
attribute [local irreducible] Calls

/-- A kid's cells. -/
theorem skid {S : Nat → Prop} {w : World} {t s : Tm} {i g k j q : Nat} (h : ∀ k s, t.kids[k]? = some s → ∃ kk mm ss aa ll cc, w.cell? ⟨g, 4 * k, none⟩ = some (.int .u8 kk) ∧ w.cell? ⟨g, 4 * k + 1, none⟩ = some (.int .i64 mm) ∧ w.cell? ⟨g, 4 * k + 2, none⟩ = some (.string ss) ∧ w.cell? ⟨g, 4 * k + 3, none⟩ = some (.slice aa ll cc) ∧ RepN S w s (i + (before t k).length) (t4 kk mm ss aa ll cc)) (hs : t.kids[k]? = some s) (hj : i + (before t k).length = j) (hq : 4 * k = q) :
    ∃ kk mm ss aa ll cc, w.cell? ⟨g, q, none⟩ = some (.int .u8 kk) ∧ w.cell? ⟨g, q + 1, none⟩ = some (.int .i64 mm) ∧ w.cell? ⟨g, q + 2, none⟩ = some (.string ss) ∧ w.cell? ⟨g, q + 3, none⟩ = some (.slice aa ll cc) ∧ RepN S w s j (t4 kk mm ss aa ll cc) := by
  subst hj hq
  exact h k s hs
theorem before1 {t f : Tm} {l : List Tm} (h : t.kids = f :: l) (i : Nat) : i + (before t 1).length = i + 1 + (parts f).length := by
  rw [before_succ t 0 f (by rw [h]; rfl), List.length_append, before_len0]; omega
theorem before2 {t f y : Tm} {l : List Tm} (h : t.kids = f :: y :: l) (i : Nat) : i + (before t 2).length = i + 1 + (parts f).length + (parts y).length := by
  rw [before_succ t 1 y (by rw [h]; rfl), List.length_append, before_succ t 0 f (by rw [h]; rfl), List.length_append, before_len0]; omega
set_option maxRecDepth 100000 in
set_option maxHeartbeats 8000000 in
theorem sev_sel (n : Nat) (ih : SEvC n) (x y z : Tm) (i : Nat) (e : En) (s : St) (rb : Nat) (cv av tv vv : Value) (w : World) (hn : 1501 ≤ s.step.steps + n) (hs : s.steps < 1500) (hB : StB s) (hok : TmOk (.sel x y z) i e) (hR : RunS X rb cv av w s 0) (hP : RepN (SafeS X rb cv av w) w (.sel x y z) i tv) (hE : SE (SafeS X rb cv av w) w e vv) :
    Calls Tryz.prog 43 #[ptr rb, tv, vv] w (SPost X rb cv av w (evB (ev n) (.sel x y z) i e s.step)) := by
  obtain ⟨g, cap, rfl, hg, hkids⟩ := hP.head
  obtain ⟨ae, ce, rfl⟩ := hE.form
  have hlen := hok.room
  rw [← En.ents_len] at hlen
  have hB2 : StB s.step := ⟨hs, by simp only [St.step]; have := hB.calls; omega, by simp only [St.step]; have := hB.clos; omega, by simp only [St.step]; have := hB.capt; omega, hB.deepest, hB.depth, hB.called, hB.froms, hB.encl⟩
  have hcs : s.step.calls < s.step.steps := by simp only [St.step]; have := hB.calls; omega
  have hdep : s.step.depth = s.depth := rfl
  have hrb := hR.lt
  have hgl := hg.1
  show Calls Tryz.prog 43 #[ptr rb, .agg #[.int .u8 63, .int .i64 (i : Int), .string ⟨#[]⟩, .slice (some ⟨g, 0, none⟩) 3 cap], .slice (some ae) e.ents.length ce] w _
  obtain ⟨ws, wb, x0, x1, x2, x3, z0, z1, z2, z3, z4, z5, z6, z7, zz⟩ := sW_facts w 63 (i : Int) ⟨#[]⟩ (some ⟨g, 0, none⟩) 3 cap
  have hR1 := (hR.below wb).hide (b := w.heap.size + 1) (by omega)
  go_enter Tryz.func43, Tryz.ntmps43
  generalize hW : sW w 63 (i : Int) ⟨#[]⟩ (some ⟨g, 0, none⟩) 3 cap = W at ws wb x0 x1 x2 x3 zz hR1
  unfold sW at hW
  obtain ⟨y0, y1, _⟩ := hR1.at
  have fz := hR1.fz
  have hR2 : RunS (AndX X (w.heap.size + 1)) rb cv av (W.setCell ⟨rb, 1, none⟩ (.int .i64 ((s.steps : Int) + 1))) s.step 0 := hR1.set 1 _ (by decide) (by simp [runL, St.step]) rfl
  have K2 := (KepS.below (rb := rb) (cv := cv) (av := av) wb).set 1 (.int .i64 ((s.steps : Int) + 1))
  have K12 := (KepS.refl rb cv av W).set 1 (.int .i64 ((s.steps : Int) + 1))
  have G := goes_c rb 0 _ hR2.at.1
  go_wp2_with fail
  refine G.mono ?_
  rintro e' w' ⟨rfl, rfl⟩
  clear G y0 y1 fz
  have o0 : rb ≠ w.heap.size := by omega
  have o1 : rb ≠ w.heap.size + 1 := by omega
  have x0 := (set_far W rb 1 (.int .i64 ((s.steps : Int) + 1)) w.heap.size 0 (Ne.symm o0)).trans x0
  have x1 := (set_far W rb 1 (.int .i64 ((s.steps : Int) + 1)) w.heap.size 1 (Ne.symm o0)).trans x1
  have x2 := (set_far W rb 1 (.int .i64 ((s.steps : Int) + 1)) w.heap.size 2 (Ne.symm o0)).trans x2
  have x3 := (set_far W rb 1 (.int .i64 ((s.steps : Int) + 1)) w.heap.size 3 (Ne.symm o0)).trans x3
  have zz := (Below.heap_setCell W ⟨rb, 1, none⟩ (.int .i64 ((s.steps : Int) + 1)) (w.heap.size + 1) (Ne.symm o1)).trans zz
  have hz : (W.setCell ⟨rb, 1, none⟩ (.int .i64 ((s.steps : Int) + 1))).heap.size = w.heap.size + 2 := by simp [ws]
  generalize (W.setCell ⟨rb, 1, none⟩ (.int .i64 ((s.steps : Int) + 1))) = w2 at hR2 K2 K12 x0 x1 x2 x3 zz hz ⊢
  have H2 := K2.hide (X := X) (b := w.heap.size + 1) (Nat.le_succ _)
  have hown : ∀ (cv2 av2 : Value) (w4 : World), KepS rb cv av w2 cv2 av2 w4 → ∀ j, cv2.ownBlock = some j ∨ av2.ownBlock = some j → j ≠ w.heap.size + 1 := fun cv2 av2 w4 hK j hj e => by
    rcases hK.own j hj with h | h | h
    · have := (hR.owns j (.inl h)).2; omega
    · have := (hR.owns j (.inr h)).2; omega
    · omega
  have sB : SafeS X rb cv av w2 (w.heap.size + 1) := hR.new (Nat.le_succ _) (by omega)
  have sb : SafeS X rb cv av w2 w.heap.size := hR.new (Nat.le_refl _) (by omega)
  have sg := (K2.safe hg).2
  have hfin : ∀ (cv2 av2 : Value) (w4 : World), KepS rb cv av w2 cv2 av2 w4 → w4.heap[w.heap.size + 1]? = some (.cells #[z0, z1, z2, z3, z4, z5, z6, z7] 71 (0, 0)) := fun cv2 av2 w4 hK => (hK.safe sB).1.trans zz
  obtain ⟨kka, mma, ssa, aaa, lla, cca, na0, na1, na2, na3, hka⟩ := skid (j := (i + 1)) hkids (k := 0) rfl (by rw [before_len0]) (q := 0) rfl
  have na0 : w.cell? ⟨g, 0, none⟩ = _ := na0
  have na1 : w.cell? ⟨g, 1, none⟩ = _ := na1
  have na2 : w.cell? ⟨g, 2, none⟩ = _ := na2
  have na3 : w.cell? ⟨g, 3, none⟩ = _ := na3
  obtain ⟨kkb, mmb, ssb, aab, llb, ccb, nb0, nb1, nb2, nb3, hkb⟩ := skid (j := (i + 1 + (parts x).length)) hkids (k := 1) rfl (before1 rfl i) (q := 4) rfl
  have nb0 : w.cell? ⟨g, 4, none⟩ = _ := nb0
  have nb1 : w.cell? ⟨g, 5, none⟩ = _ := nb1
  have nb2 : w.cell? ⟨g, 6, none⟩ = _ := nb2
  have nb3 : w.cell? ⟨g, 7, none⟩ = _ := nb3
  obtain ⟨kkc, mmc, ssc, aac, llc, ccc, nc0, nc1, nc2, nc3, hkc⟩ := skid (j := (i + 1 + (parts x).length + (parts y).length)) hkids (k := 2) rfl (before2 rfl i) (q := 8) rfl
  have nc0 : w.cell? ⟨g, 8, none⟩ = _ := nc0
  have nc1 : w.cell? ⟨g, 9, none⟩ = _ := nc1
  have nc2 : w.cell? ⟨g, 10, none⟩ = _ := nc2
  have nc3 : w.cell? ⟨g, 11, none⟩ = _ := nc3
  have e0 := K2.cell hg na0
  have e1 := K2.cell hg na1
  have e2 := K2.cell hg na2
  have e3 := K2.cell hg na3
  have hW := ev_ok n _ _ _ s.step hok.sel.1
  have HE := Lib.hid (show evB (ev n) (.sel x y z) i e s.step = (ev n x (i + 1) e s.step).next fun u s => match u with
    | .num k => if k = 0 then ev n y (i + 1 + (parts x).length) e s else ev n z (i + 1 + (parts x).length + (parts y).length) e s
    | .clo _ _ _ => .fault from rfl)
  have C := ih (AndX X (w.heap.size + 1)) x (i + 1) e s.step rb cv av _ _ w2 hn hB2 hok.sel.1 hR2 (hka.keep H2) (hE.keep H2)
  generalize ev n x (i + 1) e s.step = o at C HE hW
  go_wp2_with fail
  refine C.mono ?_
  intro e' w4 h
  clear C
  rcases Ou.cases o with ⟨v, s1, rfl⟩ | hbad
  rotate_left
  · obtain ⟨he, hD, cv9, av9, hK9⟩ := (sPost_bad hbad _ _ _ _ _ _).1 h
    rw [he]
    have hb5 := (Below.refl _ w4).alloc (Nat.le_refl _) (.cells #[.bool false, .int .i64 0, .int .u8 0, .int .i64 0, .string ⟨#[]⟩, .slice none 0 0, .int .i64 0, .slice none 0 0] 71)
    have hD5 := hD.below hb5
    have hK5 := hK9.trans (KepS.below (rb := rb) (cv := cv9) (av := av9) hb5)
    have hz5 := hfin _ _ _ hK5
    have e1 : (enO o == 0) = false := by cases o <;> first | exact hbad.elim | rfl
    have G := goes_c rb (enO o) _ hD5.c0
    rw [e1] at G
    obtain ⟨u0, u1, u2, u3, u4, u5, u6, u7, _⟩ := eight_of (alloc_at w4 (.cells #[.bool false, .int .i64 0, .int .u8 0, .int .i64 0, .string ⟨#[]⟩, .slice none 0 0, .int .i64 0, .slice none 0 0] 71))
    go_wp2_with fail
    refine G.mono ?_
    rintro e' w6 ⟨rfl, rfl⟩
    generalize w4.alloc (.cells #[.bool false, .int .i64 0, .int .u8 0, .int .i64 0, .string ⟨#[]⟩, .slice none 0 0, .int .i64 0, .slice none 0 0] 71) = w5 at hD5 hK5 hz5 u0 u1 u2 u3 u4 u5 u6 u7 ⊢
    obtain ⟨t0, t1, t2, t3, t4, t5, t6, t7, tf⟩ := eight_of hz5
    go_wp2_with fail
    have h8 := eight_of (set8_at hz5 (.bool false) (.int .i64 0) (.int .u8 0) (.int .i64 0) (.string ⟨#[]⟩) (.slice none 0 0) (.int .i64 0) (.slice none 0 0))
    obtain ⟨r0, r1, r2, r3, r4, r5, r6, r7, _⟩ := h8
    unfold set8 at r0 r1 r2 r3 r4 r5 r6 r7
    refine bodyPost_ret (v := zero8) (by simp [results, Tryz.results43, go_sem, r0, r1, r2, r3, r4, r5, r6, r7]) rfl ?_
    rw [HE.out, Ou.next_bad hbad]
    exact (sPost_bad hbad _ _ _ _ _ _).2 (dead_out (Nat.le_succ _) hrb K2 ⟨rfl, hD5, _, _, hK5⟩)
  obtain ⟨hokv, hG⟩ := hW
  have hB3 := hB2.goes hG
  have hn3 : 1501 ≤ s1.steps + n := by have := hG.steps; omega
  obtain ⟨xv, cv1, av1, rfl, hv, hR4, hK4⟩ := h
  obtain ⟨bv, nv, kv, mv, sv, av, lv, cv', iv, av2, lv2, cv2, rfl⟩ := hv.form
  have hb5 := (Below.refl _ w4).alloc (Nat.le_refl _) (.cells #[.bool bv, .int .i64 nv, .int .u8 kv, .int .i64 mv, .string sv, .slice av lv cv', .int .i64 iv, .slice av2 lv2 cv2] 71)
  have hR5 := hR4.below hb5
  have hK3 := hK4.trans (KepS.below (rb := rb) (cv := cv1) (av := av1) hb5)
  obtain ⟨u0, u1, u2, u3, u4, u5, u6, u7, _⟩ := eight_of (alloc_at w4 (.cells #[.bool bv, .int .i64 nv, .int .u8 kv, .int .i64 mv, .string sv, .slice av lv cv', .int .i64 iv, .slice av2 lv2 cv2] 71))
  have G := goes_c rb 0 _ hR5.at.1
  have hs4 := hK4.size
  go_wp2_with fail
  refine G.mono ?_
  rintro e' w6 ⟨rfl, rfl⟩
  have hl5 : (w4.alloc (.cells #[.bool bv, .int .i64 nv, .int .u8 kv, .int .i64 mv, .string sv, .slice av lv cv', .int .i64 iv, .slice av2 lv2 cv2] 71)).heap.size = w4.heap.size + 1 := by simp
  generalize w4.alloc (.cells #[.bool bv, .int .i64 nv, .int .u8 kv, .int .i64 mv, .string sv, .slice av lv cv', .int .i64 iv, .slice av2 lv2 cv2] 71) = w5 at hR5 hK3 u0 u1 u2 u3 u4 u5 u6 u7 hl5 hb5 ⊢
  have x3 := hK3.cell sb x3
  have K3 := K2.trans hK3
  have H5 := K3.hide (X := X) (b := w.heap.size + 1) (Nat.le_succ _)
  have f0 := K3.cell hg nb0
  have f1 := K3.cell hg nb1
  have f2 := K3.cell hg nb2
  have f3 := K3.cell hg nb3
  have g0 := K3.cell hg nc0
  have g1 := K3.cell hg nc1
  have g2 := K3.cell hg nc2
  have g3 := K3.cell hg nc3
  clear G e0 e1 e2 e3
  cases v with
  | clo j2 t2 e2 =>
    have hbv : bv = true := by cases hv; rfl
    subst hbv
    have ST := stop_live rb 1 w5 hR5.at.1 (hR5.fz 0)
    go_wp2_with fail
    refine ST.mono ?_
    rintro e' w6 ⟨rfl, hw6⟩
    have hD5 : DeadS (AndX X (w.heap.size + 1)) rb (w5.setCell ⟨rb, 0, none⟩ (.int .i64 1)) 1 := (hR5.set (s' := s1) (en' := 1) 0 (.int .i64 1) (by decide) (by simp [runL]) rfl).dead (by decide)
    have hbz := (Below.refl _ (w5.setCell ⟨rb, 0, none⟩ (.int .i64 1))).alloc (Nat.le_refl _) (.cells #[.bool false, .int .i64 0, .int .u8 0, .int .i64 0, .string ⟨#[]⟩, .slice none 0 0, .int .i64 0, .slice none 0 0] 71)
    have hD6 := hD5.below hbz
    have hK6 := (hK3.set 0 (.int .i64 1)).trans (KepS.below (rb := rb) (cv := cv1) (av := av1) hbz)
    rw [← hw6] at hD6 hK6
    have hz6 := hfin _ _ _ hK6
    obtain ⟨t0, t1, t2, t3, t4, t5, t6, t7, tf⟩ := eight_of hz6
    clear hw6 hbz
    go_wp2_with fail
    have h8 := eight_of (set8_at hz6 (.bool false) (.int .i64 0) (.int .u8 0) (.int .i64 0) (.string ⟨#[]⟩) (.slice none 0 0) (.int .i64 0) (.slice none 0 0))
    obtain ⟨r0, r1, r2, r3, r4, r5, r6, r7, _⟩ := h8
    unfold set8 at r0 r1 r2 r3 r4 r5 r6 r7
    refine bodyPost_ret (v := zero8) (by simp [results, Tryz.results43, go_sem, r0, r1, r2, r3, r4, r5, r6, r7]) rfl ?_
    rw [HE.out]
    exact dead_out (Nat.le_succ _) hrb K2 ⟨rfl, hD6, _, _, hK6⟩
  | num k =>
    obtain ⟨rfl, rfl⟩ : bv = false ∧ nv = (k : Int) := by cases hv; exact ⟨rfl, rfl⟩
    by_cases hk : k = 0
    · have hk2 : ((k : Int) == 0) = true := by simp [hk]
      have C := ih (AndX X (w.heap.size + 1)) y (i + 1 + (parts x).length) e s1 rb cv1 av1 _ _ w5 hn3 hB3 hok.sel.2.1 hR5 (hkb.keep H5) (hE.keep H5)
      have HE2 := Lib.hid (show evB (ev n) (.sel x y z) i e s.step = ev n y (i + 1 + (parts x).length) e s1 from HE.out.trans (if_pos hk))
      clear HE
      have HE := HE2
      clear HE2 hk
      generalize ev n y (i + 1 + (parts x).length) e s1 = o2 at C HE
      go_wp2_with fail
      refine C.mono ?_
      intro e' w9 h
      rcases Ou.cases o2 with ⟨v2, s3, rfl⟩ | hbad2
      · obtain ⟨x9, cv9, av9, rfl, hv9, hR9, hK9⟩ := h
        obtain ⟨bq, nq, kq, mq, sq, aq, lq, cq, iq, aq2, lq2, cq2, rfl⟩ := hv9.form
        have hs9 := hK9.size
        have hz9 := hfin _ _ _ (hK3.trans hK9)
        obtain ⟨t0, t1, t2, t3, t4, t5, t6, t7, tf⟩ := eight_of hz9
        go_wp2_with fail
        have h8 := eight_of (set8_at hz9 (.bool bq) (.int .i64 nq) (.int .u8 kq) (.int .i64 mq) (.string sq) (.slice aq lq cq) (.int .i64 iq) (.slice aq2 lq2 cq2))
        obtain ⟨r0, r1, r2, r3, r4, r5, r6, r7, _⟩ := h8
        unfold set8 at r0 r1 r2 r3 r4 r5 r6 r7
        refine bodyPost_ret (v := v8 bq nq kq mq sq aq lq cq iq aq2 lq2 cq2) (by simp [results, Tryz.results43, go_sem, r0, r1, r2, r3, r4, r5, r6, r7]) rfl ?_
        rw [HE.out]
        exact sv_out hR (Nat.le_succ _) (by have := hK3.size; omega) hv9 hR9 ((K2.trans hK3).trans hK9) (hown _ _ _ (hK3.trans hK9))
      · obtain ⟨he, hD, cv9, av9, hK9⟩ := (sPost_bad hbad2 _ _ _ _ _ _).1 h
        rw [he]
        have hz9 := hfin _ _ _ (hK3.trans hK9)
        obtain ⟨t0, t1, t2, t3, t4, t5, t6, t7, tf⟩ := eight_of hz9
        go_wp2_with fail
        have h8 := eight_of (set8_at hz9 (.bool false) (.int .i64 0) (.int .u8 0) (.int .i64 0) (.string ⟨#[]⟩) (.slice none 0 0) (.int .i64 0) (.slice none 0 0))
        obtain ⟨r0, r1, r2, r3, r4, r5, r6, r7, _⟩ := h8
        unfold set8 at r0 r1 r2 r3 r4 r5 r6 r7
        refine bodyPost_ret (v := zero8) (by simp [results, Tryz.results43, go_sem, r0, r1, r2, r3, r4, r5, r6, r7]) rfl ?_
        rw [HE.out]
        exact (sPost_bad hbad2 _ _ _ _ _ _).2 (dead_out (Nat.le_succ _) hrb (K2.trans hK3) ⟨rfl, hD, _, _, hK9⟩)

    · have hk2 : ((k : Int) == 0) = false := by simp [hk]
      have C := ih (AndX X (w.heap.size + 1)) z (i + 1 + (parts x).length + (parts y).length) e s1 rb cv1 av1 _ _ w5 hn3 hB3 hok.sel.2.2 hR5 (hkc.keep H5) (hE.keep H5)
      have HE2 := Lib.hid (show evB (ev n) (.sel x y z) i e s.step = ev n z (i + 1 + (parts x).length + (parts y).length) e s1 from HE.out.trans (if_neg hk))
      clear HE
      have HE := HE2
      clear HE2 hk
      generalize ev n z (i + 1 + (parts x).length + (parts y).length) e s1 = o2 at C HE
      go_wp2_with fail
      refine C.mono ?_
      intro e' w9 h
      rcases Ou.cases o2 with ⟨v2, s3, rfl⟩ | hbad2
      · obtain ⟨x9, cv9, av9, rfl, hv9, hR9, hK9⟩ := h
        obtain ⟨bq, nq, kq, mq, sq, aq, lq, cq, iq, aq2, lq2, cq2, rfl⟩ := hv9.form
        have hs9 := hK9.size
        have hz9 := hfin _ _ _ (hK3.trans hK9)
        obtain ⟨t0, t1, t2, t3, t4, t5, t6, t7, tf⟩ := eight_of hz9
        go_wp2_with fail
        have h8 := eight_of (set8_at hz9 (.bool bq) (.int .i64 nq) (.int .u8 kq) (.int .i64 mq) (.string sq) (.slice aq lq cq) (.int .i64 iq) (.slice aq2 lq2 cq2))
        obtain ⟨r0, r1, r2, r3, r4, r5, r6, r7, _⟩ := h8
        unfold set8 at r0 r1 r2 r3 r4 r5 r6 r7
        refine bodyPost_ret (v := v8 bq nq kq mq sq aq lq cq iq aq2 lq2 cq2) (by simp [results, Tryz.results43, go_sem, r0, r1, r2, r3, r4, r5, r6, r7]) rfl ?_
        rw [HE.out]
        exact sv_out hR (Nat.le_succ _) (by have := hK3.size; omega) hv9 hR9 ((K2.trans hK3).trans hK9) (hown _ _ _ (hK3.trans hK9))
      · obtain ⟨he, hD, cv9, av9, hK9⟩ := (sPost_bad hbad2 _ _ _ _ _ _).1 h
        rw [he]
        have hz9 := hfin _ _ _ (hK3.trans hK9)
        obtain ⟨t0, t1, t2, t3, t4, t5, t6, t7, tf⟩ := eight_of hz9
        go_wp2_with fail
        have h8 := eight_of (set8_at hz9 (.bool false) (.int .i64 0) (.int .u8 0) (.int .i64 0) (.string ⟨#[]⟩) (.slice none 0 0) (.int .i64 0) (.slice none 0 0))
        obtain ⟨r0, r1, r2, r3, r4, r5, r6, r7, _⟩ := h8
        unfold set8 at r0 r1 r2 r3 r4 r5 r6 r7
        refine bodyPost_ret (v := zero8) (by simp [results, Tryz.results43, go_sem, r0, r1, r2, r3, r4, r5, r6, r7]) rfl ?_
        rw [HE.out]
        exact (sPost_bad hbad2 _ _ _ _ _ _).2 (dead_out (Nat.le_succ _) hrb (K2.trans hK3) ⟨rfl, hD, _, _, hK9⟩)

end Go.Proofs.YthjhpfcilaghgaaGreatDoor
