import Derived.Test.YthjhpfcilaghgaaGreatDoorSvH
import Derived.Deep.RegionHeld3
/- The specification's eval: names that are bound. Written by genS.py. -/
namespace Go.Proofs.YthjhpfcilaghgaaGreatDoor
open Go.RowKit Go.Shelf
open Ff
set_option linter.unusedVariables false
variable {X : Nat → Prop}
attribute [local irreducible] Calls

theorem KepS.plain {rb : Nat} {cv av cv1 av1 c2 a2 : Value} {w w1 w2 : World} (h : KepS rb cv av w cv1 av1 w1) (k : KepS rb .nilIface .nilIface w1 c2 a2 w2) : KepS rb cv av w cv1 av1 w2 :=
  ⟨k.os.trans h.os, k.tape.trans h.tape, k.output.trans h.output, Nat.le_trans h.size k.size, fun j hj hr hc ha => (k.block j (Nat.lt_of_lt_of_le hj h.size) hr (by simp [Value.ownBlock]) (by simp [Value.ownBlock])).trans (h.block j hj hr hc ha), h.own⟩
theorem sPost_kep {rb : Nat} {cv av : Value} {w w' : World} {o : Ou} {e' : Ending} (h : SPost X rb cv av w o e' w') : ∃ cv9 av9, KepS rb cv av w cv9 av9 w' := by
  cases o with
  | ok v s' => obtain ⟨x, cv', av', _, _, _, h⟩ := h; exact ⟨cv', av', h⟩
  | fault => obtain ⟨_, _, cv', av', h⟩ := h; exact ⟨cv', av', h⟩
  | long => obtain ⟨_, _, cv', av', h⟩ := h; exact ⟨cv', av', h⟩
set_option maxRecDepth 100000 in
set_option maxHeartbeats 8000000 in
theorem sev_bind (n : Nat) (ih : SEvC n) (c : UInt8) (v0 t : Tm) (i : Nat) (e : En) (s : St) (rb : Nat) (cv av tv vv : Value) (w : World) (hn : 1501 ≤ s.step.steps + n) (hs : s.steps < 1500) (hB : StB s) (hok : TmOk (.bind c v0 t) i e) (hR : RunS X rb cv av w s 0) (hP : RepN (SafeS X rb cv av w) w (.bind c v0 t) i tv) (hE : SE (SafeS X rb cv av w) w e vv) :
    Calls Tryz.prog 43 #[ptr rb, tv, vv] w (SPost X rb cv av w (evB (ev n) (.bind c v0 t) i e s.step)) := by
  obtain ⟨g, cap, rfl, hg, hkids⟩ := hP.head
  obtain ⟨ae, ce, rfl⟩ := hE.form
  have hlen := hok.room
  rw [← En.ents_len] at hlen
  have hB2 : StB s.step := ⟨hs, by simp only [St.step]; have := hB.calls; omega, by simp only [St.step]; have := hB.clos; omega, by simp only [St.step]; have := hB.capt; omega, hB.deepest, hB.depth, hB.called, hB.froms, hB.encl⟩
  have hcs : s.step.calls < s.step.steps := by simp only [St.step]; have := hB.calls; omega
  have hdep : s.step.depth = s.depth := rfl
  have hrb := hR.lt
  have hgl := hg.1
  show Calls Tryz.prog 43 #[ptr rb, .agg #[.int .u8 61, .int .i64 (i : Int), .string ⟨#[c]⟩, .slice (some ⟨g, 0, none⟩) 2 cap], .slice (some ae) e.ents.length ce] w _
  obtain ⟨ws, wb, x0, x1, x2, x3, z0, z1, z2, z3, z4, z5, z6, z7, zz⟩ := sW_facts w 61 (i : Int) ⟨#[c]⟩ (some ⟨g, 0, none⟩) 2 cap
  have hR1 := (hR.below wb).hide (b := w.heap.size + 1) (by omega)
  go_enter Tryz.func43, Tryz.ntmps43
  generalize hW : sW w 61 (i : Int) ⟨#[c]⟩ (some ⟨g, 0, none⟩) 2 cap = W at ws wb x0 x1 x2 x3 zz hR1
  unfold sW at hW
  obtain ⟨y0, y1, _⟩ := hR1.at
  have fz := hR1.fz
  have hR2 : RunS (AndX X (w.heap.size + 1)) rb cv av (W.setCell ⟨rb, 1, none⟩ (.int .i64 ((s.steps : Int) + 1))) s.step 0 := hR1.set 1 _ (by decide) (by simp [runL, St.step]) rfl
  have K2 := (KepS.below (rb := rb) (cv := cv) (av := av) wb).set 1 (.int .i64 ((s.steps : Int) + 1))
  have K12 := (KepS.refl rb cv av W).set 1 (.int .i64 ((s.steps : Int) + 1))
  have G := goes_c rb 0 _ hR2.at.1
  go_wp2_with fail
  refine G.mono ?_
  rintro e' w' ⟨rfl, rfl⟩
  clear G y0 y1 fz
  have o0 : rb ≠ w.heap.size := by omega
  have o1 : rb ≠ w.heap.size + 1 := by omega
  have x0 := (set_far W rb 1 (.int .i64 ((s.steps : Int) + 1)) w.heap.size 0 (Ne.symm o0)).trans x0
  have x1 := (set_far W rb 1 (.int .i64 ((s.steps : Int) + 1)) w.heap.size 1 (Ne.symm o0)).trans x1
  have x2 := (set_far W rb 1 (.int .i64 ((s.steps : Int) + 1)) w.heap.size 2 (Ne.symm o0)).trans x2
  have x3 := (set_far W rb 1 (.int .i64 ((s.steps : Int) + 1)) w.heap.size 3 (Ne.symm o0)).trans x3
  have zz := (Below.heap_setCell W ⟨rb, 1, none⟩ (.int .i64 ((s.steps : Int) + 1)) (w.heap.size + 1) (Ne.symm o1)).trans zz
  have hz : (W.setCell ⟨rb, 1, none⟩ (.int .i64 ((s.steps : Int) + 1))).heap.size = w.heap.size + 2 := by simp [ws]
  generalize (W.setCell ⟨rb, 1, none⟩ (.int .i64 ((s.steps : Int) + 1))) = w2 at hR2 K2 K12 x0 x1 x2 x3 zz hz ⊢
  have H2 := K2.hide (X := X) (b := w.heap.size + 1) (Nat.le_succ _)
  have hown : ∀ (cv2 av2 : Value) (w4 : World), KepS rb cv av w2 cv2 av2 w4 → ∀ j, cv2.ownBlock = some j ∨ av2.ownBlock = some j → j ≠ w.heap.size + 1 := fun cv2 av2 w4 hK j hj e => by
    rcases hK.own j hj with h | h | h
    · have := (hR.owns j (.inl h)).2; omega
    · have := (hR.owns j (.inr h)).2; omega
    · omega
  have sB : SafeS X rb cv av w2 (w.heap.size + 1) := hR.new (Nat.le_succ _) (by omega)
  have sb : SafeS X rb cv av w2 w.heap.size := hR.new (Nat.le_refl _) (by omega)
  have sg := (K2.safe hg).2
  have hfin : ∀ (cv2 av2 : Value) (w4 : World), KepS rb cv av w2 cv2 av2 w4 → w4.heap[w.heap.size + 1]? = some (.cells #[z0, z1, z2, z3, z4, z5, z6, z7] 71 (0, 0)) := fun cv2 av2 w4 hK => (hK.safe sB).1.trans zz
  obtain ⟨kka, mma, ssa, aaa, lla, cca, na0, na1, na2, na3, hka⟩ := skid (j := (i + 1)) hkids (k := 0) rfl (by rw [before_len0]) (q := 0) rfl
  have na0 : w.cell? ⟨g, 0, none⟩ = _ := na0
  have na1 : w.cell? ⟨g, 1, none⟩ = _ := na1
  have na2 : w.cell? ⟨g, 2, none⟩ = _ := na2
  have na3 : w.cell? ⟨g, 3, none⟩ = _ := na3
  obtain ⟨kkb, mmb, ssb, aab, llb, ccb, nb0, nb1, nb2, nb3, hkb⟩ := skid (j := (i + 1 + (parts v0).length)) hkids (k := 1) rfl (before1 rfl i) (q := 4) rfl
  have nb0 : w.cell? ⟨g, 4, none⟩ = _ := nb0
  have nb1 : w.cell? ⟨g, 5, none⟩ = _ := nb1
  have nb2 : w.cell? ⟨g, 6, none⟩ = _ := nb2
  have nb3 : w.cell? ⟨g, 7, none⟩ = _ := nb3
  have e0 := K2.cell hg na0
  have e1 := K2.cell hg na1
  have e2 := K2.cell hg na2
  have e3 := K2.cell hg na3
  have hW := ev_ok n _ _ _ s.step hok.bind.1
  have HE := Lib.hid (show evB (ev n) (.bind c v0 t) i e s.step = (ev n v0 (i + 1) e s.step).next fun x s => ev n t (i + 1 + (parts v0).length) (.cons c x e) s from rfl)
  have C := ih (AndX X (w.heap.size + 1)) v0 (i + 1) e s.step rb cv av _ _ w2 hn hB2 hok.bind.1 hR2 (hka.keep H2) (hE.keep H2)
  generalize ev n v0 (i + 1) e s.step = o at C HE hW
  go_wp2_with fail
  refine C.mono ?_
  intro e' w4 h
  clear C e0 e1 e2 e3
  rcases Ou.cases o with ⟨v, s1, rfl⟩ | hbad
  rotate_left
  · obtain ⟨he, hD, cv1, av1, hK4⟩ := (sPost_bad hbad _ _ _ _ _ _).1 h
    rw [he]
    obtain ⟨v, bv, nv, kv, mv, sv, av2, lv, cv2, iv, av3, lv3, cv3, hvv⟩ : ∃ v bv nv kv mv sv av2 lv cv2 iv av3 lv3 cv3, v = Vl.num 0 ∧ zero8 = v8 bv nv kv mv sv av2 lv cv2 iv av3 lv3 cv3 := ⟨_, _, _, _, _, _, _, _, _, _, _, _, _, rfl, rfl⟩
    obtain ⟨rfl, hz8⟩ := hvv
    have hv : ∀ S w, SV S w (.num 0) (v8 bv nv kv mv sv av2 lv cv2 iv av3 lv3 cv3) := fun S w => by rw [← hz8]; exact .num 0
    rw [hz8]
    obtain ⟨v, hvn⟩ : ∃ v, v = Vl.num 0 := ⟨_, rfl⟩
    rw [← hvn] at hv
    clear hvn hz8
    have hb5 := (Below.refl _ w4).alloc (Nat.le_refl _) (.cells #[.bool bv, .int .i64 nv, .int .u8 kv, .int .i64 mv, .string sv, .slice av2 lv cv2, .int .i64 iv, .slice av3 lv3 cv3] 71)
    have hK3 := hK4.trans (KepS.below (rb := rb) (cv := cv1) (av := av1) hb5)
    obtain ⟨u0, u1, u2, u3, u4, u5, u6, u7, _⟩ := eight_of (alloc_at w4 (.cells #[.bool bv, .int .i64 nv, .int .u8 kv, .int .i64 mv, .string sv, .slice av2 lv cv2, .int .i64 iv, .slice av3 lv3 cv3] 71))
    have hl5 : (w4.alloc (.cells #[.bool bv, .int .i64 nv, .int .u8 kv, .int .i64 mv, .string sv, .slice av2 lv cv2, .int .i64 iv, .slice av3 lv3 cv3] 71)).heap.size = w4.heap.size + 1 := by simp
    have hs4 := hK4.size
    go_wp2_with fail
    generalize w4.alloc (.cells #[.bool bv, .int .i64 nv, .int .u8 kv, .int .i64 mv, .string sv, .slice av2 lv cv2, .int .i64 iv, .slice av3 lv3 cv3] 71) = w5 at hb5 hK3 u0 u1 u2 u3 u4 u5 u6 u7 hl5 ⊢
    have x2 := hK3.cell sb x2
    have x3 := hK3.cell sb x3
    have K3 := K2.trans hK3
    have H5 := K3.hide (X := X) (b := w.heap.size + 1) (Nat.le_succ _)
    have f0 := K3.cell hg nb0
    have f1 := K3.cell hg nb1
    have f2 := K3.cell hg nb2
    have f3 := K3.cell hg nb3
    have sg5 := (K3.safe hg).2
    have sb5 := (hK3.safe sb).2
    have sz5 := (hK3.safe sB).2
    have hz5 := hfin _ _ _ hK3
    have e0 : g ≠ w.heap.size + 1 := by omega
    have e1 : w.heap.size ≠ w.heap.size + 1 := by omega
    have e2 : w4.heap.size ≠ w.heap.size + 1 := by omega
    have lg : g < w5.heap.size := by omega
    have lb : w.heap.size < w5.heap.size := by omega
    have l4 : w4.heap.size < w5.heap.size := by omega
    have six : ∀ w', Below w5.heap.size w5 w' → w'.cell? ⟨g, 4, none⟩ = some (.int .u8 kkb) ∧ w'.cell? ⟨g, 5, none⟩ = some (.int .i64 mmb) ∧ w'.cell? ⟨g, 6, none⟩ = some (.string ssb) ∧ w'.cell? ⟨g, 7, none⟩ = some (.slice aab llb ccb) ∧ w'.cell? ⟨w.heap.size, 2, none⟩ = some (.string ⟨#[c]⟩) ∧ w'.cell? ⟨w.heap.size, 3, none⟩ = some (.slice (some ⟨g, 0, none⟩) 2 cap) ∧ w'.cell? ⟨w4.heap.size, 0, none⟩ = some (.bool bv) ∧ w'.cell? ⟨w4.heap.size, 1, none⟩ = some (.int .i64 nv) ∧ w'.cell? ⟨w4.heap.size, 2, none⟩ = some (.int .u8 kv) ∧ w'.cell? ⟨w4.heap.size, 3, none⟩ = some (.int .i64 mv) ∧ w'.cell? ⟨w4.heap.size, 4, none⟩ = some (.string sv) ∧ w'.cell? ⟨w4.heap.size, 5, none⟩ = some (.slice av2 lv cv2) ∧ w'.cell? ⟨w4.heap.size, 6, none⟩ = some (.int .i64 iv) ∧ w'.cell? ⟨w4.heap.size, 7, none⟩ = some (.slice av3 lv3 cv3) := fun w' hb => ⟨(hb.cell (by exact lg)).trans f0, (hb.cell (by exact lg)).trans f1, (hb.cell (by exact lg)).trans f2, (hb.cell (by exact lg)).trans f3, (hb.cell (by exact lb)).trans x2, (hb.cell (by exact lb)).trans x3, (hb.cell (by exact l4)).trans u0, (hb.cell (by exact l4)).trans u1, (hb.cell (by exact l4)).trans u2, (hb.cell (by exact l4)).trans u3, (hb.cell (by exact l4)).trans u4, (hb.cell (by exact l4)).trans u5, (hb.cell (by exact l4)).trans u6, (hb.cell (by exact l4)).trans u7⟩
    have C2 : Calls Tryz.prog 34 #[.slice (some ae) e.ents.length ce, .string ⟨#[c]⟩, v8 bv nv kv mv sv av2 lv cv2 iv av3 lv3 cv3] w5.drew fun e' w' => ∃ y, e' = .returned y ∧ (∃ ay cy, y = .slice (some ay) (En.cons c v e).ents.length cy ∧ Below w5.heap.size w5 w' ∧ SE (fun q => SafeS (AndX X (w.heap.size + 1)) rb cv1 av1 w5 q ∨ w5.heap.size ≤ q ∧ q < w'.heap.size) w' (.cons c v e) (.slice (some ay) (En.cons c v e).ents.length cy)) ∧ w'.cell? ⟨g, 4, none⟩ = some (.int .u8 kkb) ∧ w'.cell? ⟨g, 5, none⟩ = some (.int .i64 mmb) ∧ w'.cell? ⟨g, 6, none⟩ = some (.string ssb) ∧ w'.cell? ⟨g, 7, none⟩ = some (.slice aab llb ccb) ∧ w'.cell? ⟨w.heap.size, 2, none⟩ = some (.string ⟨#[c]⟩) ∧ w'.cell? ⟨w.heap.size, 3, none⟩ = some (.slice (some ⟨g, 0, none⟩) 2 cap) ∧ w'.cell? ⟨w4.heap.size, 0, none⟩ = some (.bool bv) ∧ w'.cell? ⟨w4.heap.size, 1, none⟩ = some (.int .i64 nv) ∧ w'.cell? ⟨w4.heap.size, 2, none⟩ = some (.int .u8 kv) ∧ w'.cell? ⟨w4.heap.size, 3, none⟩ = some (.int .i64 mv) ∧ w'.cell? ⟨w4.heap.size, 4, none⟩ = some (.string sv) ∧ w'.cell? ⟨w4.heap.size, 5, none⟩ = some (.slice av2 lv cv2) ∧ w'.cell? ⟨w4.heap.size, 6, none⟩ = some (.int .i64 iv) ∧ w'.cell? ⟨w4.heap.size, 7, none⟩ = some (.slice av3 lv3 cv3) := (swith_c (SafeS (AndX X (w.heap.size + 1)) rb cv1 av1 w5) e c v _ _ w5.drew (SE.keep (w := w5) (w' := w5.drew) (fun q hq => ⟨rfl, hq⟩) (hE.keep H5)) (hv _ _) (fun q hq => hq.1) (by omega)).mono (by
      rintro e' w' ⟨y, rfl, hb, hse⟩
      have hb2 : Below w5.heap.size w5 w' := ((Below.refl _ w5).drew).trans hb
      obtain ⟨ay, cy, rfl⟩ := hse.form
      exact ⟨_, rfl, ⟨ay, cy, rfl, hb2, hse⟩, six _ hb2⟩)
    obtain ⟨k0, k1, k2, k3, k4, k5, k6, k7, k8, k9, k10, k11, k12, k13⟩ := six _ ((Below.refl _ w5).drew)
    have hD5 := hD.below hb5
    have hbr : rb < w5.heap.size := by omega
    have sB0 : ∀ q, q < w5.heap.size → q ≠ rb → SafeS NoX rb .nilIface .nilIface w5 q := fun q h1 h2 => ⟨h1, h2, by simp [Value.ownBlock], by simp [Value.ownBlock], id⟩
    have D : ∀ w6 ay cy, Below w5.heap.size w5 w6 → Calls Tryz.prog 43 #[ptr rb, t4 kkb mmb ssb aab llb ccb, .slice (some ay) (En.cons c v e).ents.length cy] w6 fun e' w' => e' = .returned zero8 ∧ DeadS (AndX X (w.heap.size + 1)) rb w' (enO o) ∧ KepS rb cv av w2 cv1 av1 w' ∧ w'.heap[w.heap.size + 1]? = some (.cells #[z0, z1, z2, z3, z4, z5, z6, z7] 71 (0, 0)) ∧ w'.cell? ⟨g, 4, none⟩ = some (.int .u8 kkb) ∧ w'.cell? ⟨g, 5, none⟩ = some (.int .i64 mmb) ∧ w'.cell? ⟨g, 6, none⟩ = some (.string ssb) ∧ w'.cell? ⟨g, 7, none⟩ = some (.slice aab llb ccb) ∧ w'.cell? ⟨w.heap.size, 2, none⟩ = some (.string ⟨#[c]⟩) ∧ w'.cell? ⟨w.heap.size, 3, none⟩ = some (.slice (some ⟨g, 0, none⟩) 2 cap) ∧ w'.cell? ⟨w4.heap.size, 0, none⟩ = some (.bool bv) ∧ w'.cell? ⟨w4.heap.size, 1, none⟩ = some (.int .i64 nv) ∧ w'.cell? ⟨w4.heap.size, 2, none⟩ = some (.int .u8 kv) ∧ w'.cell? ⟨w4.heap.size, 3, none⟩ = some (.int .i64 mv) ∧ w'.cell? ⟨w4.heap.size, 4, none⟩ = some (.string sv) ∧ w'.cell? ⟨w4.heap.size, 5, none⟩ = some (.slice av2 lv cv2) ∧ w'.cell? ⟨w4.heap.size, 6, none⟩ = some (.int .i64 iv) ∧ w'.cell? ⟨w4.heap.size, 7, none⟩ = some (.slice av3 lv3 cv3) := by
      intro w6 ay cy hb6
      refine (dead_eval rb (enO o) _ _ _ _ _ _ _ _ _ .nilIface .nilIface w6 (hD5.below hb6)).mono ?_
      rintro e' w' ⟨rfl, hD7, cv7, av7, hK7⟩
      have q1 := (KepS.below (rb := rb) (cv := .nilIface) (av := .nilIface) hb6).trans hK7
      exact ⟨rfl, hD7, hK3.plain q1, (q1.safe (sB0 (w.heap.size + 1) (by omega) (by omega))).1.trans hz5, q1.cell (sB0 g lg hg.2.1) f0, q1.cell (sB0 g lg hg.2.1) f1, q1.cell (sB0 g lg hg.2.1) f2, q1.cell (sB0 g lg hg.2.1) f3, q1.cell (sB0 w.heap.size lb (by omega)) x2, q1.cell (sB0 w.heap.size lb (by omega)) x3, q1.cell (sB0 w4.heap.size l4 (by omega)) u0, q1.cell (sB0 w4.heap.size l4 (by omega)) u1, q1.cell (sB0 w4.heap.size l4 (by omega)) u2, q1.cell (sB0 w4.heap.size l4 (by omega)) u3, q1.cell (sB0 w4.heap.size l4 (by omega)) u4, q1.cell (sB0 w4.heap.size l4 (by omega)) u5, q1.cell (sB0 w4.heap.size l4 (by omega)) u6, q1.cell (sB0 w4.heap.size l4 (by omega)) u7⟩
    go_region_held3 (fun w' => w'.cell? ⟨g, 4, none⟩ = some (.int .u8 kkb) ∧ w'.cell? ⟨g, 5, none⟩ = some (.int .i64 mmb) ∧ w'.cell? ⟨g, 6, none⟩ = some (.string ssb) ∧ w'.cell? ⟨g, 7, none⟩ = some (.slice aab llb ccb) ∧ w'.cell? ⟨w.heap.size, 2, none⟩ = some (.string ⟨#[c]⟩) ∧ w'.cell? ⟨w.heap.size, 3, none⟩ = some (.slice (some ⟨g, 0, none⟩) 2 cap) ∧ w'.cell? ⟨w4.heap.size, 0, none⟩ = some (.bool bv) ∧ w'.cell? ⟨w4.heap.size, 1, none⟩ = some (.int .i64 nv) ∧ w'.cell? ⟨w4.heap.size, 2, none⟩ = some (.int .u8 kv) ∧ w'.cell? ⟨w4.heap.size, 3, none⟩ = some (.int .i64 mv) ∧ w'.cell? ⟨w4.heap.size, 4, none⟩ = some (.string sv) ∧ w'.cell? ⟨w4.heap.size, 5, none⟩ = some (.slice av2 lv cv2) ∧ w'.cell? ⟨w4.heap.size, 6, none⟩ = some (.int .i64 iv) ∧ w'.cell? ⟨w4.heap.size, 7, none⟩ = some (.slice av3 lv3 cv3))
      (first | (simp only [set_far _ _ _ _ _ _ e0, set_far _ _ _ _ _ _ e1, set_far _ _ _ _ _ _ e2]; refine ⟨?_, ?_, ?_, ?_, ?_, ?_, ?_, ?_, ?_, ?_, ?_, ?_, ?_, ?_⟩ <;> assumption) | (refine ⟨?_, ?_, ?_, ?_, ?_, ?_, ?_, ?_, ?_, ?_, ?_, ?_, ?_, ?_⟩ <;> assumption) | go_keep)
      (first | (refine C2.mono ?_; rintro e' w6 ⟨_, rfl, ⟨ay, cy, rfl, hb6, hSE⟩, k0, k1, k2, k3, k4, k5, k6, k7, k8, k9, k10, k11, k12, k13⟩) | (refine (D _ _ _ hb6).mono ?_; rintro e' w7 ⟨rfl, hD7, hK7, hz9, k0, k1, k2, k3, k4, k5, k6, k7, k8, k9, k10, k11, k12, k13⟩; obtain ⟨t0, t1, t2, t3, t4, t5, t6, t7, tf⟩ := eight_of hz9))
    go_wp2_with fail
    have h8 := eight_of (set8_at hz9 (.bool false) (.int .i64 0) (.int .u8 0) (.int .i64 0) (.string ⟨#[]⟩) (.slice none 0 0) (.int .i64 0) (.slice none 0 0))
    obtain ⟨r0, r1, r2, r3, r4, r5, r6, r7, _⟩ := h8
    unfold set8 at r0 r1 r2 r3 r4 r5 r6 r7
    refine bodyPost_ret (v := zero8) (by simp [results, Tryz.results43, go_sem, r0, r1, r2, r3, r4, r5, r6, r7]) rfl ?_
    rw [HE.out, Ou.next_bad hbad]
    exact (sPost_bad hbad _ _ _ _ _ _).2 (dead_out (Nat.le_succ _) hrb K2 ⟨rfl, hD7, _, _, hK7⟩)
  obtain ⟨hokv, hG⟩ := hW
  have hB3 := hB2.goes hG
  have hn3 : 1501 ≤ s1.steps + n := by have := hG.steps; omega
  obtain ⟨xv, cv1, av1, rfl, hv, hR4, hK4⟩ := h
  obtain ⟨bv, nv, kv, mv, sv, av2, lv, cv2, iv, av3, lv3, cv3, rfl⟩ := hv.form
  have hR5 := hR4.below ((Below.refl _ w4).alloc (Nat.le_refl _) (.cells #[.bool bv, .int .i64 nv, .int .u8 kv, .int .i64 mv, .string sv, .slice av2 lv cv2, .int .i64 iv, .slice av3 lv3 cv3] 71))
  have hv5 := hv.keep (fun q hq => (KepS.below (rb := rb) (cv := cv1) (av := av1) ((Below.refl _ w4).alloc (Nat.le_refl _) (.cells #[.bool bv, .int .i64 nv, .int .u8 kv, .int .i64 mv, .string sv, .slice av2 lv cv2, .int .i64 iv, .slice av3 lv3 cv3] 71))).safe hq)
  have hb5 := (Below.refl _ w4).alloc (Nat.le_refl _) (.cells #[.bool bv, .int .i64 nv, .int .u8 kv, .int .i64 mv, .string sv, .slice av2 lv cv2, .int .i64 iv, .slice av3 lv3 cv3] 71)
  have hK3 := hK4.trans (KepS.below (rb := rb) (cv := cv1) (av := av1) hb5)
  obtain ⟨u0, u1, u2, u3, u4, u5, u6, u7, _⟩ := eight_of (alloc_at w4 (.cells #[.bool bv, .int .i64 nv, .int .u8 kv, .int .i64 mv, .string sv, .slice av2 lv cv2, .int .i64 iv, .slice av3 lv3 cv3] 71))
  have hl5 : (w4.alloc (.cells #[.bool bv, .int .i64 nv, .int .u8 kv, .int .i64 mv, .string sv, .slice av2 lv cv2, .int .i64 iv, .slice av3 lv3 cv3] 71)).heap.size = w4.heap.size + 1 := by simp
  have hs4 := hK4.size
  go_wp2_with fail
  generalize w4.alloc (.cells #[.bool bv, .int .i64 nv, .int .u8 kv, .int .i64 mv, .string sv, .slice av2 lv cv2, .int .i64 iv, .slice av3 lv3 cv3] 71) = w5 at hb5 hK3 hR5 hv5 u0 u1 u2 u3 u4 u5 u6 u7 hl5 ⊢
  have x2 := hK3.cell sb x2
  have x3 := hK3.cell sb x3
  have K3 := K2.trans hK3
  have H5 := K3.hide (X := X) (b := w.heap.size + 1) (Nat.le_succ _)
  have f0 := K3.cell hg nb0
  have f1 := K3.cell hg nb1
  have f2 := K3.cell hg nb2
  have f3 := K3.cell hg nb3
  have sg5 := (K3.safe hg).2
  have sb5 := (hK3.safe sb).2
  have sz5 := (hK3.safe sB).2
  have hz5 := hfin _ _ _ hK3
  have e0 : g ≠ w.heap.size + 1 := by omega
  have e1 : w.heap.size ≠ w.heap.size + 1 := by omega
  have e2 : w4.heap.size ≠ w.heap.size + 1 := by omega
  have lg : g < w5.heap.size := by omega
  have lb : w.heap.size < w5.heap.size := by omega
  have l4 : w4.heap.size < w5.heap.size := by omega
  have six : ∀ w', Below w5.heap.size w5 w' → w'.cell? ⟨g, 4, none⟩ = some (.int .u8 kkb) ∧ w'.cell? ⟨g, 5, none⟩ = some (.int .i64 mmb) ∧ w'.cell? ⟨g, 6, none⟩ = some (.string ssb) ∧ w'.cell? ⟨g, 7, none⟩ = some (.slice aab llb ccb) ∧ w'.cell? ⟨w.heap.size, 2, none⟩ = some (.string ⟨#[c]⟩) ∧ w'.cell? ⟨w.heap.size, 3, none⟩ = some (.slice (some ⟨g, 0, none⟩) 2 cap) ∧ w'.cell? ⟨w4.heap.size, 0, none⟩ = some (.bool bv) ∧ w'.cell? ⟨w4.heap.size, 1, none⟩ = some (.int .i64 nv) ∧ w'.cell? ⟨w4.heap.size, 2, none⟩ = some (.int .u8 kv) ∧ w'.cell? ⟨w4.heap.size, 3, none⟩ = some (.int .i64 mv) ∧ w'.cell? ⟨w4.heap.size, 4, none⟩ = some (.string sv) ∧ w'.cell? ⟨w4.heap.size, 5, none⟩ = some (.slice av2 lv cv2) ∧ w'.cell? ⟨w4.heap.size, 6, none⟩ = some (.int .i64 iv) ∧ w'.cell? ⟨w4.heap.size, 7, none⟩ = some (.slice av3 lv3 cv3) := fun w' hb => ⟨(hb.cell (by exact lg)).trans f0, (hb.cell (by exact lg)).trans f1, (hb.cell (by exact lg)).trans f2, (hb.cell (by exact lg)).trans f3, (hb.cell (by exact lb)).trans x2, (hb.cell (by exact lb)).trans x3, (hb.cell (by exact l4)).trans u0, (hb.cell (by exact l4)).trans u1, (hb.cell (by exact l4)).trans u2, (hb.cell (by exact l4)).trans u3, (hb.cell (by exact l4)).trans u4, (hb.cell (by exact l4)).trans u5, (hb.cell (by exact l4)).trans u6, (hb.cell (by exact l4)).trans u7⟩
  have C2 : Calls Tryz.prog 34 #[.slice (some ae) e.ents.length ce, .string ⟨#[c]⟩, v8 bv nv kv mv sv av2 lv cv2 iv av3 lv3 cv3] w5.drew fun e' w' => ∃ y, e' = .returned y ∧ (∃ ay cy, y = .slice (some ay) (En.cons c v e).ents.length cy ∧ Below w5.heap.size w5 w' ∧ SE (fun q => SafeS (AndX X (w.heap.size + 1)) rb cv1 av1 w5 q ∨ w5.heap.size ≤ q ∧ q < w'.heap.size) w' (.cons c v e) (.slice (some ay) (En.cons c v e).ents.length cy)) ∧ w'.cell? ⟨g, 4, none⟩ = some (.int .u8 kkb) ∧ w'.cell? ⟨g, 5, none⟩ = some (.int .i64 mmb) ∧ w'.cell? ⟨g, 6, none⟩ = some (.string ssb) ∧ w'.cell? ⟨g, 7, none⟩ = some (.slice aab llb ccb) ∧ w'.cell? ⟨w.heap.size, 2, none⟩ = some (.string ⟨#[c]⟩) ∧ w'.cell? ⟨w.heap.size, 3, none⟩ = some (.slice (some ⟨g, 0, none⟩) 2 cap) ∧ w'.cell? ⟨w4.heap.size, 0, none⟩ = some (.bool bv) ∧ w'.cell? ⟨w4.heap.size, 1, none⟩ = some (.int .i64 nv) ∧ w'.cell? ⟨w4.heap.size, 2, none⟩ = some (.int .u8 kv) ∧ w'.cell? ⟨w4.heap.size, 3, none⟩ = some (.int .i64 mv) ∧ w'.cell? ⟨w4.heap.size, 4, none⟩ = some (.string sv) ∧ w'.cell? ⟨w4.heap.size, 5, none⟩ = some (.slice av2 lv cv2) ∧ w'.cell? ⟨w4.heap.size, 6, none⟩ = some (.int .i64 iv) ∧ w'.cell? ⟨w4.heap.size, 7, none⟩ = some (.slice av3 lv3 cv3) := (swith_c (SafeS (AndX X (w.heap.size + 1)) rb cv1 av1 w5) e c v _ _ w5.drew (SE.keep (w := w5) (w' := w5.drew) (fun q hq => ⟨rfl, hq⟩) (hE.keep H5)) (SV.keep (w := w5) (w' := w5.drew) (fun q hq => ⟨rfl, hq⟩) hv5) (fun q hq => hq.1) (by omega)).mono (by
    rintro e' w' ⟨y, rfl, hb, hse⟩
    have hb2 : Below w5.heap.size w5 w' := ((Below.refl _ w5).drew).trans hb
    obtain ⟨ay, cy, rfl⟩ := hse.form
    exact ⟨_, rfl, ⟨ay, cy, rfl, hb2, hse⟩, six _ hb2⟩)
  obtain ⟨k0, k1, k2, k3, k4, k5, k6, k7, k8, k9, k10, k11, k12, k13⟩ := six _ ((Below.refl _ w5).drew)
  have s45 : SafeS (AndX X (w.heap.size + 1)) rb cv1 av1 w5 w4.heap.size := hR4.new (Nat.le_refl _) l4
  obtain ⟨o2, ho2⟩ : ∃ o, ev n t (i + 1 + (parts v0).length) (.cons c v e) s1 = o := ⟨_, rfl⟩
  have HE2 := Lib.hid (show evB (ev n) (.bind c v0 t) i e s.step = o2 from HE.out.trans ho2)
  clear HE
  have HE := HE2
  clear HE2
  have D : ∀ w6 y, Below w5.heap.size w5 w6 → SE (fun q => SafeS (AndX X (w.heap.size + 1)) rb cv1 av1 w5 q ∨ w5.heap.size ≤ q ∧ q < w6.heap.size) w6 (.cons c v e) y → Calls Tryz.prog 43 #[ptr rb, t4 kkb mmb ssb aab llb ccb, y] w6 fun e' w' => SPost (AndX X (w.heap.size + 1)) rb cv1 av1 w6 o2 e' w' ∧ KepS rb cv av w2 cv1 av1 w6 ∧ w5.heap.size ≤ w6.heap.size ∧ w'.heap[w.heap.size + 1]? = some (.cells #[z0, z1, z2, z3, z4, z5, z6, z7] 71 (0, 0)) ∧ w'.cell? ⟨g, 4, none⟩ = some (.int .u8 kkb) ∧ w'.cell? ⟨g, 5, none⟩ = some (.int .i64 mmb) ∧ w'.cell? ⟨g, 6, none⟩ = some (.string ssb) ∧ w'.cell? ⟨g, 7, none⟩ = some (.slice aab llb ccb) ∧ w'.cell? ⟨w.heap.size, 2, none⟩ = some (.string ⟨#[c]⟩) ∧ w'.cell? ⟨w.heap.size, 3, none⟩ = some (.slice (some ⟨g, 0, none⟩) 2 cap) ∧ w'.cell? ⟨w4.heap.size, 0, none⟩ = some (.bool bv) ∧ w'.cell? ⟨w4.heap.size, 1, none⟩ = some (.int .i64 nv) ∧ w'.cell? ⟨w4.heap.size, 2, none⟩ = some (.int .u8 kv) ∧ w'.cell? ⟨w4.heap.size, 3, none⟩ = some (.int .i64 mv) ∧ w'.cell? ⟨w4.heap.size, 4, none⟩ = some (.string sv) ∧ w'.cell? ⟨w4.heap.size, 5, none⟩ = some (.slice av2 lv cv2) ∧ w'.cell? ⟨w4.heap.size, 6, none⟩ = some (.int .i64 iv) ∧ w'.cell? ⟨w4.heap.size, 7, none⟩ = some (.slice av3 lv3 cv3) := by
    intro w6 y hb6 hse
    have kb := KepS.below (rb := rb) (cv := cv1) (av := av1) hb6
    have hR6 := hR5.below hb6
    have C3 := ih (AndX X (w.heap.size + 1)) t (i + 1 + (parts v0).length) (.cons c v e) s1 rb cv1 av1 _ y w6 hn3 hB3 (hok.bind.2 v hokv) hR6 ((hkb.keep H5).keep (fun q hq => kb.safe hq)) (hse.keep (fun q hq => ⟨rfl, hq.elim (fun h => (kb.safe h).2) (fun h => hR5.new h.1 h.2)⟩))
    rw [ho2] at C3
    refine C3.mono ?_
    intro e' w' h
    obtain ⟨cv9, av9, hk⟩ : ∃ cv9 av9, KepS rb cv1 av1 w6 cv9 av9 w' := sPost_kep h
    have q1 := kb.trans hk
    exact ⟨h, hK3.trans kb, hb6.size, hfin _ _ _ (hK3.trans q1), q1.cell sg5 f0, q1.cell sg5 f1, q1.cell sg5 f2, q1.cell sg5 f3, q1.cell sb5 x2, q1.cell sb5 x3, q1.cell s45 u0, q1.cell s45 u1, q1.cell s45 u2, q1.cell s45 u3, q1.cell s45 u4, q1.cell s45 u5, q1.cell s45 u6, q1.cell s45 u7⟩
  clear ho2
  rcases Ou.cases o2 with ⟨v2, s2, rfl⟩ | hbad
  · go_region_held3 (fun w' => w'.cell? ⟨g, 4, none⟩ = some (.int .u8 kkb) ∧ w'.cell? ⟨g, 5, none⟩ = some (.int .i64 mmb) ∧ w'.cell? ⟨g, 6, none⟩ = some (.string ssb) ∧ w'.cell? ⟨g, 7, none⟩ = some (.slice aab llb ccb) ∧ w'.cell? ⟨w.heap.size, 2, none⟩ = some (.string ⟨#[c]⟩) ∧ w'.cell? ⟨w.heap.size, 3, none⟩ = some (.slice (some ⟨g, 0, none⟩) 2 cap) ∧ w'.cell? ⟨w4.heap.size, 0, none⟩ = some (.bool bv) ∧ w'.cell? ⟨w4.heap.size, 1, none⟩ = some (.int .i64 nv) ∧ w'.cell? ⟨w4.heap.size, 2, none⟩ = some (.int .u8 kv) ∧ w'.cell? ⟨w4.heap.size, 3, none⟩ = some (.int .i64 mv) ∧ w'.cell? ⟨w4.heap.size, 4, none⟩ = some (.string sv) ∧ w'.cell? ⟨w4.heap.size, 5, none⟩ = some (.slice av2 lv cv2) ∧ w'.cell? ⟨w4.heap.size, 6, none⟩ = some (.int .i64 iv) ∧ w'.cell? ⟨w4.heap.size, 7, none⟩ = some (.slice av3 lv3 cv3))
      (first | (simp only [set_far _ _ _ _ _ _ e0, set_far _ _ _ _ _ _ e1, set_far _ _ _ _ _ _ e2]; refine ⟨?_, ?_, ?_, ?_, ?_, ?_, ?_, ?_, ?_, ?_, ?_, ?_, ?_, ?_⟩ <;> assumption) | (refine ⟨?_, ?_, ?_, ?_, ?_, ?_, ?_, ?_, ?_, ?_, ?_, ?_, ?_, ?_⟩ <;> assumption) | go_keep)
      (first | (refine C2.mono ?_; rintro e' w6 ⟨_, rfl, ⟨ay, cy, rfl, hb6, hSE⟩, k0, k1, k2, k3, k4, k5, k6, k7, k8, k9, k10, k11, k12, k13⟩) | (refine (D _ _ hb6 hSE).mono ?_; rintro e' w7 ⟨⟨x, cv9, av9, rfl, hv9, hR9, hK9⟩, hKw, hsz, hz9, k0, k1, k2, k3, k4, k5, k6, k7, k8, k9, k10, k11, k12, k13⟩; obtain ⟨bq, nq, kq, mq, sq, aq, lq, cq, iq, aq2, lq2, cq2, rfl⟩ := hv9.form; obtain ⟨t0, t1, t2, t3, t4, t5, t6, t7, tf⟩ := eight_of hz9))
    have hs9 := hK9.size
    go_wp2_with fail
    have h8 := eight_of (set8_at hz9 (.bool bq) (.int .i64 nq) (.int .u8 kq) (.int .i64 mq) (.string sq) (.slice aq lq cq) (.int .i64 iq) (.slice aq2 lq2 cq2))
    obtain ⟨r0, r1, r2, r3, r4, r5, r6, r7, _⟩ := h8
    unfold set8 at r0 r1 r2 r3 r4 r5 r6 r7
    refine bodyPost_ret (v := v8 bq nq kq mq sq aq lq cq iq aq2 lq2 cq2) (by simp [results, Tryz.results43, go_sem, r0, r1, r2, r3, r4, r5, r6, r7]) rfl ?_
    rw [HE.out]
    exact sv_out hR (Nat.le_succ _) (by omega) hv9 hR9 ((K2.trans hKw).trans hK9) (hown _ _ _ (hKw.trans hK9))
  · go_region_held3 (fun w' => w'.cell? ⟨g, 4, none⟩ = some (.int .u8 kkb) ∧ w'.cell? ⟨g, 5, none⟩ = some (.int .i64 mmb) ∧ w'.cell? ⟨g, 6, none⟩ = some (.string ssb) ∧ w'.cell? ⟨g, 7, none⟩ = some (.slice aab llb ccb) ∧ w'.cell? ⟨w.heap.size, 2, none⟩ = some (.string ⟨#[c]⟩) ∧ w'.cell? ⟨w.heap.size, 3, none⟩ = some (.slice (some ⟨g, 0, none⟩) 2 cap) ∧ w'.cell? ⟨w4.heap.size, 0, none⟩ = some (.bool bv) ∧ w'.cell? ⟨w4.heap.size, 1, none⟩ = some (.int .i64 nv) ∧ w'.cell? ⟨w4.heap.size, 2, none⟩ = some (.int .u8 kv) ∧ w'.cell? ⟨w4.heap.size, 3, none⟩ = some (.int .i64 mv) ∧ w'.cell? ⟨w4.heap.size, 4, none⟩ = some (.string sv) ∧ w'.cell? ⟨w4.heap.size, 5, none⟩ = some (.slice av2 lv cv2) ∧ w'.cell? ⟨w4.heap.size, 6, none⟩ = some (.int .i64 iv) ∧ w'.cell? ⟨w4.heap.size, 7, none⟩ = some (.slice av3 lv3 cv3))
      (first | (simp only [set_far _ _ _ _ _ _ e0, set_far _ _ _ _ _ _ e1, set_far _ _ _ _ _ _ e2]; refine ⟨?_, ?_, ?_, ?_, ?_, ?_, ?_, ?_, ?_, ?_, ?_, ?_, ?_, ?_⟩ <;> assumption) | (refine ⟨?_, ?_, ?_, ?_, ?_, ?_, ?_, ?_, ?_, ?_, ?_, ?_, ?_, ?_⟩ <;> assumption) | go_keep)
      (first | (refine C2.mono ?_; rintro e' w6 ⟨_, rfl, ⟨ay, cy, rfl, hb6, hSE⟩, k0, k1, k2, k3, k4, k5, k6, k7, k8, k9, k10, k11, k12, k13⟩) | (refine (D _ _ hb6 hSE).mono ?_; rintro e' w7 ⟨h9, hKw, hsz, hz9, k0, k1, k2, k3, k4, k5, k6, k7, k8, k9, k10, k11, k12, k13⟩; obtain ⟨he, hD, cv9, av9, hK9⟩ := (sPost_bad hbad _ _ _ _ _ _).1 h9; subst he; obtain ⟨t0, t1, t2, t3, t4, t5, t6, t7, tf⟩ := eight_of hz9))
    go_wp2_with fail
    have h8 := eight_of (set8_at hz9 (.bool false) (.int .i64 0) (.int .u8 0) (.int .i64 0) (.string ⟨#[]⟩) (.slice none 0 0) (.int .i64 0) (.slice none 0 0))
    obtain ⟨r0, r1, r2, r3, r4, r5, r6, r7, _⟩ := h8
    unfold set8 at r0 r1 r2 r3 r4 r5 r6 r7
    refine bodyPost_ret (v := zero8) (by simp [results, Tryz.results43, go_sem, r0, r1, r2, r3, r4, r5, r6, r7]) rfl ?_
    rw [HE.out]
    exact (sPost_bad hbad _ _ _ _ _ _).2 (dead_out (Nat.le_succ _) hrb (K2.trans hKw) ⟨rfl, hD, _, _, hK9⟩)
end Go.Proofs.YthjhpfcilaghgaaGreatDoor
