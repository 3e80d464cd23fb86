import Derived.Test.YtjfhncfbejephaaGreatDoorMVb
import Derived.Deep.RegionWith
/- The specification's eval: functions. Written by genS.py. -/
namespace Go.Proofs.YtjfhncfbejephaaGreatDoor
open Go.RowKit Go.Shelf
open Ff
set_option linter.unusedVariables false
variable {X : Nat → Prop}
attribute [local irreducible] Calls

set_option maxRecDepth 100000 in
set_option maxHeartbeats 8000000 in
theorem sev_fn (n : Nat) (ih : SEvC n) (c : UInt8) (b0 : Tm) (i : Nat) (e : En) (s : St) (rb : Nat) (cv av tv vv : Value) (w : World) (hn : 1501 ≤ s.step.steps + n) (hs : s.steps < 1500) (hB : StB s) (hok : TmOk (.fn c b0) i e) (hR : RunS X rb cv av w s 0) (hP : RepN (SafeS X rb cv av w) w (.fn c b0) i tv) (hE : SE (SafeS X rb cv av w) w e vv) :
    Calls Tryz.prog 47 #[ptr rb, tv, vv] w (SPost X rb cv av w (evB (ev n) (.fn c b0) i e s.step)) := by
  obtain ⟨g, cap, rfl, hg, hkids⟩ := hP.head
  obtain ⟨ae, ce, rfl⟩ := hE.form
  have hlen := hok.room
  rw [← En.ents_len] at hlen
  have hB2 : StB s.step := ⟨hs, by simp only [St.step]; have := hB.calls; omega, by simp only [St.step]; have := hB.clos; omega, by simp only [St.step]; have := hB.capt; omega, hB.deepest, hB.depth, hB.called, hB.froms, hB.encl⟩
  have hcs : s.step.calls < s.step.steps := by simp only [St.step]; have := hB.calls; omega
  have hdep : s.step.depth = s.depth := rfl
  have hrb := hR.lt
  have hgl := hg.1
  show Calls Tryz.prog 47 #[ptr rb, .agg #[.int .u8 92, .int .i64 (i : Int), .string ⟨#[c]⟩, .slice (some ⟨g, 0, none⟩) 1 cap], .slice (some ae) e.ents.length ce] w _
  obtain ⟨ws, wb, x0, x1, x2, x3, z0, z1, z2, z3, z4, z5, z6, z7, zz⟩ := sW_facts w 92 (i : Int) ⟨#[c]⟩ (some ⟨g, 0, none⟩) 1 cap
  have hR1 := (hR.below wb).hide (b := w.heap.size + 1) (by omega)
  go_enter Tryz.func47, Tryz.ntmps47
  generalize hW : sW w 92 (i : Int) ⟨#[c]⟩ (some ⟨g, 0, none⟩) 1 cap = W at ws wb x0 x1 x2 x3 zz hR1
  unfold sW at hW
  obtain ⟨y0, y1, _⟩ := hR1.at
  have fz := hR1.fz
  have hR2 : RunS (AndX X (w.heap.size + 1)) rb cv av (W.setCell ⟨rb, 1, none⟩ (.int .i64 ((s.steps : Int) + 1))) s.step 0 := hR1.set 1 _ (by decide) (by simp [runL, St.step]) rfl
  have K2 := (KepS.below (rb := rb) (cv := cv) (av := av) wb).set 1 (.int .i64 ((s.steps : Int) + 1))
  have K12 := (KepS.refl rb cv av W).set 1 (.int .i64 ((s.steps : Int) + 1))
  have G := goes_c rb 0 _ hR2.at.1
  go_wp2_with fail
  refine G.mono ?_
  rintro e' w' ⟨rfl, rfl⟩
  clear G y0 y1 fz
  have o0 : rb ≠ w.heap.size := by omega
  have o1 : rb ≠ w.heap.size + 1 := by omega
  have x0 := (set_far W rb 1 (.int .i64 ((s.steps : Int) + 1)) w.heap.size 0 (Ne.symm o0)).trans x0
  have x1 := (set_far W rb 1 (.int .i64 ((s.steps : Int) + 1)) w.heap.size 1 (Ne.symm o0)).trans x1
  have x2 := (set_far W rb 1 (.int .i64 ((s.steps : Int) + 1)) w.heap.size 2 (Ne.symm o0)).trans x2
  have x3 := (set_far W rb 1 (.int .i64 ((s.steps : Int) + 1)) w.heap.size 3 (Ne.symm o0)).trans x3
  have zz := (Below.heap_setCell W ⟨rb, 1, none⟩ (.int .i64 ((s.steps : Int) + 1)) (w.heap.size + 1) (Ne.symm o1)).trans zz
  have hz : (W.setCell ⟨rb, 1, none⟩ (.int .i64 ((s.steps : Int) + 1))).heap.size = w.heap.size + 2 := by simp [ws]
  generalize (W.setCell ⟨rb, 1, none⟩ (.int .i64 ((s.steps : Int) + 1))) = w2 at hR2 K2 K12 x0 x1 x2 x3 zz hz ⊢
  have H2 := K2.hide (X := X) (b := w.heap.size + 1) (Nat.le_succ _)
  have hown : ∀ (cv2 av2 : Value) (w4 : World), KepS rb cv av w2 cv2 av2 w4 → ∀ j, cv2.ownBlock = some j ∨ av2.ownBlock = some j → j ≠ w.heap.size + 1 := fun cv2 av2 w4 hK j hj e => by
    rcases hK.own j hj with h | h | h
    · have := (hR.owns j (.inl h)).2; omega
    · have := (hR.owns j (.inr h)).2; omega
    · omega
  have sB : SafeS X rb cv av w2 (w.heap.size + 1) := hR.new (Nat.le_succ _) (by omega)
  have sb : SafeS X rb cv av w2 w.heap.size := hR.new (Nat.le_refl _) (by omega)
  have sg := (K2.safe hg).2
  have hfin : ∀ (cv2 av2 : Value) (w4 : World), KepS rb cv av w2 cv2 av2 w4 → w4.heap[w.heap.size + 1]? = some (.cells #[z0, z1, z2, z3, z4, z5, z6, z7] 114 (0, 0)) := fun cv2 av2 w4 hK => (hK.safe sB).1.trans zz
  have hi : i < 200 := by have h1 := hok.place; have h2 : 0 < (parts (.fn c b0)).length := by simp [parts]
                          omega
  obtain ⟨y0, y1, y2, y3, y4, y5, y6, y7, y8⟩ := hR2.at
  have fz := hR2.fz
  obtain ⟨nm, hm⟩ := hR2.made i hi
  have hst : s.step.clos ≤ 1500 := by have := hB2.clos; have := hB2.steps; omega
  have hct : s.step.capt ≤ 24000 := by have := hB2.capt; have := hB2.steps; omega
  have m1 : 9 + i ≠ 3 := by omega
  have m2 : (3 : Nat) ≠ 9 + i := by omega
  have hm3 : (w2.setCell ⟨rb, 3, none⟩ (.int .i64 ((s.step.clos : Int) + 1))).cell? ⟨rb, 9 + i, none⟩ = some (.int .i64 nm) := (set_off _ _ _ _ _ m1).trans hm
  have hR3 : RunS (AndX X (w.heap.size + 1)) rb cv av (w2.setCell ⟨rb, 3, none⟩ (.int .i64 ((s.step.clos : Int) + 1))) { s.step with clos := s.step.clos + 1 } 0 := hR2.set 3 _ (by decide) (by simp [runL]) rfl
  have fz3 := hR3.fz
  have x13 := (set_far w2 rb 3 (.int .i64 ((s.step.clos : Int) + 1)) w.heap.size 1 (Ne.symm o0)).trans x1
  go_wp2_with fail
  have K3 := (KepS.refl rb cv av w2).set 3 (.int .i64 ((s.step.clos : Int) + 1))
  have sbb := (K3.safe sb)
  generalize (w2.setCell ⟨rb, 3, none⟩ (.int .i64 ((s.step.clos : Int) + 1))) = w3 at hm3 hR3 fz3 x13 K3 sbb ⊢
  go_region
  have hR4 := (hR3.setMade i (wrap64 (nm + 1)) hi).below ((Below.refl _ _).drew)
  have K4 := (K3.set (9 + i) (.int .i64 (wrap64 (nm + 1)))).trans (KepS.below (rb := rb) (cv := cv) (av := av) ((Below.refl _ _).drew))
  go_wp2_with fail
  generalize (w3.setCell ⟨rb, 9 + i, none⟩ (.int .i64 (wrap64 (nm + 1)))).drew = w4 at hR4 K4 ⊢
  have q0 := K4.cell sb x0
  have q1 := K4.cell sb x1
  have q2 := K4.cell sb x2
  have q3 := K4.cell sb x3
  obtain ⟨_, _, _, _, c4, _⟩ := hR4.at
  have fz4 := hR4.fz
  have K24 := K2.trans K4
  have hs4 := K4.size
  have lb : w.heap.size < w4.heap.size := by omega
  have lrb : rb < w4.heap.size := by omega
  have hlen2 := sfree_len (.fn c b0)
  have e5 : IntKind.i64.wrap ((s.step.capt : Int) + ((sfree (.fn c b0)).length : Int)) = (s.step.capt : Int) + ((sfree (.fn c b0)).length : Int) := by rw [IntKind.wrap_i64]; omega
  have HE5 := Lib.hid e5
  clear e5
  have H4 := K24.hide (X := X) (b := w.heap.size + 1) (Nat.le_succ _)
  have C0 := freeA_c 4000 (.fn c b0) w4.heap.size (.agg #[.int .u8 92, .int .i64 (i : Int), .string ⟨#[c]⟩, .slice (some ⟨g, 0, none⟩) 1 cap]) w4.drew (by have := hok.room; omega) (by omega) (hP.any.keep (S' := fun g => g < w4.heap.size) (fun g hg => (H4 g hg).1) (fun g hg => (H4 g hg).2.1)) (Nat.le_refl _) hok.good
  have C : Calls Tryz.prog 45 #[(.agg #[.int .u8 92, .int .i64 (i : Int), .string ⟨#[c]⟩, .slice (some ⟨g, 0, none⟩) 1 cap])] w4.drew fun e w' => ∃ y, e = .returned y ∧ y = .string ⟨(sfree (.fn c b0)).toArray⟩ ∧ Below w4.heap.size w4 w' ∧ w'.cell? ⟨rb, 4, none⟩ = some (.int .i64 (s.step.capt : Int)) ∧ w'.frozen? ⟨rb, 4, none⟩ = false ∧ w'.cell? ⟨w.heap.size, 0, none⟩ = some (.int .u8 92) ∧ w'.cell? ⟨w.heap.size, 1, none⟩ = some (.int .i64 (i : Int)) ∧ w'.cell? ⟨w.heap.size, 2, none⟩ = some (.string ⟨#[c]⟩) ∧ w'.cell? ⟨w.heap.size, 3, none⟩ = some (.slice (some ⟨g, 0, none⟩) 1 cap) := C0.mono (by
    rintro e' w' ⟨rfl, hb⟩
    have hb2 : Below w4.heap.size w4 w' := ((Below.refl _ w4).drew).trans hb
    exact ⟨_, rfl, rfl, hb2, (hb2.cell (by exact lrb)).trans c4, (hb2.frozen (by exact lrb)).trans (fz4 4), (hb2.cell (by exact lb)).trans q0, (hb2.cell (by exact lb)).trans q1, (hb2.cell (by exact lb)).trans q2, (hb2.cell (by exact lb)).trans q3⟩)
  clear C0
  go_region_with (first | (go_at_call 45; refine C.mono ?_; rintro e' w5 ⟨_, rfl, rfl, hb5, c5, fz5, q0, q1, q2, q3⟩))
  all_goals
    rw [HE5.out]
    have hR6 := (hR4.below hb5).set (s' := s.step.made i (sfree (.fn c b0)).length) (en' := 0) 4 (.int .i64 ((s.step.capt : Int) + ((sfree (.fn c b0)).length : Int))) (by decide) (by simp [runL, St.made]) rfl
    have K6 := ((K4.trans (KepS.below (rb := rb) (cv := cv) (av := av) hb5))).set 4 (.int .i64 ((s.step.capt : Int) + ((sfree (.fn c b0)).length : Int)))
    have q0 := (set_far w5 rb 4 (.int .i64 ((s.step.capt : Int) + ((sfree (.fn c b0)).length : Int))) w.heap.size 0 (Ne.symm o0)).trans q0
    have q1 := (set_far w5 rb 4 (.int .i64 ((s.step.capt : Int) + ((sfree (.fn c b0)).length : Int))) w.heap.size 1 (Ne.symm o0)).trans q1
    have q2 := (set_far w5 rb 4 (.int .i64 ((s.step.capt : Int) + ((sfree (.fn c b0)).length : Int))) w.heap.size 2 (Ne.symm o0)).trans q2
    have q3 := (set_far w5 rb 4 (.int .i64 ((s.step.capt : Int) + ((sfree (.fn c b0)).length : Int))) w.heap.size 3 (Ne.symm o0)).trans q3
    generalize (w5.setCell ⟨rb, 4, none⟩ (.int .i64 ((s.step.capt : Int) + ((sfree (.fn c b0)).length : Int)))) = w6 at hR6 K6 q0 q1 q2 q3 ⊢
    have hz6 := hfin _ _ _ K6
    have hs6 := K6.size
    have H6 := (K2.trans K6).hide (X := X) (b := w.heap.size + 1) (Nat.le_succ _)
    obtain ⟨t0, t1, t2, t3, t4, t5, t6, t7, tff⟩ := eight_of hz6
    go_wp2_with fail
    have h8 := eight_of (set8_at hz6 (.bool true) (.int .i64 0) (.int .u8 92) (.int .i64 (i : Int)) (.string ⟨#[c]⟩) (.slice (some ⟨g, 0, none⟩) 1 cap) (.int .i64 (i : Int)) (.slice (some ae) e.ents.length ce))
    obtain ⟨r0, r1, r2, r3, r4, r5, r6, r7, _⟩ := h8
    unfold set8 at r0 r1 r2 r3 r4 r5 r6 r7
    refine bodyPost_ret (v := v8 true 0 92 (i : Int) ⟨#[c]⟩ (some ⟨g, 0, none⟩) 1 cap (i : Int) (some ae) e.ents.length ce) (by simp [results, Tryz.results47, go_sem, r0, r1, r2, r3, r4, r5, r6, r7]) rfl ?_
    exact sv_out hR (Nat.le_succ _) (by omega) (.clo i (.fn c b0) e _ _ _ _ _ _ _ _ _ (hP.keep H6) (hE.keep H6)) hR6 (K2.trans K6) (hown _ _ _ K6)
set_option maxRecDepth 100000 in
set_option maxHeartbeats 8000000 in
theorem sev_fix (n : Nat) (ih : SEvC n) (f c : UInt8) (b0 : Tm) (i : Nat) (e : En) (s : St) (rb : Nat) (cv av tv vv : Value) (w : World) (hn : 1501 ≤ s.step.steps + n) (hs : s.steps < 1500) (hB : StB s) (hok : TmOk (.fix f c b0) i e) (hR : RunS X rb cv av w s 0) (hP : RepN (SafeS X rb cv av w) w (.fix f c b0) i tv) (hE : SE (SafeS X rb cv av w) w e vv) :
    Calls Tryz.prog 47 #[ptr rb, tv, vv] w (SPost X rb cv av w (evB (ev n) (.fix f c b0) i e s.step)) := by
  obtain ⟨g, cap, rfl, hg, hkids⟩ := hP.head
  obtain ⟨ae, ce, rfl⟩ := hE.form
  have hlen := hok.room
  rw [← En.ents_len] at hlen
  have hB2 : StB s.step := ⟨hs, by simp only [St.step]; have := hB.calls; omega, by simp only [St.step]; have := hB.clos; omega, by simp only [St.step]; have := hB.capt; omega, hB.deepest, hB.depth, hB.called, hB.froms, hB.encl⟩
  have hcs : s.step.calls < s.step.steps := by simp only [St.step]; have := hB.calls; omega
  have hdep : s.step.depth = s.depth := rfl
  have hrb := hR.lt
  have hgl := hg.1
  show Calls Tryz.prog 47 #[ptr rb, .agg #[.int .u8 64, .int .i64 (i : Int), .string ⟨#[f, c]⟩, .slice (some ⟨g, 0, none⟩) 1 cap], .slice (some ae) e.ents.length ce] w _
  obtain ⟨ws, wb, x0, x1, x2, x3, z0, z1, z2, z3, z4, z5, z6, z7, zz⟩ := sW_facts w 64 (i : Int) ⟨#[f, c]⟩ (some ⟨g, 0, none⟩) 1 cap
  have hR1 := (hR.below wb).hide (b := w.heap.size + 1) (by omega)
  go_enter Tryz.func47, Tryz.ntmps47
  generalize hW : sW w 64 (i : Int) ⟨#[f, c]⟩ (some ⟨g, 0, none⟩) 1 cap = W at ws wb x0 x1 x2 x3 zz hR1
  unfold sW at hW
  obtain ⟨y0, y1, _⟩ := hR1.at
  have fz := hR1.fz
  have hR2 : RunS (AndX X (w.heap.size + 1)) rb cv av (W.setCell ⟨rb, 1, none⟩ (.int .i64 ((s.steps : Int) + 1))) s.step 0 := hR1.set 1 _ (by decide) (by simp [runL, St.step]) rfl
  have K2 := (KepS.below (rb := rb) (cv := cv) (av := av) wb).set 1 (.int .i64 ((s.steps : Int) + 1))
  have K12 := (KepS.refl rb cv av W).set 1 (.int .i64 ((s.steps : Int) + 1))
  have G := goes_c rb 0 _ hR2.at.1
  go_wp2_with fail
  refine G.mono ?_
  rintro e' w' ⟨rfl, rfl⟩
  clear G y0 y1 fz
  have o0 : rb ≠ w.heap.size := by omega
  have o1 : rb ≠ w.heap.size + 1 := by omega
  have x0 := (set_far W rb 1 (.int .i64 ((s.steps : Int) + 1)) w.heap.size 0 (Ne.symm o0)).trans x0
  have x1 := (set_far W rb 1 (.int .i64 ((s.steps : Int) + 1)) w.heap.size 1 (Ne.symm o0)).trans x1
  have x2 := (set_far W rb 1 (.int .i64 ((s.steps : Int) + 1)) w.heap.size 2 (Ne.symm o0)).trans x2
  have x3 := (set_far W rb 1 (.int .i64 ((s.steps : Int) + 1)) w.heap.size 3 (Ne.symm o0)).trans x3
  have zz := (Below.heap_setCell W ⟨rb, 1, none⟩ (.int .i64 ((s.steps : Int) + 1)) (w.heap.size + 1) (Ne.symm o1)).trans zz
  have hz : (W.setCell ⟨rb, 1, none⟩ (.int .i64 ((s.steps : Int) + 1))).heap.size = w.heap.size + 2 := by simp [ws]
  generalize (W.setCell ⟨rb, 1, none⟩ (.int .i64 ((s.steps : Int) + 1))) = w2 at hR2 K2 K12 x0 x1 x2 x3 zz hz ⊢
  have H2 := K2.hide (X := X) (b := w.heap.size + 1) (Nat.le_succ _)
  have hown : ∀ (cv2 av2 : Value) (w4 : World), KepS rb cv av w2 cv2 av2 w4 → ∀ j, cv2.ownBlock = some j ∨ av2.ownBlock = some j → j ≠ w.heap.size + 1 := fun cv2 av2 w4 hK j hj e => by
    rcases hK.own j hj with h | h | h
    · have := (hR.owns j (.inl h)).2; omega
    · have := (hR.owns j (.inr h)).2; omega
    · omega
  have sB : SafeS X rb cv av w2 (w.heap.size + 1) := hR.new (Nat.le_succ _) (by omega)
  have sb : SafeS X rb cv av w2 w.heap.size := hR.new (Nat.le_refl _) (by omega)
  have sg := (K2.safe hg).2
  have hfin : ∀ (cv2 av2 : Value) (w4 : World), KepS rb cv av w2 cv2 av2 w4 → w4.heap[w.heap.size + 1]? = some (.cells #[z0, z1, z2, z3, z4, z5, z6, z7] 114 (0, 0)) := fun cv2 av2 w4 hK => (hK.safe sB).1.trans zz
  have hi : i < 200 := by have h1 := hok.place; have h2 : 0 < (parts (.fix f c b0)).length := by simp [parts]
                          omega
  obtain ⟨y0, y1, y2, y3, y4, y5, y6, y7, y8⟩ := hR2.at
  have fz := hR2.fz
  obtain ⟨nm, hm⟩ := hR2.made i hi
  have hst : s.step.clos ≤ 1500 := by have := hB2.clos; have := hB2.steps; omega
  have hct : s.step.capt ≤ 24000 := by have := hB2.capt; have := hB2.steps; omega
  have m1 : 9 + i ≠ 3 := by omega
  have m2 : (3 : Nat) ≠ 9 + i := by omega
  have hm3 : (w2.setCell ⟨rb, 3, none⟩ (.int .i64 ((s.step.clos : Int) + 1))).cell? ⟨rb, 9 + i, none⟩ = some (.int .i64 nm) := (set_off _ _ _ _ _ m1).trans hm
  have hR3 : RunS (AndX X (w.heap.size + 1)) rb cv av (w2.setCell ⟨rb, 3, none⟩ (.int .i64 ((s.step.clos : Int) + 1))) { s.step with clos := s.step.clos + 1 } 0 := hR2.set 3 _ (by decide) (by simp [runL]) rfl
  have fz3 := hR3.fz
  have x13 := (set_far w2 rb 3 (.int .i64 ((s.step.clos : Int) + 1)) w.heap.size 1 (Ne.symm o0)).trans x1
  go_wp2_with fail
  have K3 := (KepS.refl rb cv av w2).set 3 (.int .i64 ((s.step.clos : Int) + 1))
  have sbb := (K3.safe sb)
  generalize (w2.setCell ⟨rb, 3, none⟩ (.int .i64 ((s.step.clos : Int) + 1))) = w3 at hm3 hR3 fz3 x13 K3 sbb ⊢
  go_region
  have hR4 := (hR3.setMade i (wrap64 (nm + 1)) hi).below ((Below.refl _ _).drew)
  have K4 := (K3.set (9 + i) (.int .i64 (wrap64 (nm + 1)))).trans (KepS.below (rb := rb) (cv := cv) (av := av) ((Below.refl _ _).drew))
  go_wp2_with fail
  generalize (w3.setCell ⟨rb, 9 + i, none⟩ (.int .i64 (wrap64 (nm + 1)))).drew = w4 at hR4 K4 ⊢
  have q0 := K4.cell sb x0
  have q1 := K4.cell sb x1
  have q2 := K4.cell sb x2
  have q3 := K4.cell sb x3
  obtain ⟨_, _, _, _, c4, _⟩ := hR4.at
  have fz4 := hR4.fz
  have K24 := K2.trans K4
  have hs4 := K4.size
  have lb : w.heap.size < w4.heap.size := by omega
  have lrb : rb < w4.heap.size := by omega
  have hlen2 := sfree_len (.fix f c b0)
  have e5 : IntKind.i64.wrap ((s.step.capt : Int) + ((sfree (.fix f c b0)).length : Int)) = (s.step.capt : Int) + ((sfree (.fix f c b0)).length : Int) := by rw [IntKind.wrap_i64]; omega
  have HE5 := Lib.hid e5
  clear e5
  have H4 := K24.hide (X := X) (b := w.heap.size + 1) (Nat.le_succ _)
  have C0 := freeA_c 4000 (.fix f c b0) w4.heap.size (.agg #[.int .u8 64, .int .i64 (i : Int), .string ⟨#[f, c]⟩, .slice (some ⟨g, 0, none⟩) 1 cap]) w4.drew (by have := hok.room; omega) (by omega) (hP.any.keep (S' := fun g => g < w4.heap.size) (fun g hg => (H4 g hg).1) (fun g hg => (H4 g hg).2.1)) (Nat.le_refl _) hok.good
  have C : Calls Tryz.prog 45 #[(.agg #[.int .u8 64, .int .i64 (i : Int), .string ⟨#[f, c]⟩, .slice (some ⟨g, 0, none⟩) 1 cap])] w4.drew fun e w' => ∃ y, e = .returned y ∧ y = .string ⟨(sfree (.fix f c b0)).toArray⟩ ∧ Below w4.heap.size w4 w' ∧ w'.cell? ⟨rb, 4, none⟩ = some (.int .i64 (s.step.capt : Int)) ∧ w'.frozen? ⟨rb, 4, none⟩ = false ∧ w'.cell? ⟨w.heap.size, 0, none⟩ = some (.int .u8 64) ∧ w'.cell? ⟨w.heap.size, 1, none⟩ = some (.int .i64 (i : Int)) ∧ w'.cell? ⟨w.heap.size, 2, none⟩ = some (.string ⟨#[f, c]⟩) ∧ w'.cell? ⟨w.heap.size, 3, none⟩ = some (.slice (some ⟨g, 0, none⟩) 1 cap) := C0.mono (by
    rintro e' w' ⟨rfl, hb⟩
    have hb2 : Below w4.heap.size w4 w' := ((Below.refl _ w4).drew).trans hb
    exact ⟨_, rfl, rfl, hb2, (hb2.cell (by exact lrb)).trans c4, (hb2.frozen (by exact lrb)).trans (fz4 4), (hb2.cell (by exact lb)).trans q0, (hb2.cell (by exact lb)).trans q1, (hb2.cell (by exact lb)).trans q2, (hb2.cell (by exact lb)).trans q3⟩)
  clear C0
  go_region_with (first | (go_at_call 45; refine C.mono ?_; rintro e' w5 ⟨_, rfl, rfl, hb5, c5, fz5, q0, q1, q2, q3⟩))
  all_goals
    rw [HE5.out]
    have hR6 := (hR4.below hb5).set (s' := s.step.made i (sfree (.fix f c b0)).length) (en' := 0) 4 (.int .i64 ((s.step.capt : Int) + ((sfree (.fix f c b0)).length : Int))) (by decide) (by simp [runL, St.made]) rfl
    have K6 := ((K4.trans (KepS.below (rb := rb) (cv := cv) (av := av) hb5))).set 4 (.int .i64 ((s.step.capt : Int) + ((sfree (.fix f c b0)).length : Int)))
    have q0 := (set_far w5 rb 4 (.int .i64 ((s.step.capt : Int) + ((sfree (.fix f c b0)).length : Int))) w.heap.size 0 (Ne.symm o0)).trans q0
    have q1 := (set_far w5 rb 4 (.int .i64 ((s.step.capt : Int) + ((sfree (.fix f c b0)).length : Int))) w.heap.size 1 (Ne.symm o0)).trans q1
    have q2 := (set_far w5 rb 4 (.int .i64 ((s.step.capt : Int) + ((sfree (.fix f c b0)).length : Int))) w.heap.size 2 (Ne.symm o0)).trans q2
    have q3 := (set_far w5 rb 4 (.int .i64 ((s.step.capt : Int) + ((sfree (.fix f c b0)).length : Int))) w.heap.size 3 (Ne.symm o0)).trans q3
    generalize (w5.setCell ⟨rb, 4, none⟩ (.int .i64 ((s.step.capt : Int) + ((sfree (.fix f c b0)).length : Int)))) = w6 at hR6 K6 q0 q1 q2 q3 ⊢
    have hz6 := hfin _ _ _ K6
    have hs6 := K6.size
    have H6 := (K2.trans K6).hide (X := X) (b := w.heap.size + 1) (Nat.le_succ _)
    obtain ⟨t0, t1, t2, t3, t4, t5, t6, t7, tff⟩ := eight_of hz6
    go_wp2_with fail
    have h8 := eight_of (set8_at hz6 (.bool true) (.int .i64 0) (.int .u8 64) (.int .i64 (i : Int)) (.string ⟨#[f, c]⟩) (.slice (some ⟨g, 0, none⟩) 1 cap) (.int .i64 (i : Int)) (.slice (some ae) e.ents.length ce))
    obtain ⟨r0, r1, r2, r3, r4, r5, r6, r7, _⟩ := h8
    unfold set8 at r0 r1 r2 r3 r4 r5 r6 r7
    refine bodyPost_ret (v := v8 true 0 64 (i : Int) ⟨#[f, c]⟩ (some ⟨g, 0, none⟩) 1 cap (i : Int) (some ae) e.ents.length ce) (by simp [results, Tryz.results47, go_sem, r0, r1, r2, r3, r4, r5, r6, r7]) rfl ?_
    exact sv_out hR (Nat.le_succ _) (by omega) (.clo i (.fix f c b0) e _ _ _ _ _ _ _ _ _ (hP.keep H6) (hE.keep H6)) hR6 (K2.trans K6) (hown _ _ _ K6)
end Go.Proofs.YtjfhncfbejephaaGreatDoor
