import Derived.Test.YtjfhncfbejephaaGreatDoorSvL
import Derived.Deep.RegionLaw
import Derived.Deep.RegionHeld3
/- The specification's eval: a call of a function that calls itself. Written by genS.py. -/
namespace Go.Proofs.YtjfhncfbejephaaGreatDoor
open Go.RowKit Go.Shelf
open Ff
set_option linter.unusedVariables false
variable {X : Nat → Prop}
attribute [local irreducible] Calls

set_option maxRecDepth 100000 in
set_option maxHeartbeats 8000000 in
theorem scall_fix (n : Nat) (ih : SEvC n) (f c : UInt8) (b0 : Tm) (j : Nat) (e : En) (vy : Vl) (s : St) (rb : Nat) (cv av : Value) (pp : Nat) (fv yv : Value) (w : World) (hn : 1501 ≤ s.steps + n) (hB : StB s) (hcs : s.calls < s.steps) (hox : VlOk (.clo j (.fix f c b0) e)) (hoy : VlOk vy) (hR : RunS X rb cv av w s 0) (hf : SV (SafeS X rb cv av w) w (.clo j (.fix f c b0) e) fv) (hy : SV (SafeS X rb cv av w) w vy yv) :
    Calls Tryz.prog 72 #[ptr rb, .int .i64 (pp : Int), fv, yv] w (SPost X rb cv av w (callV (ev n) pp (.clo j (.fix f c b0) e) vy s)) := by
  obtain ⟨bw, nw, kw, mw, sw, aw2, lw, cw2, iw, aw3, lw3, cw3, rfl⟩ := hy.form
  have hok := clo_body hox hoy
  have hlen := hok.room
  obtain ⟨h1, h2, h3, h4, h5, h6, h7, h8, h9⟩ := id hB
  have hcl2 : s.called.length ≤ 1500 := by omega
  clear h7 h8 h9
  have hF := Lib.hid hf
  cases hf with
  | clo _ _ _ k m ss0 a l cap a2 l2 ce ht he =>
  obtain ⟨g, cap', heq, hg, hkids⟩ := ht.head
  obtain ⟨ae, ce', heq2⟩ := he.form
  unfold tmHeadA at heq
  simp only [Value.agg.injEq, Array.mk.injEq, List.cons.injEq, and_true, Value.int.injEq, Value.string.injEq, Value.slice.injEq, true_and] at heq heq2
  obtain ⟨rfl, rfl, rfl, rfl, rfl, rfl⟩ := heq
  obtain ⟨rfl, rfl, rfl⟩ := heq2
  obtain ⟨kk, mm, ss, aa, ll, cc, n0, n1, n2, n3, hk⟩ := skid (j := j + 1) hkids (k := 0) rfl (by rw [before_len0]) (q := 0) rfl
  have n0 : w.cell? ⟨g, 0, none⟩ = _ := n0
  have n1 : w.cell? ⟨g, 1, none⟩ = _ := n1
  have n2 : w.cell? ⟨g, 2, none⟩ = _ := n2
  have n3 : w.cell? ⟨g, 3, none⟩ = _ := n3
  have hrb := hR.lt
  have hgl := hg.1
  obtain ⟨ws, wb, x0, y0, z0⟩ := c8W_facts w (.bool true) (.int .i64 0) (.int .u8 64) (.int .i64 (j : Int)) (.string ⟨#[f, c]⟩) (.slice (some ⟨g, 0, none⟩) 1 cap) (.int .i64 (j : Int)) (.slice (some ae) e.ents.length ce) (.bool bw) (.int .i64 nw) (.int .u8 kw) (.int .i64 mw) (.string sw) (.slice aw2 lw cw2) (.int .i64 iw) (.slice aw3 lw3 cw3)
  have hR1 := (hR.below wb).hide (b := w.heap.size + 1 + 1) (by omega)
  show Calls Tryz.prog 72 #[ptr rb, .int .i64 (pp : Int), .agg #[.bool true, .int .i64 0, .int .u8 64, .int .i64 (j : Int), .string ⟨#[f, c]⟩, .slice (some ⟨g, 0, none⟩) 1 cap, .int .i64 (j : Int), .slice (some ae) e.ents.length ce], v8 bw nw kw mw sw aw2 lw cw2 iw aw3 lw3 cw3] w _
  go_enter Tryz.func72, Tryz.ntmps72
  generalize hW : c8W w (.bool true) (.int .i64 0) (.int .u8 64) (.int .i64 (j : Int)) (.string ⟨#[f, c]⟩) (.slice (some ⟨g, 0, none⟩) 1 cap) (.int .i64 (j : Int)) (.slice (some ae) e.ents.length ce) (.bool bw) (.int .i64 nw) (.int .u8 kw) (.int .i64 mw) (.string sw) (.slice aw2 lw cw2) (.int .i64 iw) (.slice aw3 lw3 cw3) = W at ws wb x0 y0 z0 hR1
  unfold c8W at hW
  obtain ⟨_, _, c2, _, _, _, _, _, _⟩ := hR1.at
  have fz := hR1.fz
  have o0 : w.heap.size ≠ rb := by omega
  have o1 : w.heap.size + 1 ≠ rb := by omega
  have o2 : w.heap.size + 1 + 1 ≠ rb := by omega
  have hcl : s.calls ≤ 1500 := by omega
  obtain ⟨f0, _, _⟩ := eight_of x0
  have hR2 : RunS (AndX X (w.heap.size + 1 + 1)) rb cv av (W.setCell ⟨rb, 2, none⟩ (.int .i64 ((s.calls : Int) + 1))) { s with calls := s.calls + 1 } 0 := hR1.set 2 _ (by decide) (by simp [runL]) rfl
  have K2 := (KepS.below (rb := rb) (cv := cv) (av := av) wb).set 2 (.int .i64 ((s.calls : Int) + 1))
  have x2 := (Below.heap_setCell W ⟨rb, 2, none⟩ (.int .i64 ((s.calls : Int) + 1)) w.heap.size o0).trans x0
  have y2 := (Below.heap_setCell W ⟨rb, 2, none⟩ (.int .i64 ((s.calls : Int) + 1)) (w.heap.size + 1) o1).trans y0
  have z2 := (Below.heap_setCell W ⟨rb, 2, none⟩ (.int .i64 ((s.calls : Int) + 1)) (w.heap.size + 1 + 1) o2).trans z0
  have hz : (W.setCell ⟨rb, 2, none⟩ (.int .i64 ((s.calls : Int) + 1))).heap.size = w.heap.size + 3 := by simp [ws]
  go_wp2_with fail
  generalize (W.setCell ⟨rb, 2, none⟩ (.int .i64 ((s.calls : Int) + 1))) = w2 at hR2 K2 x2 y2 z2 hz ⊢
  clear f0 c2 fz hR1 wb x0 y0 z0 hW ws
  have H2 := K2.hide (X := X) (b := w.heap.size + 1 + 1) (by omega)
  have hown : ∀ (cv2 av2 : Value) (w4 : World), KepS rb cv av w2 cv2 av2 w4 → ∀ j, cv2.ownBlock = some j ∨ av2.ownBlock = some j → j ≠ w.heap.size + 1 + 1 := fun cv2 av2 w4 hK j hj e => by
    rcases hK.own j hj with h | h | h
    · have := (hR.owns j (.inl h)).2; omega
    · have := (hR.owns j (.inr h)).2; omega
    · omega
  have sF : SafeS X rb cv av w2 w.heap.size := hR.new (Nat.le_refl _) (by omega)
  have sV : SafeS X rb cv av w2 (w.heap.size + 1) := hR.new (Nat.le_succ _) (by omega)
  have sB : SafeS X rb cv av w2 (w.heap.size + 1 + 1) := hR.new (by omega) (by omega)
  have sg := (K2.safe hg).2
  have hfF : ∀ (cv2 av2 : Value) (w4 : World), KepS rb cv av w2 cv2 av2 w4 → w4.heap[w.heap.size]? = some (.cells #[.bool true, .int .i64 0, .int .u8 64, .int .i64 (j : Int), .string ⟨#[f, c]⟩, .slice (some ⟨g, 0, none⟩) 1 cap, .int .i64 (j : Int), .slice (some ae) e.ents.length ce] 114 (0, 0)) := fun cv2 av2 w4 hK => (hK.safe sF).1.trans x2
  have hfV : ∀ (cv2 av2 : Value) (w4 : World), KepS rb cv av w2 cv2 av2 w4 → w4.heap[w.heap.size + 1]? = some (.cells #[.bool bw, .int .i64 nw, .int .u8 kw, .int .i64 mw, .string sw, .slice aw2 lw cw2, .int .i64 iw, .slice aw3 lw3 cw3] 114 (0, 0)) := fun cv2 av2 w4 hK => (hK.safe sV).1.trans y2
  have hfin : ∀ (cv2 av2 : Value) (w4 : World), KepS rb cv av w2 cv2 av2 w4 → w4.heap[w.heap.size + 1 + 1]? = some (.cells #[.bool false, .int .i64 0, .int .u8 0, .int .i64 0, .string ⟨#[]⟩, .slice none 0 0, .int .i64 0, .slice none 0 0] 114 (0, 0)) := fun cv2 av2 w4 hK => (hK.safe sB).1.trans z2
  clear y2 z2
  obtain ⟨_, _, _, _, _, _, _, c7, _⟩ := hR2.at
  have fz := hR2.fz
  obtain ⟨_, _, _, _, _, _, f6, _, _⟩ := eight_of x2
  have lrb : rb < w2.heap.size := by omega
  have lF : w.heap.size < w2.heap.size := by omega
  have lV : w.heap.size + 1 < w2.heap.size := by omega
  have lB : w.heap.size + 1 + 1 < w2.heap.size := by omega
  have lrr : rb + 1 ≤ ((w2.alloc (.cells #[.int .i64 (j : Int)] 3)).drew).heap.size := by simp; omega
  clear hz
  have nF : some w.heap.size ≠ cv.ownBlock := fun e => by have := (hR.owns _ (.inl e.symm)).2; omega
  apply wp_cut (fun gr cr w5 => w5.ownsRow (rb + 1) 3 1 (.slice (some ⟨gr, 0, none⟩) (s.called.length + 1) cr) (s.called.length + 1) (intsV s.called ++ [.int .i64 (j : Int)]) ∧ (w2.alloc (.cells #[.int .i64 (j : Int)] 3)).drew.grownBy w5 cv.ownBlock ∧ ((Value.slice (some ⟨gr, 0, none⟩) (s.called.length + 1) cr).ownBlock = cv.ownBlock ∨ (Value.slice (some ⟨gr, 0, none⟩) (s.called.length + 1) cr).ownBlock = some (w2.alloc (.cells #[.int .i64 (j : Int)] 3)).drew.heap.size)) (fun gr cr w5 => w5.setCell ⟨rb, 7, none⟩ (.slice (some ⟨gr, 0, none⟩) (s.called.length + 1) cr))
  case h =>
    go_region_law (first | ((refine step_app_int _ (by rfl) _ _ (by rfl) (rb + 1) cv s.called.length (intsV s.called) (by rfl) (hR2.rowUp _) ⟨w2.heap.size, 0, none⟩ [.int .i64 (j : Int)] (by rfl) rfl (nine_block (cs := [.int .i64 (j : Int)]) (alloc_at w2 _)) (by simp [Value.oneCell']) (by omega) lrr ?_); intro gr cr w5 hrow5 hgr5 hwh5; obtain ⟨c57, fz57⟩ := hR2.grown7 hgr5))
    all_goals exact ⟨gr, cr, w5, ⟨hrow5, hgr5, hwh5⟩, rfl, rfl⟩
  rintro gr cr w5 ⟨hrow5, hgr5, hwh5⟩
  go_wp2_with fail
  obtain ⟨hR3, K3, na, xsA, hna, hA3⟩ := hR2.addCalled hrow5 hgr5 hwh5
  have hna : na ≤ s.called.length := hna
  have lr3 := K3.size
  generalize (w5.setCell ⟨rb, 7, none⟩ (.slice (some ⟨gr, 0, none⟩) (s.called.length + 1) cr)) = w3 at hR3 K3 hA3 lr3 ⊢
  clear hrow5 hgr5 hwh5
  obtain ⟨_, _, _, _, _, _, _, _, c8⟩ := hR3.at
  have fz := hR3.fz
  obtain ⟨_, _, _, _, _, _, f6, _, _⟩ := eight_of (hfF _ _ _ K3)
  have lrb : rb < w3.heap.size := by omega
  have lF3 : w.heap.size < w3.heap.size := by omega
  have lrr : rb + 1 ≤ ((w3.alloc (.cells #[.int .i64 (pp : Int), .int .i64 (j : Int)] 194)).drew).heap.size := by simp; omega
  apply wp_cut (fun ga ca w5 => w5.ownsRow (rb + 1) 194 2 (.slice (some ⟨ga, 0, none⟩) (na + 1) ca) (na + 1) (xsA ++ [.int .i64 (pp : Int), .int .i64 (j : Int)]) ∧ (w3.alloc (.cells #[.int .i64 (pp : Int), .int .i64 (j : Int)] 194)).drew.grownBy w5 av.ownBlock ∧ ((Value.slice (some ⟨ga, 0, none⟩) (na + 1) ca).ownBlock = av.ownBlock ∨ (Value.slice (some ⟨ga, 0, none⟩) (na + 1) ca).ownBlock = some (w3.alloc (.cells #[.int .i64 (pp : Int), .int .i64 (j : Int)] 194)).drew.heap.size)) (fun ga ca w5 => w5.setCell ⟨rb, 8, none⟩ (.slice (some ⟨ga, 0, none⟩) (na + 1) ca))
  case h =>
    go_region_law (first | ((refine step_app_at _ (by rfl) _ _ (by rfl) (rb + 1) av na xsA (by rfl) (row_up hA3 _) ⟨w3.heap.size, 0, none⟩ [.int .i64 (pp : Int), .int .i64 (j : Int)] (by rfl) rfl (nine_block (cs := [.int .i64 (pp : Int), .int .i64 (j : Int)]) (alloc_at w3 _)) (by simp [Value.oneCell']) (by omega) lrr ?_); intro gr cr w5 hrow5 hgr5 hwh5; obtain ⟨c57, fz57⟩ := hR3.grown8 hA3 hgr5))
    all_goals exact ⟨gr, cr, w5, ⟨hrow5, hgr5, hwh5⟩, rfl, rfl⟩
  rintro ga ca w5 ⟨hrow5, hgr5, hwh5⟩
  obtain ⟨hR4, K4⟩ := hR3.addAt hA3 (by simp; omega) hrow5 hgr5 hwh5
  have K4 := K3.trans K4
  have lr4 := K4.size
  generalize (w5.setCell ⟨rb, 8, none⟩ (.slice (some ⟨ga, 0, none⟩) (na + 1) ca)) = w4 at hR4 K4 lr4 ⊢
  clear hrow5 hgr5 hwh5 hA3 c8 fz f6 lr3 lF3 lrb lrr K3 hR3 hR2
  generalize (Value.slice (some ⟨gr, 0, none⟩) (s.called.length + 1) cr) = cv1 at hR4 K4 ⊢
  generalize (Value.slice (some ⟨ga, 0, none⟩) (na + 1) ca) = av1 at hR4 K4 ⊢
  obtain ⟨_, _, _, _, _, _, c6, _, _⟩ := hR4.at
  have fz := hR4.fz
  have hR5 : RunS (AndX X (w.heap.size + 1 + 1)) rb cv1 av1 (w4.setCell ⟨rb, 6, none⟩ (.int .i64 ((s.depth : Int) + 1))) { s with calls := s.calls + 1, called := s.called ++ [j], depth := s.depth + 1 } 0 := hR4.set 6 _ (by decide) (by simp [runL]) rfl
  have K5 := K4.set 6 (.int .i64 ((s.depth : Int) + 1))
  have lr5 : w2.heap.size ≤ (w4.setCell ⟨rb, 6, none⟩ (.int .i64 ((s.depth : Int) + 1))).heap.size := by simpa using lr4
  go_wp2_with fail
  generalize (w4.setCell ⟨rb, 6, none⟩ (.int .i64 ((s.depth : Int) + 1))) = w5 at hR5 K5 lr5 ⊢
  clear c6 fz hR4 K4 lr4
  obtain ⟨_, _, _, _, _, c5, c6, _, _⟩ := hR5.at
  have fz := hR5.fz
  have K6 := (K5.set 5 (.int .i64 ((max s.deepest (s.depth + 1) : Nat) : Int))).trans (KepS.below (rb := rb) (cv := cv1) (av := av1) ((Below.refl _ (w5.setCell ⟨rb, 5, none⟩ (.int .i64 ((max s.deepest (s.depth + 1) : Nat) : Int)))).drew))
  have hR6 : RunS (AndX X (w.heap.size + 1 + 1)) rb cv1 av1 (w5.setCell ⟨rb, 5, none⟩ (.int .i64 ((max s.deepest (s.depth + 1) : Nat) : Int))).drew (s.enter pp j) 0 := (hR5.set (s' := s.enter pp j) (en' := 0) 5 (.int .i64 ((max s.deepest (s.depth + 1) : Nat) : Int)) (by decide) (by simp [runL, St.enter]) rfl).below ((Below.refl _ _).drew)
  have lr6 : w2.heap.size ≤ (w5.setCell ⟨rb, 5, none⟩ (.int .i64 ((max s.deepest (s.depth + 1) : Nat) : Int))).drew.heap.size := by simpa using lr5
  apply wp_cut (fun g cr w' => w' = (w5.setCell ⟨rb, 5, none⟩ (.int .i64 ((max s.deepest (s.depth + 1) : Nat) : Int))).drew) (fun g cr w' => w')
  case h =>
    obtain ⟨q1, q2, _⟩ : ∃ q1 q2 : Nat, True := ⟨0, 0, trivial⟩
    go_region_law (refine step_max _ (by rfl) _ _ (by rfl) s.deepest (s.depth + 1) (by rfl) (by rfl) ?_)
    all_goals exact ⟨q1, q2, _, rfl, rfl, rfl⟩
  rintro q1 q2 w6 rfl
  generalize (w5.setCell ⟨rb, 5, none⟩ (.int .i64 ((max s.deepest (s.depth + 1) : Nat) : Int))).drew = w6 at hR6 K6 lr6 ⊢
  clear hR5 K5 lr5 c5 c6 fz
  have six : ∀ (c0 a0 : Value) (w' : World), KepS rb cv av w2 c0 a0 w' → w'.cell? ⟨g, 0, none⟩ = some (.int .u8 kk) ∧ w'.cell? ⟨g, 1, none⟩ = some (.int .i64 mm) ∧ w'.cell? ⟨g, 2, none⟩ = some (.string ss) ∧ w'.cell? ⟨g, 3, none⟩ = some (.slice aa ll cc) ∧ w'.cell? ⟨w.heap.size, 4, none⟩ = some (.string ⟨#[f, c]⟩) ∧ w'.cell? ⟨w.heap.size, 5, none⟩ = some (.slice (some ⟨g, 0, none⟩) 1 cap) ∧ w'.cell? ⟨w.heap.size + 1, 0, none⟩ = some (.bool bw) ∧ w'.cell? ⟨w.heap.size + 1, 1, none⟩ = some (.int .i64 nw) ∧ w'.cell? ⟨w.heap.size + 1, 2, none⟩ = some (.int .u8 kw) ∧ w'.cell? ⟨w.heap.size + 1, 3, none⟩ = some (.int .i64 mw) ∧ w'.cell? ⟨w.heap.size + 1, 4, none⟩ = some (.string sw) ∧ w'.cell? ⟨w.heap.size + 1, 5, none⟩ = some (.slice aw2 lw cw2) ∧ w'.cell? ⟨w.heap.size + 1, 6, none⟩ = some (.int .i64 iw) ∧ w'.cell? ⟨w.heap.size + 1, 7, none⟩ = some (.slice aw3 lw3 cw3) := fun c0 a0 w' hK => by
    obtain ⟨_, _, _, _, f4, f5, _, _, _⟩ := eight_of (hfF _ _ _ hK)
    obtain ⟨v0, v1, v2, v3, v4, v5, v6, v7, _⟩ := eight_of (hfV _ _ _ hK)
    have q := K2.trans hK
    exact ⟨q.cell hg n0, q.cell hg n1, q.cell hg n2, q.cell hg n3, f4, f5, v0, v1, v2, v3, v4, v5, v6, v7⟩
  obtain ⟨c0, _, _, _, _, _, c6o, _, _⟩ := hR6.at
  have c6 : w6.cell? ⟨rb, 6, none⟩ = some (.int .i64 ((s.depth : Int) + 1)) := c6o
  clear c6o
  have fz := hR6.fz
  obtain ⟨_, _, f2, _, f4, f5, _, f7, _⟩ := eight_of (hfF _ _ _ K6)
  have hle : e.ents.length ≤ 900 := by rw [En.ents_len]; simp only [bodyEn, En.names, List.length_cons] at hlen; omega
  by_cases hd : 50 ≤ s.depth
  · have hd2 : (50 : Int) < (s.depth : Int) + 1 := by omega
    have ST := stop_live rb 2 w6 c0 (fz 0)
    go_wp2_with fail
    refine ST.mono ?_
    rintro e' w7 ⟨rfl, hw7⟩
    have hDs : DeadS (AndX X (w.heap.size + 1 + 1)) rb (w6.setCell ⟨rb, 0, none⟩ (.int .i64 2)) 2 := (hR6.set (s' := s.enter pp j) (en' := 2) 0 (.int .i64 2) (by decide) (by simp [runL]) rfl).dead (by decide)
    have hbz := (Below.refl _ (w6.setCell ⟨rb, 0, none⟩ (.int .i64 2))).alloc (Nat.le_refl _) (.cells #[.bool false, .int .i64 0, .int .u8 0, .int .i64 0, .string ⟨#[]⟩, .slice none 0 0, .int .i64 0, .slice none 0 0] 114)
    have hD7 := hDs.below hbz
    have K7 := (K6.set 0 (.int .i64 2)).trans (KepS.below (rb := rb) (cv := cv1) (av := av1) hbz)
    have hs67 := hbz.size
    have hco7 : ∀ m, cv1.ownBlock = some m ∨ av1.ownBlock = some m → m < w7.heap.size := fun m hm => by have := (hR6.owns m hm).2; rw [hw7]; simp at hs67 ⊢; omega
    rw [← hw7] at hD7 K7
    clear ST hw7 hbz hDs f2 f4 f5 f7 hs67
    obtain ⟨_, _, f2, _, f4, f5, _, f7, _⟩ := eight_of (hfF _ _ _ K7)
    go_wp2_with fail
    have H7 := (K2.trans K7).hide (X := X) (b := w.heap.size + 1 + 1) (by omega)
    have sz7 := K7.size
    have hle1 : ((.cons f (.clo j (.fix f c b0) e) e) : En).ents.length ≤ 900 := by rw [En.ents_len]; simp only [bodyEn, En.names, List.length_cons] at hlen ⊢; omega
    have W12 : Calls Tryz.prog 71 #[.slice (some ae) e.ents.length ce, .string ((⟨#[f, c]⟩ : ByteArray).extract 0 1), v8 true 0 64 (j : Int) ⟨#[f, c]⟩ (some ⟨g, 0, none⟩) 1 cap (j : Int) (some ae) e.ents.length ce] w7.drew fun e' w' => ∃ y, e' = .returned y ∧ (∃ a1 c1, y = .slice (some a1) ((.cons f (.clo j (.fix f c b0) e) e) : En).ents.length c1 ∧ Below w7.heap.size w7 w' ∧ SE (SafeS (AndX X (w.heap.size + 1 + 1)) rb cv1 av1 w') w' (.cons f (.clo j (.fix f c b0) e) e) (.slice (some a1) ((.cons f (.clo j (.fix f c b0) e) e) : En).ents.length c1)) ∧ w'.cell? ⟨w.heap.size, 0, none⟩ = some (.bool true) ∧ w'.cell? ⟨w.heap.size, 1, none⟩ = some (.int .i64 0) ∧ w'.cell? ⟨w.heap.size, 2, none⟩ = some (.int .u8 64) ∧ w'.cell? ⟨w.heap.size, 3, none⟩ = some (.int .i64 (j : Int)) ∧ w'.cell? ⟨w.heap.size, 4, none⟩ = some (.string ⟨#[f, c]⟩) ∧ w'.cell? ⟨w.heap.size, 5, none⟩ = some (.slice (some ⟨g, 0, none⟩) 1 cap) ∧ w'.cell? ⟨w.heap.size, 6, none⟩ = some (.int .i64 (j : Int)) ∧ w'.cell? ⟨w.heap.size, 7, none⟩ = some (.slice (some ae) e.ents.length ce) := by
      rw [show ((⟨#[f, c]⟩ : ByteArray).extract 0 1) = ⟨#[f]⟩ from rfl]
      refine (swith_c (SafeS (AndX X (w.heap.size + 1 + 1)) rb cv1 av1 w7) e f (.clo j (.fix f c b0) e) _ _ w7.drew (SE.keep (w := w7) (w' := w7.drew) (fun q hq => ⟨rfl, hq⟩) (he.keep H7)) (SV.keep (w := w7) (w' := w7.drew) (fun q hq => ⟨rfl, hq⟩) (hF.out.keep H7)) (fun q hq => hq.1) hle).mono ?_
      rintro e' w' ⟨y, rfl, hb2, hse⟩
      obtain ⟨a1, c1, rfl⟩ := hse.form
      have hb3 : Below w7.heap.size w7 w' := ((Below.refl _ w7).drew).trans hb2
      obtain ⟨p0, p1, p2, p3, p4, p5, p6, p7, _⟩ := eight_of (hfF _ _ _ (K7.trans (KepS.below (rb := rb) (cv := cv1) (av := av1) hb3)))
      exact ⟨_, rfl, ⟨a1, c1, rfl, hb3, hse.keep (fun q hq => ⟨rfl, hq.elim (fun h => ((KepS.below (rb := rb) (cv := cv1) (av := av1) hb3).safe h).2) (fun h => ⟨h.2, (by have h1 : w7.heap.size ≤ q := h.1; omega), (fun e => by have := hco7 q (.inl e); have h1 : w7.heap.size ≤ q := h.1; omega), (fun e => by have := hco7 q (.inr e); have h1 : w7.heap.size ≤ q := h.1; omega), (fun hx => hx.elim (fun h2 => by have := hR.priv q h2; have h1 : w7.heap.size ≤ q := h.1; omega) (fun e => by have h1 : w7.heap.size ≤ q := h.1; omega))⟩)⟩)⟩, p0, p1, p2, p3, p4, p5, p6, p7⟩
    obtain ⟨p0, p1, p2, p3, p4, p5, p6, p7, _⟩ := eight_of (hfF _ _ _ (K7.trans (KepS.below (rb := rb) (cv := cv1) (av := av1) ((Below.refl _ w7).drew))))
    go_region_held3 (fun w' => w'.cell? ⟨w.heap.size, 0, none⟩ = some (.bool true) ∧ w'.cell? ⟨w.heap.size, 1, none⟩ = some (.int .i64 0) ∧ w'.cell? ⟨w.heap.size, 2, none⟩ = some (.int .u8 64) ∧ w'.cell? ⟨w.heap.size, 3, none⟩ = some (.int .i64 (j : Int)) ∧ w'.cell? ⟨w.heap.size, 4, none⟩ = some (.string ⟨#[f, c]⟩) ∧ w'.cell? ⟨w.heap.size, 5, none⟩ = some (.slice (some ⟨g, 0, none⟩) 1 cap) ∧ w'.cell? ⟨w.heap.size, 6, none⟩ = some (.int .i64 (j : Int)) ∧ w'.cell? ⟨w.heap.size, 7, none⟩ = some (.slice (some ae) e.ents.length ce))
      (first | (refine ⟨?_, ?_, ?_, ?_, ?_, ?_, ?_, ?_⟩ <;> with_reducible assumption))
      (first
        | (go_at_call 71; with_reducible refine W12.mono ?_; rintro e' wA ⟨_, rfl, ⟨a1, c1, rfl, hbA, hE1⟩, p0, p1, p2, p3, p4, p5, p6, p7⟩))
    have K7 := K7.trans (KepS.below (rb := rb) (cv := cv1) (av := av1) hbA)
    have hD7 := hD7.below hbA
    have hco7 : ∀ m, cv1.ownBlock = some m ∨ av1.ownBlock = some m → m < wA.heap.size := fun m hm => Nat.lt_of_lt_of_le (hco7 m hm) hbA.size
    clear W12 H7 sz7 p0 p1 p2 p3 p4 p5 p6 p7
    obtain ⟨_, _, f2, _, f4, f5, _, f7, _⟩ := eight_of (hfF _ _ _ K7)
    go_wp2_with fail
    obtain ⟨o2, ho2⟩ : ∃ o, Ou.long = o := ⟨_, rfl⟩
    have H7 := (K2.trans K7).hide (X := X) (b := w.heap.size + 1 + 1) (by omega)
    have sz7 := K7.size
    have lr7 : rb < wA.heap.size := by omega
    have gA : g < wA.heap.size := by omega
    have vA : w.heap.size < wA.heap.size := by omega
    have uA : w.heap.size + 1 < wA.heap.size := by omega
    have gD : g < wA.drew.heap.size := gA
    have vD : w.heap.size < wA.drew.heap.size := vA
    have uD : w.heap.size + 1 < wA.drew.heap.size := uA
    have bf : ∀ w', Below wA.heap.size wA w' → KepS rb cv av w2 cv1 av1 w' := fun w' hb => K7.trans (KepS.below (rb := rb) (cv := cv1) (av := av1) hb)
    have nw7 : ∀ w', Below wA.heap.size wA w' → ∀ q, wA.heap.size ≤ q → q < w'.heap.size → (SafeS (AndX X (w.heap.size + 1 + 1)) rb cv1 av1 w' q) := fun w' hb q h1 h2 => ⟨h2, by omega, fun e => by have := hco7 q (.inl e); omega, fun e => by have := hco7 q (.inr e); omega, fun hx => by rcases hx with hx | hx; (have := hR.priv q hx; omega); omega⟩
    have WITH : ∀ W', Below wA.heap.size wA W' → Calls Tryz.prog 71 #[.slice (some a1) ((.cons f (.clo j (.fix f c b0) e) e) : En).ents.length c1, .string ((⟨#[f, c]⟩ : ByteArray).extract 1 2), v8 bw nw kw mw sw aw2 lw cw2 iw aw3 lw3 cw3] W' fun e' w' => ∃ ay cy, e' = .returned (.slice (some ay) ((.cons c vy (.cons f (.clo j (.fix f c b0) e) e)) : En).ents.length cy) ∧ Below W'.heap.size W' w' ∧ SE (fun q => (SafeS (AndX X (w.heap.size + 1 + 1)) rb cv1 av1 W') q ∧ (wA.heap.size ≤ q → False) ∨ W'.heap.size ≤ q ∧ q < w'.heap.size) w' (.cons c vy (.cons f (.clo j (.fix f c b0) e) e)) (.slice (some ay) ((.cons c vy (.cons f (.clo j (.fix f c b0) e) e)) : En).ents.length cy) := fun W' hb => by
      have kb := KepS.below (rb := rb) (cv := cv1) (av := av1) hb
      rw [show ((⟨#[f, c]⟩ : ByteArray).extract 1 2) = ⟨#[c]⟩ from rfl]
      refine (swith_c (fun q => (SafeS (AndX X (w.heap.size + 1 + 1)) rb cv1 av1 W') q ∧ (wA.heap.size ≤ q → False)) (.cons f (.clo j (.fix f c b0) e) e) c vy _ _ W' (SE.keep (fun q hq => ⟨(kb.safe hq).1, (kb.safe hq).2, by have := hq.1; omega⟩) hE1) (SV.keep (fun q hq => ⟨(kb.safe hq).1, (kb.safe hq).2, by have := hq.1; omega⟩) (hy.keep H7)) (fun q hq => hq.1.1) hle1).mono ?_
      rintro e' w' ⟨y, rfl, hb2, hse⟩
      obtain ⟨ay, cy, rfl⟩ := hse.form
      exact ⟨ay, cy, rfl, hb2, hse⟩
    have C2A : Calls Tryz.prog 71 #[.slice (some a1) ((.cons f (.clo j (.fix f c b0) e) e) : En).ents.length c1, .string ((⟨#[f, c]⟩ : ByteArray).extract 1 2), v8 bw nw kw mw sw aw2 lw cw2 iw aw3 lw3 cw3] wA.drew fun e' w' => ∃ y, e' = .returned y ∧ (∃ ay cy, y = .slice (some ay) ((.cons c vy (.cons f (.clo j (.fix f c b0) e) e)) : En).ents.length cy ∧ Below wA.heap.size wA w' ∧ SE (SafeS (AndX X (w.heap.size + 1 + 1)) rb cv1 av1 w') w' (.cons c vy (.cons f (.clo j (.fix f c b0) e) e)) (.slice (some ay) ((.cons c vy (.cons f (.clo j (.fix f c b0) e) e)) : En).ents.length cy)) ∧ w'.cell? ⟨g, 0, none⟩ = some (.int .u8 kk) ∧ w'.cell? ⟨g, 1, none⟩ = some (.int .i64 mm) ∧ w'.cell? ⟨g, 2, none⟩ = some (.string ss) ∧ w'.cell? ⟨g, 3, none⟩ = some (.slice aa ll cc) ∧ w'.cell? ⟨w.heap.size, 4, none⟩ = some (.string ⟨#[f, c]⟩) ∧ w'.cell? ⟨w.heap.size, 5, none⟩ = some (.slice (some ⟨g, 0, none⟩) 1 cap) ∧ w'.cell? ⟨w.heap.size + 1, 0, none⟩ = some (.bool bw) ∧ w'.cell? ⟨w.heap.size + 1, 1, none⟩ = some (.int .i64 nw) ∧ w'.cell? ⟨w.heap.size + 1, 2, none⟩ = some (.int .u8 kw) ∧ w'.cell? ⟨w.heap.size + 1, 3, none⟩ = some (.int .i64 mw) ∧ w'.cell? ⟨w.heap.size + 1, 4, none⟩ = some (.string sw) ∧ w'.cell? ⟨w.heap.size + 1, 5, none⟩ = some (.slice aw2 lw cw2) ∧ w'.cell? ⟨w.heap.size + 1, 6, none⟩ = some (.int .i64 iw) ∧ w'.cell? ⟨w.heap.size + 1, 7, none⟩ = some (.slice aw3 lw3 cw3) := (WITH _ ((Below.refl _ wA).drew)).mono (by
      rintro e' w' ⟨ay, cy, rfl, hb, hse⟩
      have hb2 : Below wA.heap.size wA w' := ((Below.refl _ wA).drew).trans hb
      exact ⟨_, rfl, ⟨ay, cy, rfl, hb2, hse.keep (fun q hq => ⟨rfl, hq.elim (fun h => ((KepS.below (rb := rb) (cv := cv1) (av := av1) hb).safe h.1).2) (fun h => nw7 _ hb2 q h.1 h.2)⟩)⟩, six _ _ _ (bf _ hb2)⟩)
    have C2C : Calls Tryz.prog 71 #[.slice (some a1) ((.cons f (.clo j (.fix f c b0) e) e) : En).ents.length c1, .string ((⟨#[f, c]⟩ : ByteArray).extract 1 2), v8 bw nw kw mw sw aw2 lw cw2 iw aw3 lw3 cw3] (wA.alloc (.cells #[.bool false, .int .i64 0, .int .u8 0, .int .i64 0, .string ⟨#[]⟩, .slice none 0 0, .int .i64 0, .slice none 0 0] 114)).drew fun e' w' => ∃ y, e' = .returned y ∧ (∃ ay cy, y = .slice (some ay) ((.cons c vy (.cons f (.clo j (.fix f c b0) e) e)) : En).ents.length cy ∧ Below wA.heap.size wA w' ∧ wA.heap.size < w'.heap.size ∧ w'.heap[wA.heap.size]? = some (.cells #[.bool false, .int .i64 0, .int .u8 0, .int .i64 0, .string ⟨#[]⟩, .slice none 0 0, .int .i64 0, .slice none 0 0] 114 (0, 0)) ∧ SE (SafeS (AndX (AndX X (w.heap.size + 1 + 1)) wA.heap.size) rb cv1 av1 w') w' (.cons c vy (.cons f (.clo j (.fix f c b0) e) e)) (.slice (some ay) ((.cons c vy (.cons f (.clo j (.fix f c b0) e) e)) : En).ents.length cy)) ∧ w'.cell? ⟨g, 0, none⟩ = some (.int .u8 kk) ∧ w'.cell? ⟨g, 1, none⟩ = some (.int .i64 mm) ∧ w'.cell? ⟨g, 2, none⟩ = some (.string ss) ∧ w'.cell? ⟨g, 3, none⟩ = some (.slice aa ll cc) ∧ w'.cell? ⟨w.heap.size, 4, none⟩ = some (.string ⟨#[f, c]⟩) ∧ w'.cell? ⟨w.heap.size, 5, none⟩ = some (.slice (some ⟨g, 0, none⟩) 1 cap) ∧ w'.cell? ⟨w.heap.size + 1, 0, none⟩ = some (.bool bw) ∧ w'.cell? ⟨w.heap.size + 1, 1, none⟩ = some (.int .i64 nw) ∧ w'.cell? ⟨w.heap.size + 1, 2, none⟩ = some (.int .u8 kw) ∧ w'.cell? ⟨w.heap.size + 1, 3, none⟩ = some (.int .i64 mw) ∧ w'.cell? ⟨w.heap.size + 1, 4, none⟩ = some (.string sw) ∧ w'.cell? ⟨w.heap.size + 1, 5, none⟩ = some (.slice aw2 lw cw2) ∧ w'.cell? ⟨w.heap.size + 1, 6, none⟩ = some (.int .i64 iw) ∧ w'.cell? ⟨w.heap.size + 1, 7, none⟩ = some (.slice aw3 lw3 cw3) := (WITH _ (((Below.refl _ wA).alloc (Nat.le_refl _) (.cells #[.bool false, .int .i64 0, .int .u8 0, .int .i64 0, .string ⟨#[]⟩, .slice none 0 0, .int .i64 0, .slice none 0 0] 114)).drew)).mono (by
      rintro e' w' ⟨ay, cy, rfl, hb, hse⟩
      have hb1 := ((Below.refl _ wA).alloc (Nat.le_refl _) (.cells #[.bool false, .int .i64 0, .int .u8 0, .int .i64 0, .string ⟨#[]⟩, .slice none 0 0, .int .i64 0, .slice none 0 0] 114)).drew
      have hb2 : Below wA.heap.size wA w' := hb1.trans (hb.mono hb1.size)
      have hs1 : (wA.alloc (.cells #[.bool false, .int .i64 0, .int .u8 0, .int .i64 0, .string ⟨#[]⟩, .slice none 0 0, .int .i64 0, .slice none 0 0] 114)).drew.heap.size = wA.heap.size + 1 := by simp
      have hsw := hb.size
      exact ⟨_, rfl, ⟨ay, cy, rfl, hb2, by omega, (hb.block wA.heap.size (by omega)).trans (alloc_at wA _), hse.keep (fun q hq => ⟨rfl, hq.elim (fun h => (let z := ((KepS.below (rb := rb) (cv := cv1) (av := av1) hb).safe h.1).2; ⟨z.1, z.2.1, z.2.2.1, z.2.2.2.1, fun hx => hx.elim z.2.2.2.2 (fun e => h.2 (by omega))⟩)) (fun h => (let z := nw7 _ hb2 q (by omega) h.2; ⟨z.1, z.2.1, z.2.2.1, z.2.2.2.1, fun hx => hx.elim z.2.2.2.2 (fun e => by omega)⟩))⟩)⟩, six _ _ _ (bf _ hb2)⟩)
    obtain ⟨k0, k1, k2, k3, k4, k5, k6, k7, k8, k9, k10, k11, k12, k13⟩ := six _ _ _ (bf _ ((Below.refl _ wA).drew))
    have DG : ∀ (Y : Nat → Prop) w8 y, (∀ q, Y q → q < w8.heap.size) → Below wA.heap.size wA w8 → SE (SafeS Y rb cv1 av1 w8) w8 (.cons c vy (.cons f (.clo j (.fix f c b0) e) e)) y → RepN (SafeS Y rb cv1 av1 w8) w8 b0 (j + 1) (t4 kk mm ss aa ll cc) → Calls Tryz.prog 47 #[ptr rb, t4 kk mm ss aa ll cc, y] w8 fun e' w' => SPost Y rb cv1 av1 w8 o2 e' w' := by
      intro Y w8 y hY hb8 hse hkk
      obtain ⟨ay, cy, rfl⟩ := hse.form
      rw [← ho2]
      have hD8 := hD7.below hb8
      exact dead_eval (X := Y) rb 2 kk mm ss aa ll cc (some ay) _ cy cv1 av1 w8 ⟨hD8.c0, hD8.c1, hD8.c6, hD8.fz, hD8.ne⟩
    have DA : ∀ w8 y, Below wA.heap.size wA w8 → SE (SafeS (AndX X (w.heap.size + 1 + 1)) rb cv1 av1 w8) w8 (.cons c vy (.cons f (.clo j (.fix f c b0) e) e)) y → Calls Tryz.prog 47 #[ptr rb, t4 kk mm ss aa ll cc, y] w8 fun e' w' => (∃ bq nq kq mq sq aq lq cq iq aq2 lq2 cq2, e' = .returned (v8 bq nq kq mq sq aq lq cq iq aq2 lq2 cq2) ∧ SPost (AndX X (w.heap.size + 1 + 1)) rb cv1 av1 wA o2 (.returned (v8 bq nq kq mq sq aq lq cq iq aq2 lq2 cq2)) w') ∧ w'.cell? ⟨g, 0, none⟩ = some (.int .u8 kk) ∧ w'.cell? ⟨g, 1, none⟩ = some (.int .i64 mm) ∧ w'.cell? ⟨g, 2, none⟩ = some (.string ss) ∧ w'.cell? ⟨g, 3, none⟩ = some (.slice aa ll cc) ∧ w'.cell? ⟨w.heap.size, 4, none⟩ = some (.string ⟨#[f, c]⟩) ∧ w'.cell? ⟨w.heap.size, 5, none⟩ = some (.slice (some ⟨g, 0, none⟩) 1 cap) ∧ w'.cell? ⟨w.heap.size + 1, 0, none⟩ = some (.bool bw) ∧ w'.cell? ⟨w.heap.size + 1, 1, none⟩ = some (.int .i64 nw) ∧ w'.cell? ⟨w.heap.size + 1, 2, none⟩ = some (.int .u8 kw) ∧ w'.cell? ⟨w.heap.size + 1, 3, none⟩ = some (.int .i64 mw) ∧ w'.cell? ⟨w.heap.size + 1, 4, none⟩ = some (.string sw) ∧ w'.cell? ⟨w.heap.size + 1, 5, none⟩ = some (.slice aw2 lw cw2) ∧ w'.cell? ⟨w.heap.size + 1, 6, none⟩ = some (.int .i64 iw) ∧ w'.cell? ⟨w.heap.size + 1, 7, none⟩ = some (.slice aw3 lw3 cw3) := by
      intro w8 y hb8 hse
      have kb := KepS.below (rb := rb) (cv := cv1) (av := av1) hb8
      refine (DG (AndX X (w.heap.size + 1 + 1)) w8 y (fun q hq => by have := hb8.size; rcases hq with hq | hq; (have := hR.priv q hq; omega); omega) hb8 hse ((hk.keep H7).keep (fun q hq => kb.safe hq))).mono ?_
      intro e' w' h
      obtain ⟨cv9, av9, hk9⟩ : ∃ cv9 av9, KepS rb cv1 av1 w8 cv9 av9 w' := sPost_kep h
      obtain ⟨bq, nq, kq, mq, sq, aq, lq, cq, iq, aq2, lq2, cq2, rfl⟩ := sPost_form h
      exact ⟨⟨bq, nq, kq, mq, sq, aq, lq, cq, iq, aq2, lq2, cq2, rfl, sPost_from kb h⟩, six _ _ _ ((bf _ hb8).trans hk9)⟩
    have DH : ∀ w8 gb y, Below wA.heap.size wA w8 → wA.heap.size ≤ gb → gb < w8.heap.size → w8.heap[gb]? = some (.cells #[.bool false, .int .i64 0, .int .u8 0, .int .i64 0, .string ⟨#[]⟩, .slice none 0 0, .int .i64 0, .slice none 0 0] 114 (0, 0)) → SE (SafeS (AndX (AndX X (w.heap.size + 1 + 1)) gb) rb cv1 av1 w8) w8 (.cons c vy (.cons f (.clo j (.fix f c b0) e) e)) y → Calls Tryz.prog 47 #[ptr rb, t4 kk mm ss aa ll cc, y] w8 fun e' w' => (∃ bq nq kq mq sq aq lq cq iq aq2 lq2 cq2, e' = .returned (v8 bq nq kq mq sq aq lq cq iq aq2 lq2 cq2) ∧ SPost (AndX X (w.heap.size + 1 + 1)) rb cv1 av1 wA o2 (.returned (v8 bq nq kq mq sq aq lq cq iq aq2 lq2 cq2)) (set8 w' gb (.bool bq) (.int .i64 nq) (.int .u8 kq) (.int .i64 mq) (.string sq) (.slice aq lq cq) (.int .i64 iq) (.slice aq2 lq2 cq2)) ∧ w'.heap[gb]? = some (.cells #[.bool false, .int .i64 0, .int .u8 0, .int .i64 0, .string ⟨#[]⟩, .slice none 0 0, .int .i64 0, .slice none 0 0] 114 (0, 0))) ∧ w'.cell? ⟨g, 0, none⟩ = some (.int .u8 kk) ∧ w'.cell? ⟨g, 1, none⟩ = some (.int .i64 mm) ∧ w'.cell? ⟨g, 2, none⟩ = some (.string ss) ∧ w'.cell? ⟨g, 3, none⟩ = some (.slice aa ll cc) ∧ w'.cell? ⟨w.heap.size, 4, none⟩ = some (.string ⟨#[f, c]⟩) ∧ w'.cell? ⟨w.heap.size, 5, none⟩ = some (.slice (some ⟨g, 0, none⟩) 1 cap) ∧ w'.cell? ⟨w.heap.size + 1, 0, none⟩ = some (.bool bw) ∧ w'.cell? ⟨w.heap.size + 1, 1, none⟩ = some (.int .i64 nw) ∧ w'.cell? ⟨w.heap.size + 1, 2, none⟩ = some (.int .u8 kw) ∧ w'.cell? ⟨w.heap.size + 1, 3, none⟩ = some (.int .i64 mw) ∧ w'.cell? ⟨w.heap.size + 1, 4, none⟩ = some (.string sw) ∧ w'.cell? ⟨w.heap.size + 1, 5, none⟩ = some (.slice aw2 lw cw2) ∧ w'.cell? ⟨w.heap.size + 1, 6, none⟩ = some (.int .i64 iw) ∧ w'.cell? ⟨w.heap.size + 1, 7, none⟩ = some (.slice aw3 lw3 cw3) := by
      intro w8 gb y hb8 hg1 hg2 hz hse
      have kb := KepS.below (rb := rb) (cv := cv1) (av := av1) hb8
      refine (DG (AndX (AndX X (w.heap.size + 1 + 1)) gb) w8 y (fun q hq => by have := hb8.size; rcases hq with (hq | hq) | hq; (have := hR.priv q hq; omega); omega; omega) hb8 hse ((hk.keep H7).keep (fun q hq => (let z := kb.safe hq; ⟨z.1, z.2.1, z.2.2.1, z.2.2.2.1, z.2.2.2.2.1, fun hx => hx.elim z.2.2.2.2.2 (fun e => by have := hq.1; omega)⟩)))).mono ?_
      intro e' w' h
      obtain ⟨cv9, av9, hk9⟩ : ∃ cv9 av9, KepS rb cv1 av1 w8 cv9 av9 w' := sPost_kep h
      obtain ⟨bq, nq, kq, mq, sq, aq, lq, cq, iq, aq2, lq2, cq2, rfl⟩ := sPost_form h
      exact ⟨⟨bq, nq, kq, mq, sq, aq, lq, cq, iq, aq2, lq2, cq2, rfl, sPost_set8 (by omega) hg2 (fun m hm => by have := hco7 m hm; omega) h hg1 kb, (hk9.safe (nw7 _ hb8 gb hg1 hg2)).1.trans hz⟩, six _ _ _ ((bf _ hb8).trans hk9)⟩
    have DB : ∀ w8 y, Below wA.heap.size wA w8 → SE (SafeS (AndX X (w.heap.size + 1 + 1)) rb cv1 av1 w8) w8 (.cons c vy (.cons f (.clo j (.fix f c b0) e) e)) y → Calls Tryz.prog 47 #[ptr rb, t4 kk mm ss aa ll cc, y] (w8.alloc (.cells #[.bool false, .int .i64 0, .int .u8 0, .int .i64 0, .string ⟨#[]⟩, .slice none 0 0, .int .i64 0, .slice none 0 0] 114)) fun e' w' => (∃ bq nq kq mq sq aq lq cq iq aq2 lq2 cq2, e' = .returned (v8 bq nq kq mq sq aq lq cq iq aq2 lq2 cq2) ∧ SPost (AndX X (w.heap.size + 1 + 1)) rb cv1 av1 wA o2 (.returned (v8 bq nq kq mq sq aq lq cq iq aq2 lq2 cq2)) (set8 w' w8.heap.size (.bool bq) (.int .i64 nq) (.int .u8 kq) (.int .i64 mq) (.string sq) (.slice aq lq cq) (.int .i64 iq) (.slice aq2 lq2 cq2)) ∧ w'.heap[w8.heap.size]? = some (.cells #[.bool false, .int .i64 0, .int .u8 0, .int .i64 0, .string ⟨#[]⟩, .slice none 0 0, .int .i64 0, .slice none 0 0] 114 (0, 0))) ∧ w'.cell? ⟨g, 0, none⟩ = some (.int .u8 kk) ∧ w'.cell? ⟨g, 1, none⟩ = some (.int .i64 mm) ∧ w'.cell? ⟨g, 2, none⟩ = some (.string ss) ∧ w'.cell? ⟨g, 3, none⟩ = some (.slice aa ll cc) ∧ w'.cell? ⟨w.heap.size, 4, none⟩ = some (.string ⟨#[f, c]⟩) ∧ w'.cell? ⟨w.heap.size, 5, none⟩ = some (.slice (some ⟨g, 0, none⟩) 1 cap) ∧ w'.cell? ⟨w.heap.size + 1, 0, none⟩ = some (.bool bw) ∧ w'.cell? ⟨w.heap.size + 1, 1, none⟩ = some (.int .i64 nw) ∧ w'.cell? ⟨w.heap.size + 1, 2, none⟩ = some (.int .u8 kw) ∧ w'.cell? ⟨w.heap.size + 1, 3, none⟩ = some (.int .i64 mw) ∧ w'.cell? ⟨w.heap.size + 1, 4, none⟩ = some (.string sw) ∧ w'.cell? ⟨w.heap.size + 1, 5, none⟩ = some (.slice aw2 lw cw2) ∧ w'.cell? ⟨w.heap.size + 1, 6, none⟩ = some (.int .i64 iw) ∧ w'.cell? ⟨w.heap.size + 1, 7, none⟩ = some (.slice aw3 lw3 cw3) := by
      intro w8 y hb8 hse
      have hb1 := (Below.refl _ w8).alloc (Nat.le_refl _) (.cells #[.bool false, .int .i64 0, .int .u8 0, .int .i64 0, .string ⟨#[]⟩, .slice none 0 0, .int .i64 0, .slice none 0 0] 114)
      exact DH _ w8.heap.size y (hb8.trans (hb1.mono hb8.size)) hb8.size (by simp) (alloc_at w8 _) (hse.keep (fun q hq => (let z := (KepS.below (rb := rb) (cv := cv1) (av := av1) hb1).safe hq; ⟨z.1, z.2.1, z.2.2.1, z.2.2.2.1, z.2.2.2.2.1, fun hx => hx.elim z.2.2.2.2.2 (fun e => by have := hq.1; omega)⟩)))
    apply wp_cutV (fun gb ay cy bq nq kq mq sq aq lq cq iq aq2 lq2 cq2 w' => SPost (AndX X (w.heap.size + 1 + 1)) rb cv1 av1 wA o2 (.returned (v8 bq nq kq mq sq aq lq cq iq aq2 lq2 cq2)) w' ∧ w'.heap[gb]? = some (.cells #[.bool bq, .int .i64 nq, .int .u8 kq, .int .i64 mq, .string sq, .slice aq lq cq, .int .i64 iq, .slice aq2 lq2 cq2] 114 (0, 0)))
    case h =>
      go_region_held3 (fun w' => w'.cell? ⟨g, 0, none⟩ = some (.int .u8 kk) ∧ w'.cell? ⟨g, 1, none⟩ = some (.int .i64 mm) ∧ w'.cell? ⟨g, 2, none⟩ = some (.string ss) ∧ w'.cell? ⟨g, 3, none⟩ = some (.slice aa ll cc) ∧ w'.cell? ⟨w.heap.size, 4, none⟩ = some (.string ⟨#[f, c]⟩) ∧ w'.cell? ⟨w.heap.size, 5, none⟩ = some (.slice (some ⟨g, 0, none⟩) 1 cap) ∧ w'.cell? ⟨w.heap.size + 1, 0, none⟩ = some (.bool bw) ∧ w'.cell? ⟨w.heap.size + 1, 1, none⟩ = some (.int .i64 nw) ∧ w'.cell? ⟨w.heap.size + 1, 2, none⟩ = some (.int .u8 kw) ∧ w'.cell? ⟨w.heap.size + 1, 3, none⟩ = some (.int .i64 mw) ∧ w'.cell? ⟨w.heap.size + 1, 4, none⟩ = some (.string sw) ∧ w'.cell? ⟨w.heap.size + 1, 5, none⟩ = some (.slice aw2 lw cw2) ∧ w'.cell? ⟨w.heap.size + 1, 6, none⟩ = some (.int .i64 iw) ∧ w'.cell? ⟨w.heap.size + 1, 7, none⟩ = some (.slice aw3 lw3 cw3))
        (first | (refine ⟨?_, ?_, ?_, ?_, ?_, ?_, ?_, ?_, ?_, ?_, ?_, ?_, ?_, ?_⟩ <;> with_reducible assumption) | (refine ⟨?_, ?_, ?_, ?_, ?_, ?_, ?_, ?_, ?_, ?_, ?_, ?_, ?_, ?_⟩ <;> (first | with_reducible refine set8x_far _ _ _ m1 ?_ | with_reducible refine set8x_far _ _ _ m2 ?_ | with_reducible refine set8x_far _ _ _ m3 ?_ | with_reducible refine alloc_far g9 ?_ | with_reducible refine alloc_far h9 ?_ | with_reducible refine alloc_far u9 ?_ | with_reducible refine alloc_far g8 ?_ | with_reducible refine alloc_far h8 ?_ | with_reducible refine alloc_far u8 ?_ | with_reducible refine alloc_far gD ?_ | with_reducible refine alloc_far vD ?_ | with_reducible refine alloc_far uD ?_ | with_reducible refine drew_far gA ?_ | with_reducible refine drew_far vA ?_ | with_reducible refine drew_far uA ?_) <;> with_reducible assumption))
        (first
          | (go_at_call 71; with_reducible refine C2A.mono ?_; rintro e' w8 ⟨_, rfl, ⟨ay, cy, rfl, hb8, hSE⟩, k0, k1, k2, k3, k4, k5, k6, k7, k8, k9, k10, k11, k12, k13⟩; have hs8 := hb8.size; have g8 := Nat.lt_of_lt_of_le gA hs8; have h8 := Nat.lt_of_lt_of_le vA hs8; have u8 := Nat.lt_of_lt_of_le uA hs8)
          | (go_at_call 71; with_reducible refine C2C.mono ?_; rintro e' w8 ⟨_, rfl, ⟨ay, cy, rfl, hb8, hl8, hz8, hSEc⟩, k0, k1, k2, k3, k4, k5, k6, k7, k8, k9, k10, k11, k12, k13⟩; have hs8 := hb8.size; have g8 := Nat.lt_of_lt_of_le gA hs8; have h8 := Nat.lt_of_lt_of_le vA hs8; have u8 := Nat.lt_of_lt_of_le uA hs8)
          | (go_at_call 47; with_reducible refine (DA _ _ hb8 hSE).mono ?_; rintro e' w9 ⟨⟨bq, nq, kq, mq, sq, aq, lq, cq, iq, aq2, lq2, cq2, rfl, hP9⟩, k0, k1, k2, k3, k4, k5, k6, k7, k8, k9, k10, k11, k12, k13⟩; have hs9 := sPost_size hP9; have g9 := Nat.lt_of_lt_of_le gA hs9; have h9 := Nat.lt_of_lt_of_le vA hs9; have u9 := Nat.lt_of_lt_of_le uA hs9; have m1 := Nat.ne_of_lt (Nat.lt_of_lt_of_le gA hs9); have m2 := Nat.ne_of_lt (Nat.lt_of_lt_of_le vA hs9); have m3 := Nat.ne_of_lt (Nat.lt_of_lt_of_le uA hs9))
          | (go_at_call 47; with_reducible refine (DB _ _ hb8 hSE).mono ?_; rintro e' w9 ⟨⟨bq, nq, kq, mq, sq, aq, lq, cq, iq, aq2, lq2, cq2, rfl, hP9, hz9⟩, k0, k1, k2, k3, k4, k5, k6, k7, k8, k9, k10, k11, k12, k13⟩; obtain ⟨t0, t1, t2, t3, t4, t5, t6, t7, tff⟩ := eight_of hz9; have m1 := Nat.ne_of_lt (Nat.lt_of_lt_of_le gA hs8); have m2 := Nat.ne_of_lt (Nat.lt_of_lt_of_le vA hs8); have m3 := Nat.ne_of_lt (Nat.lt_of_lt_of_le uA hs8))
          | (go_at_call 47; with_reducible refine (DH _ _ _ hb8 (Nat.le_refl _) hl8 hz8 hSEc).mono ?_; rintro e' w9 ⟨⟨bq, nq, kq, mq, sq, aq, lq, cq, iq, aq2, lq2, cq2, rfl, hP9, hz9⟩, k0, k1, k2, k3, k4, k5, k6, k7, k8, k9, k10, k11, k12, k13⟩; obtain ⟨t0, t1, t2, t3, t4, t5, t6, t7, tff⟩ := eight_of hz9; have m1 := Nat.ne_of_lt gA; have m2 := Nat.ne_of_lt vA; have m3 := Nat.ne_of_lt uA))
      all_goals first
        | (obtain ⟨gb, hgb⟩ : ∃ gb, w9.heap.size = gb := ⟨_, rfl⟩; rw [hgb]; exact ⟨gb, ay, cy, bq, nq, kq, mq, sq, aq, lq, cq, iq, aq2, lq2, cq2, ⟨sPost_below hP9 ((Below.refl _ _).alloc (Nat.le_refl _) _), hgb ▸ alloc_at w9 _⟩, rfl⟩)
        | (obtain ⟨gb, hgb⟩ : ∃ gb, w8.heap.size = gb := ⟨_, rfl⟩; rw [hgb] at hz9 hP9 ⊢; exact ⟨gb, ay, cy, bq, nq, kq, mq, sq, aq, lq, cq, iq, aq2, lq2, cq2, ⟨hP9, set8_at hz9 _ _ _ _ _ _ _ _⟩, rfl⟩)
        | (obtain ⟨gb, hgb⟩ : ∃ gb, wA.heap.size = gb := ⟨_, rfl⟩; rw [hgb] at hz9 hP9 ⊢; exact ⟨gb, ay, cy, bq, nq, kq, mq, sq, aq, lq, cq, iq, aq2, lq2, cq2, ⟨hP9, set8_at hz9 _ _ _ _ _ _ _ _⟩, rfl⟩)
    rintro gb ay cy bq nq kq mq sq aq lq cq iq aq2 lq2 cq2 w9 ⟨hP9, hgb⟩
    clear C2A C2C DA DB DH DG WITH k0 k1 k2 k3 k4 k5 k6 k7 k8 k9 k10 k11 k12 k13 f2 f4 f5 f7 six ih
    rw [← ho2] at hP9
    obtain ⟨hq, hD9, cv9, av9, hK9⟩ := hP9
    injection hq with hq
    simp only [Value.agg.injEq, Array.mk.injEq, List.cons.injEq, and_true, Value.bool.injEq, Value.int.injEq, Value.string.injEq, Value.slice.injEq, true_and] at hq
    obtain ⟨rfl, rfl, rfl, rfl, rfl, ⟨rfl, rfl, rfl⟩, rfl, rfl, rfl, rfl⟩ := hq
    obtain ⟨n6, h6⟩ := hD9.c6
    have fz := hD9.fz
    have hne : gb ≠ rb := fun e => by
      subst e
      have h0 := hD9.c0
      rw [(eight_of hgb).1] at h0
      cases h0
    have hz10 := (Below.heap_setCell w9 ⟨rb, 6, none⟩ (.int .i64 (wrap64 (n6 - 1))) (w.heap.size + 1 + 1) (by show _ ≠ rb; omega)).trans (hfin _ _ _ (K7.trans hK9))
    have hg10 := (Below.heap_setCell w9 ⟨rb, 6, none⟩ (.int .i64 (wrap64 (n6 - 1))) gb hne).trans hgb
    have hD10 := hD9.set 6 (wrap64 (n6 - 1)) (by decide)
    have K10 := (K7.trans hK9).set 6 (.int .i64 (wrap64 (n6 - 1)))
    obtain ⟨g0, g1, g2, g3, g4, g5, g6, g7, _⟩ := eight_of hg10
    obtain ⟨t0, t1, t2, t3, t4, t5, t6, t7, tff⟩ := eight_of hz10
    go_wp2_with fail
    have h8 := eight_of (set8_at hz10 (.bool false) (.int .i64 0) (.int .u8 0) (.int .i64 0) (.string ⟨#[]⟩) (.slice none 0 0) (.int .i64 0) (.slice none 0 0))
    obtain ⟨r0, r1, r2, r3, r4, r5, r6, r7, _⟩ := h8
    unfold set8 at r0 r1 r2 r3 r4 r5 r6 r7
    refine bodyPost_ret (v := zero8) (by simp [results, Tryz.results72, go_sem, r0, r1, r2, r3, r4, r5, r6, r7]) rfl ?_
    rw [show callV (ev n) pp (.clo j (.fix f c b0) e) vy s = .long from if_pos hd]
    exact dead_out (by omega) hrb K2 ⟨rfl, hD10, _, _, K10⟩
  · have hd2 : ¬ (50 : Int) < (s.depth : Int) + 1 := by omega
    go_wp2_with fail
    have K7 := K6
    have hco7 : ∀ m, cv1.ownBlock = some m ∨ av1.ownBlock = some m → m < w6.heap.size := fun m hm => (hR6.owns m hm).2
    have H7 := (K2.trans K7).hide (X := X) (b := w.heap.size + 1 + 1) (by omega)
    have sz7 := K7.size
    have hle1 : ((.cons f (.clo j (.fix f c b0) e) e) : En).ents.length ≤ 900 := by rw [En.ents_len]; simp only [bodyEn, En.names, List.length_cons] at hlen ⊢; omega
    have W12 : Calls Tryz.prog 71 #[.slice (some ae) e.ents.length ce, .string ((⟨#[f, c]⟩ : ByteArray).extract 0 1), v8 true 0 64 (j : Int) ⟨#[f, c]⟩ (some ⟨g, 0, none⟩) 1 cap (j : Int) (some ae) e.ents.length ce] w6.drew fun e' w' => ∃ y, e' = .returned y ∧ (∃ a1 c1, y = .slice (some a1) ((.cons f (.clo j (.fix f c b0) e) e) : En).ents.length c1 ∧ Below w6.heap.size w6 w' ∧ SE (SafeS (AndX X (w.heap.size + 1 + 1)) rb cv1 av1 w') w' (.cons f (.clo j (.fix f c b0) e) e) (.slice (some a1) ((.cons f (.clo j (.fix f c b0) e) e) : En).ents.length c1)) ∧ w'.cell? ⟨w.heap.size, 0, none⟩ = some (.bool true) ∧ w'.cell? ⟨w.heap.size, 1, none⟩ = some (.int .i64 0) ∧ w'.cell? ⟨w.heap.size, 2, none⟩ = some (.int .u8 64) ∧ w'.cell? ⟨w.heap.size, 3, none⟩ = some (.int .i64 (j : Int)) ∧ w'.cell? ⟨w.heap.size, 4, none⟩ = some (.string ⟨#[f, c]⟩) ∧ w'.cell? ⟨w.heap.size, 5, none⟩ = some (.slice (some ⟨g, 0, none⟩) 1 cap) ∧ w'.cell? ⟨w.heap.size, 6, none⟩ = some (.int .i64 (j : Int)) ∧ w'.cell? ⟨w.heap.size, 7, none⟩ = some (.slice (some ae) e.ents.length ce) := by
      rw [show ((⟨#[f, c]⟩ : ByteArray).extract 0 1) = ⟨#[f]⟩ from rfl]
      refine (swith_c (SafeS (AndX X (w.heap.size + 1 + 1)) rb cv1 av1 w6) e f (.clo j (.fix f c b0) e) _ _ w6.drew (SE.keep (w := w6) (w' := w6.drew) (fun q hq => ⟨rfl, hq⟩) (he.keep H7)) (SV.keep (w := w6) (w' := w6.drew) (fun q hq => ⟨rfl, hq⟩) (hF.out.keep H7)) (fun q hq => hq.1) hle).mono ?_
      rintro e' w' ⟨y, rfl, hb2, hse⟩
      obtain ⟨a1, c1, rfl⟩ := hse.form
      have hb3 : Below w6.heap.size w6 w' := ((Below.refl _ w6).drew).trans hb2
      obtain ⟨p0, p1, p2, p3, p4, p5, p6, p7, _⟩ := eight_of (hfF _ _ _ (K7.trans (KepS.below (rb := rb) (cv := cv1) (av := av1) hb3)))
      exact ⟨_, rfl, ⟨a1, c1, rfl, hb3, hse.keep (fun q hq => ⟨rfl, hq.elim (fun h => ((KepS.below (rb := rb) (cv := cv1) (av := av1) hb3).safe h).2) (fun h => ⟨h.2, (by have h1 : w6.heap.size ≤ q := h.1; omega), (fun e => by have := hco7 q (.inl e); have h1 : w6.heap.size ≤ q := h.1; omega), (fun e => by have := hco7 q (.inr e); have h1 : w6.heap.size ≤ q := h.1; omega), (fun hx => hx.elim (fun h2 => by have := hR.priv q h2; have h1 : w6.heap.size ≤ q := h.1; omega) (fun e => by have h1 : w6.heap.size ≤ q := h.1; omega))⟩)⟩)⟩, p0, p1, p2, p3, p4, p5, p6, p7⟩
    obtain ⟨p0, p1, p2, p3, p4, p5, p6, p7, _⟩ := eight_of (hfF _ _ _ (K7.trans (KepS.below (rb := rb) (cv := cv1) (av := av1) ((Below.refl _ w6).drew))))
    go_region_held3 (fun w' => w'.cell? ⟨w.heap.size, 0, none⟩ = some (.bool true) ∧ w'.cell? ⟨w.heap.size, 1, none⟩ = some (.int .i64 0) ∧ w'.cell? ⟨w.heap.size, 2, none⟩ = some (.int .u8 64) ∧ w'.cell? ⟨w.heap.size, 3, none⟩ = some (.int .i64 (j : Int)) ∧ w'.cell? ⟨w.heap.size, 4, none⟩ = some (.string ⟨#[f, c]⟩) ∧ w'.cell? ⟨w.heap.size, 5, none⟩ = some (.slice (some ⟨g, 0, none⟩) 1 cap) ∧ w'.cell? ⟨w.heap.size, 6, none⟩ = some (.int .i64 (j : Int)) ∧ w'.cell? ⟨w.heap.size, 7, none⟩ = some (.slice (some ae) e.ents.length ce))
      (first | (refine ⟨?_, ?_, ?_, ?_, ?_, ?_, ?_, ?_⟩ <;> with_reducible assumption))
      (first
        | (go_at_call 71; with_reducible refine W12.mono ?_; rintro e' wA ⟨_, rfl, ⟨a1, c1, rfl, hbA, hE1⟩, p0, p1, p2, p3, p4, p5, p6, p7⟩))
    have K7 := K7.trans (KepS.below (rb := rb) (cv := cv1) (av := av1) hbA)
    have hR6 := hR6.below hbA
    have hco7 : ∀ m, cv1.ownBlock = some m ∨ av1.ownBlock = some m → m < wA.heap.size := fun m hm => Nat.lt_of_lt_of_le (hco7 m hm) hbA.size
    clear W12 H7 sz7 p0 p1 p2 p3 p4 p5 p6 p7
    obtain ⟨_, _, f2, _, f4, f5, _, f7, _⟩ := eight_of (hfF _ _ _ K7)
    go_wp2_with fail
    have H7 := (K2.trans K7).hide (X := X) (b := w.heap.size + 1 + 1) (by omega)
    have sz7 := K7.size
    have lr7 : rb < wA.heap.size := by omega
    have gA : g < wA.heap.size := by omega
    have vA : w.heap.size < wA.heap.size := by omega
    have uA : w.heap.size + 1 < wA.heap.size := by omega
    have gD : g < wA.drew.heap.size := gA
    have vD : w.heap.size < wA.drew.heap.size := vA
    have uD : w.heap.size + 1 < wA.drew.heap.size := uA
    have bf : ∀ w', Below wA.heap.size wA w' → KepS rb cv av w2 cv1 av1 w' := fun w' hb => K7.trans (KepS.below (rb := rb) (cv := cv1) (av := av1) hb)
    have nw7 : ∀ w', Below wA.heap.size wA w' → ∀ q, wA.heap.size ≤ q → q < w'.heap.size → (SafeS (AndX X (w.heap.size + 1 + 1)) rb cv1 av1 w' q) := fun w' hb q h1 h2 => ⟨h2, by omega, fun e => by have := hco7 q (.inl e); omega, fun e => by have := hco7 q (.inr e); omega, fun hx => by rcases hx with hx | hx; (have := hR.priv q hx; omega); omega⟩
    have WITH : ∀ W', Below wA.heap.size wA W' → Calls Tryz.prog 71 #[.slice (some a1) ((.cons f (.clo j (.fix f c b0) e) e) : En).ents.length c1, .string ((⟨#[f, c]⟩ : ByteArray).extract 1 2), v8 bw nw kw mw sw aw2 lw cw2 iw aw3 lw3 cw3] W' fun e' w' => ∃ ay cy, e' = .returned (.slice (some ay) ((.cons c vy (.cons f (.clo j (.fix f c b0) e) e)) : En).ents.length cy) ∧ Below W'.heap.size W' w' ∧ SE (fun q => (SafeS (AndX X (w.heap.size + 1 + 1)) rb cv1 av1 W') q ∧ (wA.heap.size ≤ q → False) ∨ W'.heap.size ≤ q ∧ q < w'.heap.size) w' (.cons c vy (.cons f (.clo j (.fix f c b0) e) e)) (.slice (some ay) ((.cons c vy (.cons f (.clo j (.fix f c b0) e) e)) : En).ents.length cy) := fun W' hb => by
      have kb := KepS.below (rb := rb) (cv := cv1) (av := av1) hb
      rw [show ((⟨#[f, c]⟩ : ByteArray).extract 1 2) = ⟨#[c]⟩ from rfl]
      refine (swith_c (fun q => (SafeS (AndX X (w.heap.size + 1 + 1)) rb cv1 av1 W') q ∧ (wA.heap.size ≤ q → False)) (.cons f (.clo j (.fix f c b0) e) e) c vy _ _ W' (SE.keep (fun q hq => ⟨(kb.safe hq).1, (kb.safe hq).2, by have := hq.1; omega⟩) hE1) (SV.keep (fun q hq => ⟨(kb.safe hq).1, (kb.safe hq).2, by have := hq.1; omega⟩) (hy.keep H7)) (fun q hq => hq.1.1) hle1).mono ?_
      rintro e' w' ⟨y, rfl, hb2, hse⟩
      obtain ⟨ay, cy, rfl⟩ := hse.form
      exact ⟨ay, cy, rfl, hb2, hse⟩
    have C2A : Calls Tryz.prog 71 #[.slice (some a1) ((.cons f (.clo j (.fix f c b0) e) e) : En).ents.length c1, .string ((⟨#[f, c]⟩ : ByteArray).extract 1 2), v8 bw nw kw mw sw aw2 lw cw2 iw aw3 lw3 cw3] wA.drew fun e' w' => ∃ y, e' = .returned y ∧ (∃ ay cy, y = .slice (some ay) ((.cons c vy (.cons f (.clo j (.fix f c b0) e) e)) : En).ents.length cy ∧ Below wA.heap.size wA w' ∧ SE (SafeS (AndX X (w.heap.size + 1 + 1)) rb cv1 av1 w') w' (.cons c vy (.cons f (.clo j (.fix f c b0) e) e)) (.slice (some ay) ((.cons c vy (.cons f (.clo j (.fix f c b0) e) e)) : En).ents.length cy)) ∧ w'.cell? ⟨g, 0, none⟩ = some (.int .u8 kk) ∧ w'.cell? ⟨g, 1, none⟩ = some (.int .i64 mm) ∧ w'.cell? ⟨g, 2, none⟩ = some (.string ss) ∧ w'.cell? ⟨g, 3, none⟩ = some (.slice aa ll cc) ∧ w'.cell? ⟨w.heap.size, 4, none⟩ = some (.string ⟨#[f, c]⟩) ∧ w'.cell? ⟨w.heap.size, 5, none⟩ = some (.slice (some ⟨g, 0, none⟩) 1 cap) ∧ w'.cell? ⟨w.heap.size + 1, 0, none⟩ = some (.bool bw) ∧ w'.cell? ⟨w.heap.size + 1, 1, none⟩ = some (.int .i64 nw) ∧ w'.cell? ⟨w.heap.size + 1, 2, none⟩ = some (.int .u8 kw) ∧ w'.cell? ⟨w.heap.size + 1, 3, none⟩ = some (.int .i64 mw) ∧ w'.cell? ⟨w.heap.size + 1, 4, none⟩ = some (.string sw) ∧ w'.cell? ⟨w.heap.size + 1, 5, none⟩ = some (.slice aw2 lw cw2) ∧ w'.cell? ⟨w.heap.size + 1, 6, none⟩ = some (.int .i64 iw) ∧ w'.cell? ⟨w.heap.size + 1, 7, none⟩ = some (.slice aw3 lw3 cw3) := (WITH _ ((Below.refl _ wA).drew)).mono (by
      rintro e' w' ⟨ay, cy, rfl, hb, hse⟩
      have hb2 : Below wA.heap.size wA w' := ((Below.refl _ wA).drew).trans hb
      exact ⟨_, rfl, ⟨ay, cy, rfl, hb2, hse.keep (fun q hq => ⟨rfl, hq.elim (fun h => ((KepS.below (rb := rb) (cv := cv1) (av := av1) hb).safe h.1).2) (fun h => nw7 _ hb2 q h.1 h.2)⟩)⟩, six _ _ _ (bf _ hb2)⟩)
    have C2C : Calls Tryz.prog 71 #[.slice (some a1) ((.cons f (.clo j (.fix f c b0) e) e) : En).ents.length c1, .string ((⟨#[f, c]⟩ : ByteArray).extract 1 2), v8 bw nw kw mw sw aw2 lw cw2 iw aw3 lw3 cw3] (wA.alloc (.cells #[.bool false, .int .i64 0, .int .u8 0, .int .i64 0, .string ⟨#[]⟩, .slice none 0 0, .int .i64 0, .slice none 0 0] 114)).drew fun e' w' => ∃ y, e' = .returned y ∧ (∃ ay cy, y = .slice (some ay) ((.cons c vy (.cons f (.clo j (.fix f c b0) e) e)) : En).ents.length cy ∧ Below wA.heap.size wA w' ∧ wA.heap.size < w'.heap.size ∧ w'.heap[wA.heap.size]? = some (.cells #[.bool false, .int .i64 0, .int .u8 0, .int .i64 0, .string ⟨#[]⟩, .slice none 0 0, .int .i64 0, .slice none 0 0] 114 (0, 0)) ∧ SE (SafeS (AndX (AndX X (w.heap.size + 1 + 1)) wA.heap.size) rb cv1 av1 w') w' (.cons c vy (.cons f (.clo j (.fix f c b0) e) e)) (.slice (some ay) ((.cons c vy (.cons f (.clo j (.fix f c b0) e) e)) : En).ents.length cy)) ∧ w'.cell? ⟨g, 0, none⟩ = some (.int .u8 kk) ∧ w'.cell? ⟨g, 1, none⟩ = some (.int .i64 mm) ∧ w'.cell? ⟨g, 2, none⟩ = some (.string ss) ∧ w'.cell? ⟨g, 3, none⟩ = some (.slice aa ll cc) ∧ w'.cell? ⟨w.heap.size, 4, none⟩ = some (.string ⟨#[f, c]⟩) ∧ w'.cell? ⟨w.heap.size, 5, none⟩ = some (.slice (some ⟨g, 0, none⟩) 1 cap) ∧ w'.cell? ⟨w.heap.size + 1, 0, none⟩ = some (.bool bw) ∧ w'.cell? ⟨w.heap.size + 1, 1, none⟩ = some (.int .i64 nw) ∧ w'.cell? ⟨w.heap.size + 1, 2, none⟩ = some (.int .u8 kw) ∧ w'.cell? ⟨w.heap.size + 1, 3, none⟩ = some (.int .i64 mw) ∧ w'.cell? ⟨w.heap.size + 1, 4, none⟩ = some (.string sw) ∧ w'.cell? ⟨w.heap.size + 1, 5, none⟩ = some (.slice aw2 lw cw2) ∧ w'.cell? ⟨w.heap.size + 1, 6, none⟩ = some (.int .i64 iw) ∧ w'.cell? ⟨w.heap.size + 1, 7, none⟩ = some (.slice aw3 lw3 cw3) := (WITH _ (((Below.refl _ wA).alloc (Nat.le_refl _) (.cells #[.bool false, .int .i64 0, .int .u8 0, .int .i64 0, .string ⟨#[]⟩, .slice none 0 0, .int .i64 0, .slice none 0 0] 114)).drew)).mono (by
      rintro e' w' ⟨ay, cy, rfl, hb, hse⟩
      have hb1 := ((Below.refl _ wA).alloc (Nat.le_refl _) (.cells #[.bool false, .int .i64 0, .int .u8 0, .int .i64 0, .string ⟨#[]⟩, .slice none 0 0, .int .i64 0, .slice none 0 0] 114)).drew
      have hb2 : Below wA.heap.size wA w' := hb1.trans (hb.mono hb1.size)
      have hs1 : (wA.alloc (.cells #[.bool false, .int .i64 0, .int .u8 0, .int .i64 0, .string ⟨#[]⟩, .slice none 0 0, .int .i64 0, .slice none 0 0] 114)).drew.heap.size = wA.heap.size + 1 := by simp
      have hsw := hb.size
      exact ⟨_, rfl, ⟨ay, cy, rfl, hb2, by omega, (hb.block wA.heap.size (by omega)).trans (alloc_at wA _), hse.keep (fun q hq => ⟨rfl, hq.elim (fun h => (let z := ((KepS.below (rb := rb) (cv := cv1) (av := av1) hb).safe h.1).2; ⟨z.1, z.2.1, z.2.2.1, z.2.2.2.1, fun hx => hx.elim z.2.2.2.2 (fun e => h.2 (by omega))⟩)) (fun h => (let z := nw7 _ hb2 q (by omega) h.2; ⟨z.1, z.2.1, z.2.2.1, z.2.2.2.1, fun hx => hx.elim z.2.2.2.2 (fun e => by omega)⟩))⟩)⟩, six _ _ _ (bf _ hb2)⟩)
    obtain ⟨k0, k1, k2, k3, k4, k5, k6, k7, k8, k9, k10, k11, k12, k13⟩ := six _ _ _ (bf _ ((Below.refl _ wA).drew))
    have hBe : StB (s.enter pp j) := ⟨h1, by simp only [St.enter]; omega, h3, h4, by simp only [St.enter]; omega, by simp only [St.enter]; omega, by have := hB.called; simp [St.enter]; omega, by have := hB.froms; simp [St.enter]; omega, hB.encl⟩
    obtain ⟨o2, ho2⟩ : ∃ o, ev n b0 (j + 1) (.cons c vy (.cons f (.clo j (.fix f c b0) e) e)) (s.enter pp j) = o := ⟨_, rfl⟩
    have HE : Hid (callV (ev n) pp (.clo j (.fix f c b0) e) vy s = o2.next fun z s => .ok z s.leave) := Lib.hid (by show (if 50 ≤ s.depth then Ou.long else _) = _; rw [if_neg hd, ← ho2]; rfl)
    have DG : ∀ (Y : Nat → Prop) w8 y, (∀ q, Y q → q < w8.heap.size) → Below wA.heap.size wA w8 → SE (SafeS Y rb cv1 av1 w8) w8 (.cons c vy (.cons f (.clo j (.fix f c b0) e) e)) y → RepN (SafeS Y rb cv1 av1 w8) w8 b0 (j + 1) (t4 kk mm ss aa ll cc) → Calls Tryz.prog 47 #[ptr rb, t4 kk mm ss aa ll cc, y] w8 fun e' w' => SPost Y rb cv1 av1 w8 o2 e' w' := by
      intro Y w8 y hY hb8 hse hkk
      have hR8 := hR6.below hb8
      have C3 := ih Y b0 (j + 1) (.cons c vy (.cons f (.clo j (.fix f c b0) e) e)) (s.enter pp j) rb cv1 av1 _ y w8 (by simpa [St.enter] using hn) hBe hok ⟨hR8.cs, hR8.made, hR8.fz, hR8.row, hR8.rowA, hR8.sep, hY⟩ hkk hse
      rw [ho2] at C3
      exact C3
    have DA : ∀ w8 y, Below wA.heap.size wA w8 → SE (SafeS (AndX X (w.heap.size + 1 + 1)) rb cv1 av1 w8) w8 (.cons c vy (.cons f (.clo j (.fix f c b0) e) e)) y → Calls Tryz.prog 47 #[ptr rb, t4 kk mm ss aa ll cc, y] w8 fun e' w' => (∃ bq nq kq mq sq aq lq cq iq aq2 lq2 cq2, e' = .returned (v8 bq nq kq mq sq aq lq cq iq aq2 lq2 cq2) ∧ SPost (AndX X (w.heap.size + 1 + 1)) rb cv1 av1 wA o2 (.returned (v8 bq nq kq mq sq aq lq cq iq aq2 lq2 cq2)) w') ∧ w'.cell? ⟨g, 0, none⟩ = some (.int .u8 kk) ∧ w'.cell? ⟨g, 1, none⟩ = some (.int .i64 mm) ∧ w'.cell? ⟨g, 2, none⟩ = some (.string ss) ∧ w'.cell? ⟨g, 3, none⟩ = some (.slice aa ll cc) ∧ w'.cell? ⟨w.heap.size, 4, none⟩ = some (.string ⟨#[f, c]⟩) ∧ w'.cell? ⟨w.heap.size, 5, none⟩ = some (.slice (some ⟨g, 0, none⟩) 1 cap) ∧ w'.cell? ⟨w.heap.size + 1, 0, none⟩ = some (.bool bw) ∧ w'.cell? ⟨w.heap.size + 1, 1, none⟩ = some (.int .i64 nw) ∧ w'.cell? ⟨w.heap.size + 1, 2, none⟩ = some (.int .u8 kw) ∧ w'.cell? ⟨w.heap.size + 1, 3, none⟩ = some (.int .i64 mw) ∧ w'.cell? ⟨w.heap.size + 1, 4, none⟩ = some (.string sw) ∧ w'.cell? ⟨w.heap.size + 1, 5, none⟩ = some (.slice aw2 lw cw2) ∧ w'.cell? ⟨w.heap.size + 1, 6, none⟩ = some (.int .i64 iw) ∧ w'.cell? ⟨w.heap.size + 1, 7, none⟩ = some (.slice aw3 lw3 cw3) := by
      intro w8 y hb8 hse
      have kb := KepS.below (rb := rb) (cv := cv1) (av := av1) hb8
      refine (DG (AndX X (w.heap.size + 1 + 1)) w8 y (fun q hq => by have := hb8.size; rcases hq with hq | hq; (have := hR.priv q hq; omega); omega) hb8 hse ((hk.keep H7).keep (fun q hq => kb.safe hq))).mono ?_
      intro e' w' h
      obtain ⟨cv9, av9, hk9⟩ : ∃ cv9 av9, KepS rb cv1 av1 w8 cv9 av9 w' := sPost_kep h
      obtain ⟨bq, nq, kq, mq, sq, aq, lq, cq, iq, aq2, lq2, cq2, rfl⟩ := sPost_form h
      exact ⟨⟨bq, nq, kq, mq, sq, aq, lq, cq, iq, aq2, lq2, cq2, rfl, sPost_from kb h⟩, six _ _ _ ((bf _ hb8).trans hk9)⟩
    have DH : ∀ w8 gb y, Below wA.heap.size wA w8 → wA.heap.size ≤ gb → gb < w8.heap.size → w8.heap[gb]? = some (.cells #[.bool false, .int .i64 0, .int .u8 0, .int .i64 0, .string ⟨#[]⟩, .slice none 0 0, .int .i64 0, .slice none 0 0] 114 (0, 0)) → SE (SafeS (AndX (AndX X (w.heap.size + 1 + 1)) gb) rb cv1 av1 w8) w8 (.cons c vy (.cons f (.clo j (.fix f c b0) e) e)) y → Calls Tryz.prog 47 #[ptr rb, t4 kk mm ss aa ll cc, y] w8 fun e' w' => (∃ bq nq kq mq sq aq lq cq iq aq2 lq2 cq2, e' = .returned (v8 bq nq kq mq sq aq lq cq iq aq2 lq2 cq2) ∧ SPost (AndX X (w.heap.size + 1 + 1)) rb cv1 av1 wA o2 (.returned (v8 bq nq kq mq sq aq lq cq iq aq2 lq2 cq2)) (set8 w' gb (.bool bq) (.int .i64 nq) (.int .u8 kq) (.int .i64 mq) (.string sq) (.slice aq lq cq) (.int .i64 iq) (.slice aq2 lq2 cq2)) ∧ w'.heap[gb]? = some (.cells #[.bool false, .int .i64 0, .int .u8 0, .int .i64 0, .string ⟨#[]⟩, .slice none 0 0, .int .i64 0, .slice none 0 0] 114 (0, 0))) ∧ w'.cell? ⟨g, 0, none⟩ = some (.int .u8 kk) ∧ w'.cell? ⟨g, 1, none⟩ = some (.int .i64 mm) ∧ w'.cell? ⟨g, 2, none⟩ = some (.string ss) ∧ w'.cell? ⟨g, 3, none⟩ = some (.slice aa ll cc) ∧ w'.cell? ⟨w.heap.size, 4, none⟩ = some (.string ⟨#[f, c]⟩) ∧ w'.cell? ⟨w.heap.size, 5, none⟩ = some (.slice (some ⟨g, 0, none⟩) 1 cap) ∧ w'.cell? ⟨w.heap.size + 1, 0, none⟩ = some (.bool bw) ∧ w'.cell? ⟨w.heap.size + 1, 1, none⟩ = some (.int .i64 nw) ∧ w'.cell? ⟨w.heap.size + 1, 2, none⟩ = some (.int .u8 kw) ∧ w'.cell? ⟨w.heap.size + 1, 3, none⟩ = some (.int .i64 mw) ∧ w'.cell? ⟨w.heap.size + 1, 4, none⟩ = some (.string sw) ∧ w'.cell? ⟨w.heap.size + 1, 5, none⟩ = some (.slice aw2 lw cw2) ∧ w'.cell? ⟨w.heap.size + 1, 6, none⟩ = some (.int .i64 iw) ∧ w'.cell? ⟨w.heap.size + 1, 7, none⟩ = some (.slice aw3 lw3 cw3) := by
      intro w8 gb y hb8 hg1 hg2 hz hse
      have kb := KepS.below (rb := rb) (cv := cv1) (av := av1) hb8
      refine (DG (AndX (AndX X (w.heap.size + 1 + 1)) gb) w8 y (fun q hq => by have := hb8.size; rcases hq with (hq | hq) | hq; (have := hR.priv q hq; omega); omega; omega) hb8 hse ((hk.keep H7).keep (fun q hq => (let z := kb.safe hq; ⟨z.1, z.2.1, z.2.2.1, z.2.2.2.1, z.2.2.2.2.1, fun hx => hx.elim z.2.2.2.2.2 (fun e => by have := hq.1; omega)⟩)))).mono ?_
      intro e' w' h
      obtain ⟨cv9, av9, hk9⟩ : ∃ cv9 av9, KepS rb cv1 av1 w8 cv9 av9 w' := sPost_kep h
      obtain ⟨bq, nq, kq, mq, sq, aq, lq, cq, iq, aq2, lq2, cq2, rfl⟩ := sPost_form h
      exact ⟨⟨bq, nq, kq, mq, sq, aq, lq, cq, iq, aq2, lq2, cq2, rfl, sPost_set8 (by omega) hg2 (fun m hm => by have := hco7 m hm; omega) h hg1 kb, (hk9.safe (nw7 _ hb8 gb hg1 hg2)).1.trans hz⟩, six _ _ _ ((bf _ hb8).trans hk9)⟩
    have DB : ∀ w8 y, Below wA.heap.size wA w8 → SE (SafeS (AndX X (w.heap.size + 1 + 1)) rb cv1 av1 w8) w8 (.cons c vy (.cons f (.clo j (.fix f c b0) e) e)) y → Calls Tryz.prog 47 #[ptr rb, t4 kk mm ss aa ll cc, y] (w8.alloc (.cells #[.bool false, .int .i64 0, .int .u8 0, .int .i64 0, .string ⟨#[]⟩, .slice none 0 0, .int .i64 0, .slice none 0 0] 114)) fun e' w' => (∃ bq nq kq mq sq aq lq cq iq aq2 lq2 cq2, e' = .returned (v8 bq nq kq mq sq aq lq cq iq aq2 lq2 cq2) ∧ SPost (AndX X (w.heap.size + 1 + 1)) rb cv1 av1 wA o2 (.returned (v8 bq nq kq mq sq aq lq cq iq aq2 lq2 cq2)) (set8 w' w8.heap.size (.bool bq) (.int .i64 nq) (.int .u8 kq) (.int .i64 mq) (.string sq) (.slice aq lq cq) (.int .i64 iq) (.slice aq2 lq2 cq2)) ∧ w'.heap[w8.heap.size]? = some (.cells #[.bool false, .int .i64 0, .int .u8 0, .int .i64 0, .string ⟨#[]⟩, .slice none 0 0, .int .i64 0, .slice none 0 0] 114 (0, 0))) ∧ w'.cell? ⟨g, 0, none⟩ = some (.int .u8 kk) ∧ w'.cell? ⟨g, 1, none⟩ = some (.int .i64 mm) ∧ w'.cell? ⟨g, 2, none⟩ = some (.string ss) ∧ w'.cell? ⟨g, 3, none⟩ = some (.slice aa ll cc) ∧ w'.cell? ⟨w.heap.size, 4, none⟩ = some (.string ⟨#[f, c]⟩) ∧ w'.cell? ⟨w.heap.size, 5, none⟩ = some (.slice (some ⟨g, 0, none⟩) 1 cap) ∧ w'.cell? ⟨w.heap.size + 1, 0, none⟩ = some (.bool bw) ∧ w'.cell? ⟨w.heap.size + 1, 1, none⟩ = some (.int .i64 nw) ∧ w'.cell? ⟨w.heap.size + 1, 2, none⟩ = some (.int .u8 kw) ∧ w'.cell? ⟨w.heap.size + 1, 3, none⟩ = some (.int .i64 mw) ∧ w'.cell? ⟨w.heap.size + 1, 4, none⟩ = some (.string sw) ∧ w'.cell? ⟨w.heap.size + 1, 5, none⟩ = some (.slice aw2 lw cw2) ∧ w'.cell? ⟨w.heap.size + 1, 6, none⟩ = some (.int .i64 iw) ∧ w'.cell? ⟨w.heap.size + 1, 7, none⟩ = some (.slice aw3 lw3 cw3) := by
      intro w8 y hb8 hse
      have hb1 := (Below.refl _ w8).alloc (Nat.le_refl _) (.cells #[.bool false, .int .i64 0, .int .u8 0, .int .i64 0, .string ⟨#[]⟩, .slice none 0 0, .int .i64 0, .slice none 0 0] 114)
      exact DH _ w8.heap.size y (hb8.trans (hb1.mono hb8.size)) hb8.size (by simp) (alloc_at w8 _) (hse.keep (fun q hq => (let z := (KepS.below (rb := rb) (cv := cv1) (av := av1) hb1).safe hq; ⟨z.1, z.2.1, z.2.2.1, z.2.2.2.1, z.2.2.2.2.1, fun hx => hx.elim z.2.2.2.2.2 (fun e => by have := hq.1; omega)⟩)))
    apply wp_cutV (fun gb ay cy bq nq kq mq sq aq lq cq iq aq2 lq2 cq2 w' => SPost (AndX X (w.heap.size + 1 + 1)) rb cv1 av1 wA o2 (.returned (v8 bq nq kq mq sq aq lq cq iq aq2 lq2 cq2)) w' ∧ w'.heap[gb]? = some (.cells #[.bool bq, .int .i64 nq, .int .u8 kq, .int .i64 mq, .string sq, .slice aq lq cq, .int .i64 iq, .slice aq2 lq2 cq2] 114 (0, 0)))
    case h =>
      go_region_held3 (fun w' => w'.cell? ⟨g, 0, none⟩ = some (.int .u8 kk) ∧ w'.cell? ⟨g, 1, none⟩ = some (.int .i64 mm) ∧ w'.cell? ⟨g, 2, none⟩ = some (.string ss) ∧ w'.cell? ⟨g, 3, none⟩ = some (.slice aa ll cc) ∧ w'.cell? ⟨w.heap.size, 4, none⟩ = some (.string ⟨#[f, c]⟩) ∧ w'.cell? ⟨w.heap.size, 5, none⟩ = some (.slice (some ⟨g, 0, none⟩) 1 cap) ∧ w'.cell? ⟨w.heap.size + 1, 0, none⟩ = some (.bool bw) ∧ w'.cell? ⟨w.heap.size + 1, 1, none⟩ = some (.int .i64 nw) ∧ w'.cell? ⟨w.heap.size + 1, 2, none⟩ = some (.int .u8 kw) ∧ w'.cell? ⟨w.heap.size + 1, 3, none⟩ = some (.int .i64 mw) ∧ w'.cell? ⟨w.heap.size + 1, 4, none⟩ = some (.string sw) ∧ w'.cell? ⟨w.heap.size + 1, 5, none⟩ = some (.slice aw2 lw cw2) ∧ w'.cell? ⟨w.heap.size + 1, 6, none⟩ = some (.int .i64 iw) ∧ w'.cell? ⟨w.heap.size + 1, 7, none⟩ = some (.slice aw3 lw3 cw3))
        (first | (refine ⟨?_, ?_, ?_, ?_, ?_, ?_, ?_, ?_, ?_, ?_, ?_, ?_, ?_, ?_⟩ <;> with_reducible assumption) | (refine ⟨?_, ?_, ?_, ?_, ?_, ?_, ?_, ?_, ?_, ?_, ?_, ?_, ?_, ?_⟩ <;> (first | with_reducible refine set8x_far _ _ _ m1 ?_ | with_reducible refine set8x_far _ _ _ m2 ?_ | with_reducible refine set8x_far _ _ _ m3 ?_ | with_reducible refine alloc_far g9 ?_ | with_reducible refine alloc_far h9 ?_ | with_reducible refine alloc_far u9 ?_ | with_reducible refine alloc_far g8 ?_ | with_reducible refine alloc_far h8 ?_ | with_reducible refine alloc_far u8 ?_ | with_reducible refine alloc_far gD ?_ | with_reducible refine alloc_far vD ?_ | with_reducible refine alloc_far uD ?_ | with_reducible refine drew_far gA ?_ | with_reducible refine drew_far vA ?_ | with_reducible refine drew_far uA ?_) <;> with_reducible assumption))
        (first
          | (go_at_call 71; with_reducible refine C2A.mono ?_; rintro e' w8 ⟨_, rfl, ⟨ay, cy, rfl, hb8, hSE⟩, k0, k1, k2, k3, k4, k5, k6, k7, k8, k9, k10, k11, k12, k13⟩; have hs8 := hb8.size; have g8 := Nat.lt_of_lt_of_le gA hs8; have h8 := Nat.lt_of_lt_of_le vA hs8; have u8 := Nat.lt_of_lt_of_le uA hs8)
          | (go_at_call 71; with_reducible refine C2C.mono ?_; rintro e' w8 ⟨_, rfl, ⟨ay, cy, rfl, hb8, hl8, hz8, hSEc⟩, k0, k1, k2, k3, k4, k5, k6, k7, k8, k9, k10, k11, k12, k13⟩; have hs8 := hb8.size; have g8 := Nat.lt_of_lt_of_le gA hs8; have h8 := Nat.lt_of_lt_of_le vA hs8; have u8 := Nat.lt_of_lt_of_le uA hs8)
          | (go_at_call 47; with_reducible refine (DA _ _ hb8 hSE).mono ?_; rintro e' w9 ⟨⟨bq, nq, kq, mq, sq, aq, lq, cq, iq, aq2, lq2, cq2, rfl, hP9⟩, k0, k1, k2, k3, k4, k5, k6, k7, k8, k9, k10, k11, k12, k13⟩; have hs9 := sPost_size hP9; have g9 := Nat.lt_of_lt_of_le gA hs9; have h9 := Nat.lt_of_lt_of_le vA hs9; have u9 := Nat.lt_of_lt_of_le uA hs9; have m1 := Nat.ne_of_lt (Nat.lt_of_lt_of_le gA hs9); have m2 := Nat.ne_of_lt (Nat.lt_of_lt_of_le vA hs9); have m3 := Nat.ne_of_lt (Nat.lt_of_lt_of_le uA hs9))
          | (go_at_call 47; with_reducible refine (DB _ _ hb8 hSE).mono ?_; rintro e' w9 ⟨⟨bq, nq, kq, mq, sq, aq, lq, cq, iq, aq2, lq2, cq2, rfl, hP9, hz9⟩, k0, k1, k2, k3, k4, k5, k6, k7, k8, k9, k10, k11, k12, k13⟩; obtain ⟨t0, t1, t2, t3, t4, t5, t6, t7, tff⟩ := eight_of hz9; have m1 := Nat.ne_of_lt (Nat.lt_of_lt_of_le gA hs8); have m2 := Nat.ne_of_lt (Nat.lt_of_lt_of_le vA hs8); have m3 := Nat.ne_of_lt (Nat.lt_of_lt_of_le uA hs8))
          | (go_at_call 47; with_reducible refine (DH _ _ _ hb8 (Nat.le_refl _) hl8 hz8 hSEc).mono ?_; rintro e' w9 ⟨⟨bq, nq, kq, mq, sq, aq, lq, cq, iq, aq2, lq2, cq2, rfl, hP9, hz9⟩, k0, k1, k2, k3, k4, k5, k6, k7, k8, k9, k10, k11, k12, k13⟩; obtain ⟨t0, t1, t2, t3, t4, t5, t6, t7, tff⟩ := eight_of hz9; have m1 := Nat.ne_of_lt gA; have m2 := Nat.ne_of_lt vA; have m3 := Nat.ne_of_lt uA))
      all_goals first
        | (obtain ⟨gb, hgb⟩ : ∃ gb, w9.heap.size = gb := ⟨_, rfl⟩; rw [hgb]; exact ⟨gb, ay, cy, bq, nq, kq, mq, sq, aq, lq, cq, iq, aq2, lq2, cq2, ⟨sPost_below hP9 ((Below.refl _ _).alloc (Nat.le_refl _) _), hgb ▸ alloc_at w9 _⟩, rfl⟩)
        | (obtain ⟨gb, hgb⟩ : ∃ gb, w8.heap.size = gb := ⟨_, rfl⟩; rw [hgb] at hz9 hP9 ⊢; exact ⟨gb, ay, cy, bq, nq, kq, mq, sq, aq, lq, cq, iq, aq2, lq2, cq2, ⟨hP9, set8_at hz9 _ _ _ _ _ _ _ _⟩, rfl⟩)
        | (obtain ⟨gb, hgb⟩ : ∃ gb, wA.heap.size = gb := ⟨_, rfl⟩; rw [hgb] at hz9 hP9 ⊢; exact ⟨gb, ay, cy, bq, nq, kq, mq, sq, aq, lq, cq, iq, aq2, lq2, cq2, ⟨hP9, set8_at hz9 _ _ _ _ _ _ _ _⟩, rfl⟩)
    rintro gb ay cy bq nq kq mq sq aq lq cq iq aq2 lq2 cq2 w9 ⟨hP9, hgb⟩
    clear C2A C2C DA DB DH DG WITH k0 k1 k2 k3 k4 k5 k6 k7 k8 k9 k10 k11 k12 k13 f2 f4 f5 f7 six ih
    have hw2 := ev_ok n b0 (j + 1) (.cons c vy (.cons f (.clo j (.fix f c b0) e) e)) (s.enter pp j) hok
    rw [ho2] at hw2
    rcases Ou.cases o2 with ⟨v3, s3, rfl⟩ | hbad
    · obtain ⟨x9, cv9, av9, hq, hv9, hR9, hK9⟩ := hP9
      injection hq with hq
      subst hq
      have hdep : s3.depth = s.depth + 1 := hw2.2.depth
      have h6 : w9.cell? ⟨rb, 6, none⟩ = some (.int .i64 ((s.depth : Int) + 1)) := by
        have h := hR9.at.2.2.2.2.2.2.1
        rw [hdep] at h
        exact h
      have HD := Lib.hid hdep
      have fz := hR9.fz
      have hs9 := hK9.size
      have hne : gb ≠ rb := fun e => by
        subst e
        have h0 := hR9.at.1
        rw [(eight_of hgb).1] at h0
        cases h0
      have hz10 := (Below.heap_setCell w9 ⟨rb, 6, none⟩ (.int .i64 (s.depth : Int)) (w.heap.size + 1 + 1) (by show _ ≠ rb; omega)).trans (hfin _ _ _ (K7.trans hK9))
      have hg10 := (Below.heap_setCell w9 ⟨rb, 6, none⟩ (.int .i64 (s.depth : Int)) gb hne).trans hgb
      have hR10 : RunS (AndX X (w.heap.size + 1 + 1)) rb cv9 av9 (w9.setCell ⟨rb, 6, none⟩ (.int .i64 (s.depth : Int))) s3.leave 0 := hR9.set 6 _ (by decide) (by simp [runL, St.leave, hdep]) rfl
      have K10 := (K7.trans hK9).set 6 (.int .i64 (s.depth : Int))
      have hv10 := hv9.keep (fun q hq => ((KepS.refl rb cv9 av9 w9).set 6 (.int .i64 (s.depth : Int))).safe hq)
      clear hdep hv9 hR9 hw2
      obtain ⟨g0, g1, g2, g3, g4, g5, g6, g7, _⟩ := eight_of hg10
      obtain ⟨t0, t1, t2, t3, t4, t5, t6, t7, tff⟩ := eight_of hz10
      go_wp2_with fail
      have h8 := eight_of (set8_at hz10 (.bool bq) (.int .i64 nq) (.int .u8 kq) (.int .i64 mq) (.string sq) (.slice aq lq cq) (.int .i64 iq) (.slice aq2 lq2 cq2))
      obtain ⟨r0, r1, r2, r3, r4, r5, r6, r7, _⟩ := h8
      unfold set8 at r0 r1 r2 r3 r4 r5 r6 r7
      refine bodyPost_ret (v := v8 bq nq kq mq sq aq lq cq iq aq2 lq2 cq2) (by simp [results, Tryz.results72, go_sem, r0, r1, r2, r3, r4, r5, r6, r7]) rfl ?_
      rw [HE.out]
      exact sv_out hR (by omega) (by simp; omega) hv10 hR10 (K2.trans K10) (hown _ _ _ K10)
    · obtain ⟨hq, hD9, cv9, av9, hK9⟩ := (sPost_bad hbad _ _ _ _ _ _).1 hP9
      injection hq with hq
      simp only [Value.agg.injEq, Array.mk.injEq, List.cons.injEq, and_true, Value.bool.injEq, Value.int.injEq, Value.string.injEq, Value.slice.injEq, true_and] at hq
      obtain ⟨rfl, rfl, rfl, rfl, rfl, ⟨rfl, rfl, rfl⟩, rfl, rfl, rfl, rfl⟩ := hq
      obtain ⟨n6, h6⟩ := hD9.c6
      have fz := hD9.fz
      have hne : gb ≠ rb := fun e => by
        subst e
        have h0 := hD9.c0
        rw [(eight_of hgb).1] at h0
        cases h0
      have hz10 := (Below.heap_setCell w9 ⟨rb, 6, none⟩ (.int .i64 (wrap64 (n6 - 1))) (w.heap.size + 1 + 1) (by show _ ≠ rb; omega)).trans (hfin _ _ _ (K7.trans hK9))
      have hg10 := (Below.heap_setCell w9 ⟨rb, 6, none⟩ (.int .i64 (wrap64 (n6 - 1))) gb hne).trans hgb
      have hD10 := hD9.set 6 (wrap64 (n6 - 1)) (by decide)
      have K10 := (K7.trans hK9).set 6 (.int .i64 (wrap64 (n6 - 1)))
      obtain ⟨g0, g1, g2, g3, g4, g5, g6, g7, _⟩ := eight_of hg10
      obtain ⟨t0, t1, t2, t3, t4, t5, t6, t7, tff⟩ := eight_of hz10
      go_wp2_with fail
      have h8 := eight_of (set8_at hz10 (.bool false) (.int .i64 0) (.int .u8 0) (.int .i64 0) (.string ⟨#[]⟩) (.slice none 0 0) (.int .i64 0) (.slice none 0 0))
      obtain ⟨r0, r1, r2, r3, r4, r5, r6, r7, _⟩ := h8
      unfold set8 at r0 r1 r2 r3 r4 r5 r6 r7
      refine bodyPost_ret (v := zero8) (by simp [results, Tryz.results72, go_sem, r0, r1, r2, r3, r4, r5, r6, r7]) rfl ?_
      rw [HE.out, show (o2.next fun z s => .ok z s.leave) = o2 by cases o2; exact hbad.elim; rfl; rfl]
      exact (sPost_bad hbad _ _ _ _ _ _).2 (dead_out (by omega) hrb K2 ⟨rfl, hD10, _, _, K10⟩)
end Go.Proofs.YtjfhncfbejephaaGreatDoor
