/- The model's reader of a text: what stands behind the first byte of a term: two names, and a call. -/
import Derived.Test.YtpiahmdgkmkhiaaWiC
import Derived.RegionTactic
import Derived.ChangeAlike
import Derived.BigRegion
namespace Go.Proofs.Ytpiahmdgkmkhiaa
open Go.RowKit
open Ff
set_option linter.unusedVariables false

theorem ba0 (c d : UInt8) (h : 0 < (⟨#[c, d]⟩ : ByteArray).size) : (⟨#[c, d]⟩ : ByteArray)[0] = c := rfl
theorem ba1 (c d : UInt8) (h : 1 < (⟨#[c, d]⟩ : ByteArray).size) : (⟨#[c, d]⟩ : ByteArray)[1] = d := rfl
attribute [local go_sem] ba0 ba1
set_option maxRecDepth 100000 in
set_option maxHeartbeats 4000000 in
theorem within_64 (m : Nat) (ih : TermS m) (ib : TermBad) (b : Nat) (T r : Text) (w : World) (h : Good b T r (24 - (m : Int)) w) (hl : T.length ≤ 1000) :
    Calls Try.prog 80 #[.pointer (some ⟨b, 0, none⟩), .int .u8 64] w (TermPostS b T (24 - (m : Int)) w (pFix (parse m) r)) := by
  have hbw : b < w.heap.size := Start.lt (s := some r) h
  have GG : Good b T r (24 - (m : Int)) (W0 w 64) := ((h.alloc _).alloc _).alloc _
  have G0 : Start b T (24 - (m : Int)) (W0 w 64) (some r) := GG
  have k4 : (W0 w 64).cell? ⟨b, 4, none⟩ = some (.bool false) := by obtain ⟨_, _, _, hs⟩ := GG; exact hs.c4
  have k5 : (W0 w 64).cell? ⟨b, 5, none⟩ = some (.bool false) := by obtain ⟨_, _, _, hs⟩ := GG; exact hs.c5
  unfold W0 at k4 k5
  go_enter Try.func80, Try.ntmps80
  go_wp2_with (first | (go_at_call 79; refine (l1In_c _ _ _ _).mono ?_; rintro e w' ⟨rfl, rfl⟩) | (go_at_call 66; refine (l1Letter_i _ (by omega) (by omega) _).mono ?_; rintro e w' ⟨rfl, rfl⟩))
  refine (snames_c 2 (by omega) b T r _ _ GG hl).mono ?_
  rintro e w1 ⟨out, rfl, hN, hg1⟩
  obtain ⟨c, d, rfl⟩ := out2 hN.1
  have F1 := (W0_fr w 64).keep hg1 hbw
  have S1 := (names_start hN).setFar (p := ⟨w.heap.size + 1 + 1, 2, none⟩) (by simp; omega) (.string ⟨[c, d].toArray⟩)
  have F2 := F1.set2 (.string ⟨[c, d].toArray⟩)
  have hsz1 := hg1.size
  rw [W0_size] at hsz1
  have hNL := names_link hN
  clear k4 k5
  obtain ⟨p0, p1, p2, p3, q0, q1, q2, q3, y0, y1, y2, y3, z0, z1, z2, z3, sz⟩ := id F1
  go_wp2_with fail
  clear p0 p1 p2 p3 q0 q1 q2 q3 y0 y1 y2 y3 z0 z1 z2 z3 sz
  obtain ⟨p0, p1, p2, p3, q0, q1, q2, q3, y0, y1, y2, y3, z0, z1, z2, z3, sz⟩ := id F2
  rcases hs : namesN 2 r with _ | ⟨o2, r2⟩
  · rw [hs] at S1
    obtain ⟨a9, d9, ha9, hsr9⟩ := id S1
    obtain ⟨c0, c1, c2, c3, c4, c5, f1, f2, f3⟩ := id hsr9
    have HS := Lib.hid hs
    clear hs
    have S2 : Start b T (24 - (m : Int)) (((w1.setCell ⟨w.heap.size + 1 + 1, 2, none⟩ (.string ⟨[c, d].toArray⟩)).setCell ⟨b, 2, none⟩ (.bool true)).drew) (none) := ⟨a9, d9, ha9, (hsr9.setBad true).drew⟩
    go_region
    go_wp2_with fail
    clear p0 p1 p2 p3 q0 q1 q2 q3 y0 y1 y2 y3 z0 z1 z2 z3 sz c0 c1 c2 c3 c4 c5 f1 f2 f3
    have HZ := Lib.hid (show (((w1.setCell ⟨w.heap.size + 1 + 1, 2, none⟩ (.string ⟨[c, d].toArray⟩)).setCell ⟨b, 2, none⟩ (.bool true)).drew).heap.size = w1.heap.size by simp [World.setCell])
    refine (skids_c m 1 (by omega) ih ib b T _ _ S2 hl).mono ?_
    rintro e w2 ⟨v, rfl, hK, hg2⟩
    obtain ⟨g, cap, rfl⟩ := kids_shape hK
    obtain ⟨p0, p1, p2, p3, q0, q1, q2, q3, y0, y1, y2, y3, z0, z1, z2, z3, sz⟩ := ((F2.setRd hbw 2 (.bool true)).drew).keep hg2 hbw
    go_wp2_with fail
    have E : pFix (parse m) r = (kidsN m 1 (none)).map fun x => (mk1 (Tm.fix c d) x.1, x.2) := by
      rw [pFix_names, HS.out, kidsN_none]; rfl
    refine bodyPost_ret (v := .agg #[.int .u8 64, .int .i64 0, .string ⟨[c, d].toArray⟩, .slice (some ⟨g, 0, none⟩) 1 cap]) (by simp [results, Try.results80, go_sem, p0, p1, p2, p3]) rfl ?_
    exact kids_fin hK (by omega) (by rw [HZ.out]; omega) (by rw [Wf_size]; simp [World.setCell]) (Wf_grown (grown_setNew (grownBy_trans (grown_drew (grownBy_set (grown_setNew (grownBy_trans (W0_grown w 64 b) hg1) (by simp; omega) _) _ _)) hg2) (by simp; omega) _) _ _ _ _)
      (fun g' h1 h2 => by rw [HZ.out] at h1; exact (Wf_heap _ _ _ _ _ _ _ (by omega)).trans (Below.heap_setCell _ _ _ _ (by simp; omega))) ((Wf_heap _ _ _ _ _ _ _ (by omega)).trans (Below.heap_setCell _ _ _ _ (by simp; omega))) _ _ (fun ts r' h9 h2 => by
        obtain ⟨x, rfl⟩ := of1 h2
        exact ⟨rfl, rfl⟩) ⟨_, _, _, _, _, _, rfl⟩ _ E
  · rw [hs] at S1
    obtain ⟨a9, ha9, hd9, hsr9⟩ := id S1
    obtain ⟨c0, c1, c2, c3, c4, c5, f1, f2, f3⟩ := id hsr9
    have ho : o2 = [c, d] := by
      rcases hNL with h9 | ⟨rest, h9⟩
      · rw [hs] at h9; simp at h9
      · rw [hs] at h9; simp at h9; exact h9.1
    subst ho
    have HS := Lib.hid hs
    have HD := Lib.hid hd9
    clear hs hd9 hNL
    by_cases hcd : c = d
    · subst hcd
      have S2 : Start b T (24 - (m : Int)) (((w1.setCell ⟨w.heap.size + 1 + 1, 2, none⟩ (.string ⟨[c, c].toArray⟩)).setCell ⟨b, 2, none⟩ (.bool true)).drew) (none) := ⟨a9, _, ha9, (hsr9.setBad true).drew⟩
      go_region
      go_wp2_with fail
      clear p0 p1 p2 p3 q0 q1 q2 q3 y0 y1 y2 y3 z0 z1 z2 z3 sz c0 c1 c2 c3 c4 c5 f1 f2 f3
      have HZ := Lib.hid (show (((w1.setCell ⟨w.heap.size + 1 + 1, 2, none⟩ (.string ⟨[c, c].toArray⟩)).setCell ⟨b, 2, none⟩ (.bool true)).drew).heap.size = w1.heap.size by simp [World.setCell])
      refine (skids_c m 1 (by omega) ih ib b T _ _ S2 hl).mono ?_
      rintro e w2 ⟨v, rfl, hK, hg2⟩
      obtain ⟨g, cap, rfl⟩ := kids_shape hK
      obtain ⟨p0, p1, p2, p3, q0, q1, q2, q3, y0, y1, y2, y3, z0, z1, z2, z3, sz⟩ := ((F2.setRd hbw 2 (.bool true)).drew).keep hg2 hbw
      go_wp2_with fail
      have E : pFix (parse m) r = (kidsN m 1 (none)).map fun x => (mk1 (Tm.fix c c) x.1, x.2) := by
        rw [pFix_names, HS.out, kidsN_none]; simp
      refine bodyPost_ret (v := .agg #[.int .u8 64, .int .i64 0, .string ⟨[c, c].toArray⟩, .slice (some ⟨g, 0, none⟩) 1 cap]) (by simp [results, Try.results80, go_sem, p0, p1, p2, p3]) rfl ?_
      exact kids_fin hK (by omega) (by rw [HZ.out]; omega) (by rw [Wf_size]; simp [World.setCell]) (Wf_grown (grown_setNew (grownBy_trans (grown_drew (grownBy_set (grown_setNew (grownBy_trans (W0_grown w 64 b) hg1) (by simp; omega) _) _ _)) hg2) (by simp; omega) _) _ _ _ _)
        (fun g' h1 h2 => by rw [HZ.out] at h1; exact (Wf_heap _ _ _ _ _ _ _ (by omega)).trans (Below.heap_setCell _ _ _ _ (by simp; omega))) ((Wf_heap _ _ _ _ _ _ _ (by omega)).trans (Below.heap_setCell _ _ _ _ (by simp; omega))) _ _ (fun ts r' h9 h2 => by
          obtain ⟨x, rfl⟩ := of1 h2
          exact ⟨rfl, rfl⟩) ⟨_, _, _, _, _, _, rfl⟩ _ E
    · have hq : ((c.toNat : Int) == (d.toNat : Int)) = false := by
        rw [beq_eq_false_iff_ne]; intro h9; exact hcd (UInt8.toNat_inj.1 (by omega))
      have HCD := Lib.hid hcd
      clear hcd
      have S2 : Start b T (24 - (m : Int)) (((w1.setCell ⟨w.heap.size + 1 + 1, 2, none⟩ (.string ⟨[c, d].toArray⟩)).setCell ⟨b, 2, none⟩ (.bool false)).drew) (some r2) := ⟨a9, ha9, HD.out, (hsr9.setBad false).drew⟩
      go_region
      go_wp2_with fail
      clear p0 p1 p2 p3 q0 q1 q2 q3 y0 y1 y2 y3 z0 z1 z2 z3 sz c0 c1 c2 c3 c4 c5 f1 f2 f3
      have HZ := Lib.hid (show (((w1.setCell ⟨w.heap.size + 1 + 1, 2, none⟩ (.string ⟨[c, d].toArray⟩)).setCell ⟨b, 2, none⟩ (.bool false)).drew).heap.size = w1.heap.size by simp [World.setCell])
      refine (skids_c m 1 (by omega) ih ib b T _ _ S2 hl).mono ?_
      rintro e w2 ⟨v, rfl, hK, hg2⟩
      obtain ⟨g, cap, rfl⟩ := kids_shape hK
      obtain ⟨p0, p1, p2, p3, q0, q1, q2, q3, y0, y1, y2, y3, z0, z1, z2, z3, sz⟩ := ((F2.setRd hbw 2 (.bool false)).drew).keep hg2 hbw
      go_wp2_with fail
      have E : pFix (parse m) r = (kidsN m 1 (some r2)).map fun x => (mk1 (Tm.fix c d) x.1, x.2) := by
        rw [pFix_names, HS.out, kidsN1]; simp [HCD.out]
      refine bodyPost_ret (v := .agg #[.int .u8 64, .int .i64 0, .string ⟨[c, d].toArray⟩, .slice (some ⟨g, 0, none⟩) 1 cap]) (by simp [results, Try.results80, go_sem, p0, p1, p2, p3]) rfl ?_
      exact kids_fin hK (by omega) (by rw [HZ.out]; omega) (by rw [Wf_size]; simp [World.setCell]) (Wf_grown (grown_setNew (grownBy_trans (grown_drew (grownBy_set (grown_setNew (grownBy_trans (W0_grown w 64 b) hg1) (by simp; omega) _) _ _)) hg2) (by simp; omega) _) _ _ _ _)
        (fun g' h1 h2 => by rw [HZ.out] at h1; exact (Wf_heap _ _ _ _ _ _ _ (by omega)).trans (Below.heap_setCell _ _ _ _ (by simp; omega))) ((Wf_heap _ _ _ _ _ _ _ (by omega)).trans (Below.heap_setCell _ _ _ _ (by simp; omega))) _ _ (fun ts r' h9 h2 => by
          obtain ⟨x, rfl⟩ := of1 h2
          exact ⟨rfl, rfl⟩) ⟨_, _, _, _, _, _, rfl⟩ _ E
end Go.Proofs.Ytpiahmdgkmkhiaa
