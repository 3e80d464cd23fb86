/- The model's reader of a text: what stands behind the first byte of a term: where a name and kids are read. -/
import Derived.Test.YtpiahmdgkmkhiaaWiA
namespace Go.Proofs.Ytpiahmdgkmkhiaa
open Go.RowKit
open Ff
set_option linter.unusedVariables false

set_option maxRecDepth 100000 in
set_option maxHeartbeats 4000000 in
theorem within_92 (m : Nat) (ih : TermS m) (ib : TermBad) (b : Nat) (T r : Text) (w : World) (h : Good b T r (24 - (m : Int)) w) (hl : T.length ≤ 1000) :
    Calls Try.prog 80 #[.pointer (some ⟨b, 0, none⟩), .int .u8 92] w (TermPostS b T (24 - (m : Int)) w (pFn (parse m) r)) := by
  have hbw : b < w.heap.size := Start.lt (s := some r) h
  have GG : Good b T r (24 - (m : Int)) (W0 w 92) := ((h.alloc _).alloc _).alloc _
  have G0 : Start b T (24 - (m : Int)) (W0 w 92) (some r) := GG
  have k4 : (W0 w 92).cell? ⟨b, 4, none⟩ = some (.bool false) := by obtain ⟨_, _, _, hs⟩ := GG; exact hs.c4
  have k5 : (W0 w 92).cell? ⟨b, 5, none⟩ = some (.bool false) := by obtain ⟨_, _, _, hs⟩ := GG; exact hs.c5
  unfold W0 at k4 k5
  go_enter Try.func80, Try.ntmps80
  go_wp2_with (first | (go_at_call 79; refine (l1In_c _ _ _ _).mono ?_; rintro e w' ⟨rfl, rfl⟩) | (go_at_call 66; refine (l1Letter_i _ (by omega) (by omega) _).mono ?_; rintro e w' ⟨rfl, rfl⟩))
  refine (snames_c 1 (by omega) b T r _ _ GG hl).mono ?_
  rintro e w1 ⟨out, rfl, hN, hg1⟩
  have F1 := (W0_fr w 92).keep hg1 hbw
  have S1 := (names_start hN).setFar (p := ⟨w.heap.size + 1 + 1, 2, none⟩) (by simp; omega) (.string ⟨out.toArray⟩)
  have z1s : (w1.setCell ⟨w.heap.size + 1 + 1, 2, none⟩ (.string ⟨out.toArray⟩)).heap.size = w1.heap.size := by simp [World.setCell]
  have hsz1 := hg1.size
  rw [W0_size] at hsz1
  have HZ := Lib.hid z1s
  clear z1s k4 k5
  obtain ⟨p0, p1, p2, p3, q0, q1, q2, q3, y0, y1, y2, y3, z0, z1, z2, z3, sz⟩ := id F1
  go_wp2_with fail
  clear p0 p1 p2 p3 q0 q1 q2 q3 y0 y1 y2 y3 z0 z1 z2 z3 sz
  refine (skids_c m 1 (by omega) ih ib b T _ _ S1 hl).mono ?_
  rintro e w2 ⟨v, rfl, hK, hg2⟩
  obtain ⟨g, cap, rfl⟩ := kids_shape hK
  obtain ⟨p0, p1, p2, p3, q0, q1, q2, q3, y0, y1, y2, y3, z0, z1, z2, z3, sz⟩ := (F1.set2 (.string ⟨out.toArray⟩)).keep hg2 hbw
  go_wp2_with fail
  have hNL := names_link hN
  have E : pFn (parse m) r = (kidsN m 1 ((namesN 1 r).map (·.2))).map fun x => (mkFn 0 (fun c => mk1 (Tm.fn c)) out x.1, x.2) := by
    rcases hn : name1 r with _ | ⟨c, r1⟩
    · simp [pFn, namesN, hn, kidsN_none]
    · have ho : out = [c] := by
        rcases hNL with h9 | ⟨rest, h9⟩
        · simp [namesN, hn] at h9
        · simp [namesN, hn] at h9; exact h9.1.symm
      subst ho
      have e1 : (namesN 1 r).map (·.2) = some r1 := by simp [namesN, hn]
      rw [e1]
      show _ = (kidsN m 1 (some r1)).map fun x => (mk1 (Tm.fn c) x.1, x.2)
      rw [kidsN1]
      simp only [pFn, hn, Option.bind_some]
  refine bodyPost_ret (v := .agg #[.int .u8 92, .int .i64 0, .string ⟨out.toArray⟩, .slice (some ⟨g, 0, none⟩) 1 cap]) (by simp [results, Try.results80, go_sem, p0, p1, p2, p3]) rfl ?_
  exact kids_fin hK (by omega) (by rw [HZ.out]; omega) (by rw [Wf_size]; simp [World.setCell]) (Wf_grown (grown_setNew (grownBy_trans (grown_setNew (grownBy_trans (W0_grown w 92 b) hg1) (by simp; omega) _) hg2) (by simp; omega) _) _ _ _ _)
    (fun g' h1 h2 => by rw [HZ.out] at h1; exact (Wf_heap _ _ _ _ _ _ _ (by omega)).trans (Below.heap_setCell _ _ _ _ (by simp; omega))) ((Wf_heap _ _ _ _ _ _ _ (by omega)).trans (Below.heap_setCell _ _ _ _ (by simp; omega))) _ _ (fun ts r' h9 h2 => by
      obtain ⟨x, rfl⟩ := of1 h2
      obtain ⟨c, rfl⟩ := out1 hN.1
      exact ⟨rfl, rfl⟩) ⟨_, _, _, _, _, _, rfl⟩ _ E

set_option maxRecDepth 100000 in
set_option maxHeartbeats 4000000 in
theorem within_61 (m : Nat) (ih : TermS m) (ib : TermBad) (b : Nat) (T r : Text) (w : World) (h : Good b T r (24 - (m : Int)) w) (hl : T.length ≤ 1000) :
    Calls Try.prog 80 #[.pointer (some ⟨b, 0, none⟩), .int .u8 61] w (TermPostS b T (24 - (m : Int)) w (pBind (parse m) r)) := by
  have hbw : b < w.heap.size := Start.lt (s := some r) h
  have GG : Good b T r (24 - (m : Int)) (W0 w 61) := ((h.alloc _).alloc _).alloc _
  have G0 : Start b T (24 - (m : Int)) (W0 w 61) (some r) := GG
  have k4 : (W0 w 61).cell? ⟨b, 4, none⟩ = some (.bool false) := by obtain ⟨_, _, _, hs⟩ := GG; exact hs.c4
  have k5 : (W0 w 61).cell? ⟨b, 5, none⟩ = some (.bool false) := by obtain ⟨_, _, _, hs⟩ := GG; exact hs.c5
  unfold W0 at k4 k5
  go_enter Try.func80, Try.ntmps80
  go_wp2_with (first | (go_at_call 79; refine (l1In_c _ _ _ _).mono ?_; rintro e w' ⟨rfl, rfl⟩) | (go_at_call 66; refine (l1Letter_i _ (by omega) (by omega) _).mono ?_; rintro e w' ⟨rfl, rfl⟩))
  refine (snames_c 1 (by omega) b T r _ _ GG hl).mono ?_
  rintro e w1 ⟨out, rfl, hN, hg1⟩
  have F1 := (W0_fr w 61).keep hg1 hbw
  have S1 := (names_start hN).setFar (p := ⟨w.heap.size + 1 + 1, 2, none⟩) (by simp; omega) (.string ⟨out.toArray⟩)
  have z1s : (w1.setCell ⟨w.heap.size + 1 + 1, 2, none⟩ (.string ⟨out.toArray⟩)).heap.size = w1.heap.size := by simp [World.setCell]
  have hsz1 := hg1.size
  rw [W0_size] at hsz1
  have HZ := Lib.hid z1s
  clear z1s k4 k5
  obtain ⟨p0, p1, p2, p3, q0, q1, q2, q3, y0, y1, y2, y3, z0, z1, z2, z3, sz⟩ := id F1
  go_wp2_with fail
  clear p0 p1 p2 p3 q0 q1 q2 q3 y0 y1 y2 y3 z0 z1 z2 z3 sz
  refine (skids_c m 2 (by omega) ih ib b T _ _ S1 hl).mono ?_
  rintro e w2 ⟨v, rfl, hK, hg2⟩
  obtain ⟨g, cap, rfl⟩ := kids_shape hK
  obtain ⟨p0, p1, p2, p3, q0, q1, q2, q3, y0, y1, y2, y3, z0, z1, z2, z3, sz⟩ := (F1.set2 (.string ⟨out.toArray⟩)).keep hg2 hbw
  go_wp2_with fail
  have hNL := names_link hN
  have E : pBind (parse m) r = (kidsN m 2 ((namesN 1 r).map (·.2))).map fun x => (mkFn 0 (fun c => mk2 (Tm.bind c)) out x.1, x.2) := by
    rcases hn : name1 r with _ | ⟨c, r1⟩
    · simp [pBind, namesN, hn, kidsN_none]
    · have ho : out = [c] := by
        rcases hNL with h9 | ⟨rest, h9⟩
        · simp [namesN, hn] at h9
        · simp [namesN, hn] at h9; exact h9.1.symm
      subst ho
      have e1 : (namesN 1 r).map (·.2) = some r1 := by simp [namesN, hn]
      rw [e1]
      show _ = (kidsN m 2 (some r1)).map fun x => (mk2 (Tm.bind c) x.1, x.2)
      rw [kidsN2]
      simp only [pBind, hn, Option.bind_some]
  refine bodyPost_ret (v := .agg #[.int .u8 61, .int .i64 0, .string ⟨out.toArray⟩, .slice (some ⟨g, 0, none⟩) 2 cap]) (by simp [results, Try.results80, go_sem, p0, p1, p2, p3]) rfl ?_
  exact kids_fin hK (by omega) (by rw [HZ.out]; omega) (by rw [Wf_size]; simp [World.setCell]) (Wf_grown (grown_setNew (grownBy_trans (grown_setNew (grownBy_trans (W0_grown w 61 b) hg1) (by simp; omega) _) hg2) (by simp; omega) _) _ _ _ _)
    (fun g' h1 h2 => by rw [HZ.out] at h1; exact (Wf_heap _ _ _ _ _ _ _ (by omega)).trans (Below.heap_setCell _ _ _ _ (by simp; omega))) ((Wf_heap _ _ _ _ _ _ _ (by omega)).trans (Below.heap_setCell _ _ _ _ (by simp; omega))) _ _ (fun ts r' h9 h2 => by
      obtain ⟨x, y, rfl⟩ := of2 h2
      obtain ⟨c, rfl⟩ := out1 hN.1
      exact ⟨rfl, rfl⟩) ⟨_, _, _, _, _, _, rfl⟩ _ E

end Go.Proofs.Ytpiahmdgkmkhiaa
