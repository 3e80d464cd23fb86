/- The model's reader of a text: what stands behind the first byte of a term: where kids alone are read. -/
import Derived.Test.YtpiahmdgkmkhiaaWiA
namespace Go.Proofs.Ytpiahmdgkmkhiaa
open Go.RowKit
open Ff
set_option linter.unusedVariables false

set_option maxRecDepth 100000 in
set_option maxHeartbeats 4000000 in
theorem within_43 (m : Nat) (ih : TermS m) (ib : TermBad) (b : Nat) (T r : Text) (w : World) (h : Good b T r (24 - (m : Int)) w) (hl : T.length ≤ 1000) :
    Calls Try.prog 80 #[.pointer (some ⟨b, 0, none⟩), .int .u8 43] w (TermPostS b T (24 - (m : Int)) w (pOp (parse m) 43 r)) := by
  have hbw : b < w.heap.size := Start.lt (s := some r) h
  have GG : Good b T r (24 - (m : Int)) (W0 w 43) := ((h.alloc _).alloc _).alloc _
  have G0 : Start b T (24 - (m : Int)) (W0 w 43) (some r) := GG
  have k4 : (W0 w 43).cell? ⟨b, 4, none⟩ = some (.bool false) := by obtain ⟨_, _, _, hs⟩ := GG; exact hs.c4
  have k5 : (W0 w 43).cell? ⟨b, 5, none⟩ = some (.bool false) := by obtain ⟨_, _, _, hs⟩ := GG; exact hs.c5
  unfold W0 at k4 k5
  go_enter Try.func80, Try.ntmps80
  go_wp2_with (first | (go_at_call 79; refine (l1In_c _ _ _ _).mono ?_; rintro e w' ⟨rfl, rfl⟩) | (go_at_call 66; refine (l1Letter_i _ (by omega) (by omega) _).mono ?_; rintro e w' ⟨rfl, rfl⟩))
  refine (skids_c m 2 (by omega) ih ib b T (some r) _ G0 hl).mono ?_
  rintro e w1 ⟨v, rfl, hK, hg1⟩
  obtain ⟨g, cap, rfl⟩ := kids_shape hK
  obtain ⟨p0, p1, p2, p3, q0, q1, q2, q3, y0, y1, y2, y3, z0, z1, z2, z3, sz⟩ := (W0_fr w 43).keep hg1 hbw
  clear k4 k5
  go_wp2_with fail
  have E : pOp (parse m) 43 r = (kidsN m 2 (some r)).map fun x => (mk2 (Tm.op 43) x.1, x.2) := by rw [kidsN2]; rfl
  refine bodyPost_ret (v := .agg #[.int .u8 43, .int .i64 0, .string ⟨#[]⟩, .slice (some ⟨g, 0, none⟩) 2 cap]) (by simp [results, Try.results80, go_sem, p0, p1, p2, p3]) rfl ?_
  exact kids_fin hK (by omega) (by rw [W0_size]; omega) (by rw [Wf_size]; simp [World.setCell]) (Wf_grown (grown_setNew (grownBy_trans (W0_grown w 43 b) hg1) (by simp; omega) _) _ _ _ _)
    (fun g' h1 h2 => by rw [W0_size] at h1; exact (Wf_heap _ _ _ _ _ _ _ (by omega)).trans (Below.heap_setCell _ _ _ _ (by simp; omega))) ((Wf_heap _ _ _ _ _ _ _ (by omega)).trans (Below.heap_setCell _ _ _ _ (by simp; omega))) _ _ (fun ts r h h2 => by obtain ⟨x, y, rfl⟩ := of2 h2; exact ⟨rfl, rfl⟩) ⟨_, _, _, _, _, _, rfl⟩ _ E

set_option maxRecDepth 100000 in
set_option maxHeartbeats 4000000 in
theorem within_45 (m : Nat) (ih : TermS m) (ib : TermBad) (b : Nat) (T r : Text) (w : World) (h : Good b T r (24 - (m : Int)) w) (hl : T.length ≤ 1000) :
    Calls Try.prog 80 #[.pointer (some ⟨b, 0, none⟩), .int .u8 45] w (TermPostS b T (24 - (m : Int)) w (pOp (parse m) 45 r)) := by
  have hbw : b < w.heap.size := Start.lt (s := some r) h
  have GG : Good b T r (24 - (m : Int)) (W0 w 45) := ((h.alloc _).alloc _).alloc _
  have G0 : Start b T (24 - (m : Int)) (W0 w 45) (some r) := GG
  have k4 : (W0 w 45).cell? ⟨b, 4, none⟩ = some (.bool false) := by obtain ⟨_, _, _, hs⟩ := GG; exact hs.c4
  have k5 : (W0 w 45).cell? ⟨b, 5, none⟩ = some (.bool false) := by obtain ⟨_, _, _, hs⟩ := GG; exact hs.c5
  unfold W0 at k4 k5
  go_enter Try.func80, Try.ntmps80
  go_wp2_with (first | (go_at_call 79; refine (l1In_c _ _ _ _).mono ?_; rintro e w' ⟨rfl, rfl⟩) | (go_at_call 66; refine (l1Letter_i _ (by omega) (by omega) _).mono ?_; rintro e w' ⟨rfl, rfl⟩))
  refine (skids_c m 2 (by omega) ih ib b T (some r) _ G0 hl).mono ?_
  rintro e w1 ⟨v, rfl, hK, hg1⟩
  obtain ⟨g, cap, rfl⟩ := kids_shape hK
  obtain ⟨p0, p1, p2, p3, q0, q1, q2, q3, y0, y1, y2, y3, z0, z1, z2, z3, sz⟩ := (W0_fr w 45).keep hg1 hbw
  clear k4 k5
  go_wp2_with fail
  have E : pOp (parse m) 45 r = (kidsN m 2 (some r)).map fun x => (mk2 (Tm.op 45) x.1, x.2) := by rw [kidsN2]; rfl
  refine bodyPost_ret (v := .agg #[.int .u8 45, .int .i64 0, .string ⟨#[]⟩, .slice (some ⟨g, 0, none⟩) 2 cap]) (by simp [results, Try.results80, go_sem, p0, p1, p2, p3]) rfl ?_
  exact kids_fin hK (by omega) (by rw [W0_size]; omega) (by rw [Wf_size]; simp [World.setCell]) (Wf_grown (grown_setNew (grownBy_trans (W0_grown w 45 b) hg1) (by simp; omega) _) _ _ _ _)
    (fun g' h1 h2 => by rw [W0_size] at h1; exact (Wf_heap _ _ _ _ _ _ _ (by omega)).trans (Below.heap_setCell _ _ _ _ (by simp; omega))) ((Wf_heap _ _ _ _ _ _ _ (by omega)).trans (Below.heap_setCell _ _ _ _ (by simp; omega))) _ _ (fun ts r h h2 => by obtain ⟨x, y, rfl⟩ := of2 h2; exact ⟨rfl, rfl⟩) ⟨_, _, _, _, _, _, rfl⟩ _ E

set_option maxRecDepth 100000 in
set_option maxHeartbeats 4000000 in
theorem within_42 (m : Nat) (ih : TermS m) (ib : TermBad) (b : Nat) (T r : Text) (w : World) (h : Good b T r (24 - (m : Int)) w) (hl : T.length ≤ 1000) :
    Calls Try.prog 80 #[.pointer (some ⟨b, 0, none⟩), .int .u8 42] w (TermPostS b T (24 - (m : Int)) w (pOp (parse m) 42 r)) := by
  have hbw : b < w.heap.size := Start.lt (s := some r) h
  have GG : Good b T r (24 - (m : Int)) (W0 w 42) := ((h.alloc _).alloc _).alloc _
  have G0 : Start b T (24 - (m : Int)) (W0 w 42) (some r) := GG
  have k4 : (W0 w 42).cell? ⟨b, 4, none⟩ = some (.bool false) := by obtain ⟨_, _, _, hs⟩ := GG; exact hs.c4
  have k5 : (W0 w 42).cell? ⟨b, 5, none⟩ = some (.bool false) := by obtain ⟨_, _, _, hs⟩ := GG; exact hs.c5
  unfold W0 at k4 k5
  go_enter Try.func80, Try.ntmps80
  go_wp2_with (first | (go_at_call 79; refine (l1In_c _ _ _ _).mono ?_; rintro e w' ⟨rfl, rfl⟩) | (go_at_call 66; refine (l1Letter_i _ (by omega) (by omega) _).mono ?_; rintro e w' ⟨rfl, rfl⟩))
  refine (skids_c m 2 (by omega) ih ib b T (some r) _ G0 hl).mono ?_
  rintro e w1 ⟨v, rfl, hK, hg1⟩
  obtain ⟨g, cap, rfl⟩ := kids_shape hK
  obtain ⟨p0, p1, p2, p3, q0, q1, q2, q3, y0, y1, y2, y3, z0, z1, z2, z3, sz⟩ := (W0_fr w 42).keep hg1 hbw
  clear k4 k5
  go_wp2_with fail
  have E : pOp (parse m) 42 r = (kidsN m 2 (some r)).map fun x => (mk2 (Tm.op 42) x.1, x.2) := by rw [kidsN2]; rfl
  refine bodyPost_ret (v := .agg #[.int .u8 42, .int .i64 0, .string ⟨#[]⟩, .slice (some ⟨g, 0, none⟩) 2 cap]) (by simp [results, Try.results80, go_sem, p0, p1, p2, p3]) rfl ?_
  exact kids_fin hK (by omega) (by rw [W0_size]; omega) (by rw [Wf_size]; simp [World.setCell]) (Wf_grown (grown_setNew (grownBy_trans (W0_grown w 42 b) hg1) (by simp; omega) _) _ _ _ _)
    (fun g' h1 h2 => by rw [W0_size] at h1; exact (Wf_heap _ _ _ _ _ _ _ (by omega)).trans (Below.heap_setCell _ _ _ _ (by simp; omega))) ((Wf_heap _ _ _ _ _ _ _ (by omega)).trans (Below.heap_setCell _ _ _ _ (by simp; omega))) _ _ (fun ts r h h2 => by obtain ⟨x, y, rfl⟩ := of2 h2; exact ⟨rfl, rfl⟩) ⟨_, _, _, _, _, _, rfl⟩ _ E

set_option maxRecDepth 100000 in
set_option maxHeartbeats 4000000 in
theorem within_63 (m : Nat) (ih : TermS m) (ib : TermBad) (b : Nat) (T r : Text) (w : World) (h : Good b T r (24 - (m : Int)) w) (hl : T.length ≤ 1000) :
    Calls Try.prog 80 #[.pointer (some ⟨b, 0, none⟩), .int .u8 63] w (TermPostS b T (24 - (m : Int)) w (pSel (parse m) r)) := by
  have hbw : b < w.heap.size := Start.lt (s := some r) h
  have GG : Good b T r (24 - (m : Int)) (W0 w 63) := ((h.alloc _).alloc _).alloc _
  have G0 : Start b T (24 - (m : Int)) (W0 w 63) (some r) := GG
  have k4 : (W0 w 63).cell? ⟨b, 4, none⟩ = some (.bool false) := by obtain ⟨_, _, _, hs⟩ := GG; exact hs.c4
  have k5 : (W0 w 63).cell? ⟨b, 5, none⟩ = some (.bool false) := by obtain ⟨_, _, _, hs⟩ := GG; exact hs.c5
  unfold W0 at k4 k5
  go_enter Try.func80, Try.ntmps80
  go_wp2_with (first | (go_at_call 79; refine (l1In_c _ _ _ _).mono ?_; rintro e w' ⟨rfl, rfl⟩) | (go_at_call 66; refine (l1Letter_i _ (by omega) (by omega) _).mono ?_; rintro e w' ⟨rfl, rfl⟩))
  refine (skids_c m 3 (by omega) ih ib b T (some r) _ G0 hl).mono ?_
  rintro e w1 ⟨v, rfl, hK, hg1⟩
  obtain ⟨g, cap, rfl⟩ := kids_shape hK
  obtain ⟨p0, p1, p2, p3, q0, q1, q2, q3, y0, y1, y2, y3, z0, z1, z2, z3, sz⟩ := (W0_fr w 63).keep hg1 hbw
  clear k4 k5
  go_wp2_with fail
  have E : pSel (parse m) r = (kidsN m 3 (some r)).map fun x => (mk3 (Tm.sel) x.1, x.2) := by rw [kidsN3]; rfl
  refine bodyPost_ret (v := .agg #[.int .u8 63, .int .i64 0, .string ⟨#[]⟩, .slice (some ⟨g, 0, none⟩) 3 cap]) (by simp [results, Try.results80, go_sem, p0, p1, p2, p3]) rfl ?_
  exact kids_fin hK (by omega) (by rw [W0_size]; omega) (by rw [Wf_size]; simp [World.setCell]) (Wf_grown (grown_setNew (grownBy_trans (W0_grown w 63 b) hg1) (by simp; omega) _) _ _ _ _)
    (fun g' h1 h2 => by rw [W0_size] at h1; exact (Wf_heap _ _ _ _ _ _ _ (by omega)).trans (Below.heap_setCell _ _ _ _ (by simp; omega))) ((Wf_heap _ _ _ _ _ _ _ (by omega)).trans (Below.heap_setCell _ _ _ _ (by simp; omega))) _ _ (fun ts r h h2 => by obtain ⟨x, y, z, rfl⟩ := of3 h2; exact ⟨rfl, rfl⟩) ⟨_, _, _, _, _, _, rfl⟩ _ E

end Go.Proofs.Ytpiahmdgkmkhiaa
