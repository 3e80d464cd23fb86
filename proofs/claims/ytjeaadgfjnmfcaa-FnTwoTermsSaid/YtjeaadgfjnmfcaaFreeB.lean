/- The specification's l1Free, at a binding. -/
import Derived.Test.YtjeaadgfjnmfcaaFreeA
namespace Go.Proofs.Ytjeaadgfjnmfcaa
open Go.RowKit
open Ff
set_option linter.unusedVariables false

attribute [local irreducible] Calls

set_option maxRecDepth 100000 in
set_option maxHeartbeats 4000000 in
theorem free_bind (n : Nat) (ih : FreeC n) (c : UInt8) (a b : Tm) (B : Nat) (v : Value) (w : World) (ht0 : a.depth ≤ n) (ht1 : b.depth ≤ n) (hn : n + 1 ≤ 1000) (hrep : Rep (fun g => g < B) w (.bind c a b) v) (hB : B ≤ w.heap.size) (hgd0 : a.good) (hgd1 : b.good) :
    Calls Try.prog 47 #[v] w fun e w' => e = .returned (.string ⟨(sortN (sfree a ++ lessN (sfree b) [c])).toArray⟩) ∧ Below w.heap.size w w' := by
  cases hrep with
  | mk _ g cap cs hg hc hk =>
  have hr0 := hk 0 a rfl
  obtain ⟨x0, y0, st0, aa0, l0, cc0, he0⟩ := hr0.junk
  have hq0 : Rep (fun g => g < B) w a (.agg #[.int .u8 x0, .int .i64 y0, .string st0, .slice aa0 l0 cc0]) := by rw [← he0]; exact hr0
  unfold four at he0
  simp only [Value.agg.injEq, Array.mk.injEq, List.cons.injEq, and_true, Nat.mul_zero, Nat.zero_add] at he0
  obtain ⟨i0, i1, i2, i3⟩ := he0
  have e0 := hc 0 (by simp [Tm.kids])
  rw [i0] at e0
  have e1 := hc 1 (by simp [Tm.kids])
  rw [i1] at e1
  have e2 := hc 2 (by simp [Tm.kids])
  rw [i2] at e2
  have e3 := hc 3 (by simp [Tm.kids])
  rw [i3] at e3
  have hr1 := hk 1 b rfl
  obtain ⟨x1, y1, st1, aa1, l1, cc1, he1⟩ := hr1.junk
  have hq1 : Rep (fun g => g < B) w b (.agg #[.int .u8 x1, .int .i64 y1, .string st1, .slice aa1 l1 cc1]) := by rw [← he1]; exact hr1
  unfold four at he1
  simp only [Value.agg.injEq, Array.mk.injEq, List.cons.injEq, and_true, Nat.mul_one, Nat.reduceAdd] at he1
  obtain ⟨i4, i5, i6, i7⟩ := he1
  have e4 := hc 4 (by simp [Tm.kids])
  rw [i4] at e4
  have e5 := hc 5 (by simp [Tm.kids])
  rw [i5] at e5
  have e6 := hc 6 (by simp [Tm.kids])
  rw [i6] at e6
  have e7 := hc 7 (by simp [Tm.kids])
  rw [i7] at e7
  have C0 : ∀ w', FreeS2 w [c] g cap x0 y0 st0 aa0 l0 cc0 x1 y1 st1 aa1 l1 cc1 w' → Calls Try.prog 47 #[.agg #[.int .u8 x0, .int .i64 y0, .string st0, .slice aa0 l0 cc0]] w' fun e w'' => e = .returned (.string ⟨(sfree a).toArray⟩) ∧ FreeS2 w [c] g cap x0 y0 st0 aa0 l0 cc0 x1 y1 st1 aa1 l1 cc1 w'' := fun w' hS => by
    obtain ⟨h0, h1, h2, h3, h4, h5, h6, h7, h8, h9, h10, h11⟩ := id hS
    exact (ih a B _ w' ht0 (by omega) (hq0.keep (fun g' hg' => h10.block g' (by omega)) (fun g' hg' => hg')) (by omega) hgd0).mono fun e w'' h => ⟨h.1, hS.keep (by omega) h.2⟩
  have C1 : ∀ w', FreeS2 w [c] g cap x0 y0 st0 aa0 l0 cc0 x1 y1 st1 aa1 l1 cc1 w' → Calls Try.prog 47 #[.agg #[.int .u8 x1, .int .i64 y1, .string st1, .slice aa1 l1 cc1]] w' fun e w'' => e = .returned (.string ⟨(sfree b).toArray⟩) ∧ FreeS2 w [c] g cap x0 y0 st0 aa0 l0 cc0 x1 y1 st1 aa1 l1 cc1 w'' := fun w' hS => by
    obtain ⟨h0, h1, h2, h3, h4, h5, h6, h7, h8, h9, h10, h11⟩ := id hS
    exact (ih b B _ w' ht1 (by omega) (hq1.keep (fun g' hg' => h10.block g' (by omega)) (fun g' hg' => hg')) (by omega) hgd1).mono fun e w'' h => ⟨h.1, hS.keep (by omega) h.2⟩
  have L : ∀ w', Calls Try.prog 62 #[.string ⟨(sfree b).toArray⟩, .string ⟨([c] : Text).toArray⟩] w' fun e w'' => e = .returned (.string ⟨(lessN (sfree b) [c]).toArray⟩) ∧ w'' = w' := fun w' => less_c _ _ w' (by have := sfree_len b; omega) (by simp)
  have R : ∀ w', FreeS2 w [c] g cap x0 y0 st0 aa0 l0 cc0 x1 y1 st1 aa1 l1 cc1 w' → Calls Try.prog 63 #[.string (⟨(sfree a).toArray⟩ ++ ⟨(lessN (sfree b) [c]).toArray⟩)] w' fun e w'' => e = .returned (.string ⟨(sortN (sfree a ++ lessN (sfree b) [c])).toArray⟩) ∧ FreeS2 w [c] g cap x0 y0 st0 aa0 l0 cc0 x1 y1 st1 aa1 l1 cc1 w'' := fun w' hS => by
    rw [str_app2]
    exact (sorted_c _ w' (by have := sfree_len a; have := sfree_len b; have := less_len (sfree b) [c]; simp; omega)).mono fun e w'' h => ⟨h.1, hS.keep (by omega) h.2⟩
  have z1 := sfree_len a
  have z2 : (lessN (sfree b) [c]).length ≤ 16 := Nat.le_trans (less_len _ _) (sfree_len _)
  have z3 : ¬ 9223372036854775807 < (sfree a).length + (lessN (sfree b) [c]).length := by omega
  clear hc hk ih hr0 hq0 hr1 hq1 i0 i1 i2 i3 i4 i5 i6 i7
  unfold tmHead
  show Calls Try.prog 47 #[.agg #[.int .u8 61, .int .i64 0, .string ⟨([c] : Text).toArray⟩, .slice (some ⟨g, 0, none⟩) 2 cap]] w _
  go_enter Try.func47, Try.ntmps47
  go_wp2_with fail
  have hW : FreeS2 w [c] g cap x0 y0 st0 aa0 l0 cc0 x1 y1 st1 aa1 l1 cc1 (w.alloc (.cells #[.int .u8 61, .int .i64 0, .string ⟨([c] : Text).toArray⟩, .slice (some ⟨g, 0, none⟩) 2 cap] 49)) := by
    have hb := (Below.refl w.heap.size w).alloc (Nat.le_refl _) (.cells #[.int .u8 61, .int .i64 0, .string ⟨([c] : Text).toArray⟩, .slice (some ⟨g, 0, none⟩) 2 cap] 49)
    refine ⟨?_, ?_, (hb.cell (p := ⟨g, 0, none⟩) (by simp; omega)).trans e0, (hb.cell (p := ⟨g, 1, none⟩) (by simp; omega)).trans e1, (hb.cell (p := ⟨g, 2, none⟩) (by simp; omega)).trans e2, (hb.cell (p := ⟨g, 3, none⟩) (by simp; omega)).trans e3, (hb.cell (p := ⟨g, 4, none⟩) (by simp; omega)).trans e4, (hb.cell (p := ⟨g, 5, none⟩) (by simp; omega)).trans e5, (hb.cell (p := ⟨g, 6, none⟩) (by simp; omega)).trans e6, (hb.cell (p := ⟨g, 7, none⟩) (by simp; omega)).trans e7, hb, by simp⟩
    · exact cell_new w [.int .u8 61, .int .i64 0, .string ⟨([c] : Text).toArray⟩, .slice (some ⟨g, 0, none⟩) 2 cap] 49 2
    · exact cell_new w [.int .u8 61, .int .i64 0, .string ⟨([c] : Text).toArray⟩, .slice (some ⟨g, 0, none⟩) 2 cap] 49 3
  obtain ⟨W1, hW1⟩ : ∃ W1, w.alloc (.cells #[.int .u8 61, .int .i64 0, .string ⟨([c] : Text).toArray⟩, .slice (some ⟨g, 0, none⟩) 2 cap] 49) = W1 := ⟨_, rfl⟩
  rw [hW1] at hW ⊢
  clear hW1
  obtain ⟨s0, s1, s2, s3, s4, s5, s6, s7, s8, s9, s10, s11⟩ := hW
  have s20 := s10.drew
  clear e0 e1 e2 e3 e4 e5 e6 e7
  go_region_held3 (fun w' => w'.cell? ⟨w.heap.size, 2, none⟩ = some (.string ⟨([c] : Text).toArray⟩) ∧ w'.cell? ⟨w.heap.size, 3, none⟩ = some (.slice (some ⟨g, 0, none⟩) 2 cap) ∧ w'.cell? ⟨g, 0, none⟩ = some (.int .u8 x0) ∧ w'.cell? ⟨g, 1, none⟩ = some (.int .i64 y0) ∧ w'.cell? ⟨g, 2, none⟩ = some (.string st0) ∧ w'.cell? ⟨g, 3, none⟩ = some (.slice aa0 l0 cc0) ∧ w'.cell? ⟨g, 4, none⟩ = some (.int .u8 x1) ∧ w'.cell? ⟨g, 5, none⟩ = some (.int .i64 y1) ∧ w'.cell? ⟨g, 6, none⟩ = some (.string st1) ∧ w'.cell? ⟨g, 7, none⟩ = some (.slice aa1 l1 cc1) ∧ Below w.heap.size w w' ∧ w.heap.size < w'.heap.size)
    (first | go_keep | refine ⟨?_, ?_, ?_, ?_, ?_, ?_, ?_, ?_, ?_, ?_, ?_, ?_⟩ <;> assumption)
    (first | (go_at_call 47; refine (C0 _ ?_).mono ?_; (refine ⟨?_, ?_, ?_, ?_, ?_, ?_, ?_, ?_, ?_, ?_, ?_, ?_⟩ <;> assumption); rintro e w2 ⟨rfl, h0, h1, h2, h3, h4, h5, h6, h7, h8, h9, h10, h11⟩) | (go_at_call 47; refine (C1 _ ?_).mono ?_; (refine ⟨?_, ?_, ?_, ?_, ?_, ?_, ?_, ?_, ?_, ?_, ?_, ?_⟩ <;> assumption); rintro e w2 ⟨rfl, h0, h1, h2, h3, h4, h5, h6, h7, h8, h9, h10, h11⟩) | (go_at_call 62; refine (L _).mono ?_; rintro e w2 ⟨rfl, rfl⟩) | (go_at_call 63; refine (R _ ?_).mono ?_; (refine ⟨?_, ?_, ?_, ?_, ?_, ?_, ?_, ?_, ?_, ?_, ?_, ?_⟩ <;> assumption); rintro e w2 ⟨rfl, h0, h1, h2, h3, h4, h5, h6, h7, h8, h9, h10, h11⟩))
  all_goals go_wp2_with fail
  all_goals go_ret
  all_goals exact ⟨rfl, by assumption⟩
end Go.Proofs.Ytjeaadgfjnmfcaa
