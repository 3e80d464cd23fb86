/- The model's drawn inputs: l1Draw, a step. -/
import Derived.Test.YtjeaadgfjnmfcaaDrC
namespace Go.Proofs.Ytjeaadgfjnmfcaa
open Go.RowKit
open Ff
set_option linter.unusedVariables false
set_option linter.unusedSimpArgs false
attribute [local irreducible] Calls

theorem lit_size (s : Text) : (⟨s.toArray⟩ : ByteArray).size = s.length := size_data s
set_option maxRecDepth 100000 in
set_option maxHeartbeats 8000000 in
theorem draw_step (n : Nat) (ih : DrawC n) : DrawC (n + 1) := by
  intro b a l c p names w h hp hn hm
  have hD : DG b a l c w p w := ⟨h, World.grownBy.refl _ _⟩
  clear h
  simp only [dN] at hp ⊢
  have hM : ∀ s : ByteArray, s.size ≤ 3 * dM n + 7 → s.size ≤ dM (n + 1) := fun s hs => hs
  have hm1 : 3 * dM n + 7 ≤ 100000 := hm
  clear hm
  generalize dM (n + 1) = M at hM ⊢
  have C := fun (p : Nat) (names : ByteArray) (w' : World) (h : DG b a l c w p w') (hp : p + dN n ≤ 100000) (hn : names.size + n ≤ 100) => ih.g h hp hn (by omega)
  generalize dN n = N at hp C ⊢
  generalize dM n = L at hm1 hM C ⊢
  clear ih
  have hn0 : ((n : Int) + 1 == 0) = false := by simp; omega
  have hd1 : (⟨#[100]⟩ : ByteArray).size = 1 := rfl
  show Calls Try.prog 67 #[.pointer (some ⟨b, 0, none⟩), .string names, .int .i64 ((n : Int) + 1)] w _
  by_cases h0 : names.size = 0
  · obtain rfl := bare h0
    go_enter Try.func67, Try.ntmps67
    go_wp2_with fail
    refine (pick_g hD _ (by omega) (by omega) (by omega)).mono ?_; rintro e w1 ⟨k1, rfl, hk1, hD1⟩
    go_wp2_with fail
    · refine (of_g hD1 [[49], [48], [50], [55], [53], [35, 52, 50]] _ 3 (by decide) (by omega) (by decide) (by decide)).mono ?_; rintro e w2 ⟨s, hs, rfl, hD2⟩
      go_wp2_with fail
      go_ret
      exact ⟨s, _, rfl, hM s (by omega), by omega, hD2.dr, hD2.gr⟩
    · refine (of_g hD1 [[97], [98], [99]] _ 1 (by decide) (by omega) (by decide) (by decide)).mono ?_; rintro e w2 ⟨x, hx, rfl, hD2⟩
      go_wp2_with fail
      refine (pick_g hD2 _ (by omega) (by omega) (by omega)).mono ?_; rintro e w3 ⟨k2, rfl, hk2, hD3⟩
      obtain rfl | rfl | rfl | rfl | rfl | rfl | rfl | rfl | rfl | rfl : k2 = 0 ∨ k2 = 1 ∨ k2 = 2 ∨ k2 = 3 ∨ k2 = 4 ∨ k2 = 5 ∨ k2 = 6 ∨ k2 = 7 ∨ k2 = 8 ∨ k2 = 9 := by omega
      · go_wp2_with fail
        refine (C _ _ _ hD3 (by omega) (by omega)).mono ?_; rintro e w4 ⟨s3, p3, rfl, hs3, hp3, hD4⟩
        go_wp2_with fail
        refine (of_g hD4 [[43], [42], [45]] _ 1 (by decide) (by omega) (by decide) (by decide)).mono ?_; rintro e w5 ⟨s4, hs4, rfl, hD5⟩
        go_wp2_with fail
        refine (C _ _ _ hD5 (by omega) (by omega)).mono ?_; rintro e w6 ⟨s5, p5, rfl, hs5, hp5, hD6⟩
        go_wp2_with fail
        go_ret
        exact ⟨_, _, rfl, hM _ (by simp only [ByteArray.size_append, lit_size, List.length_cons, List.length_nil]; omega), by omega, hD6.dr, hD6.gr⟩
      · go_wp2_with fail
        refine (C _ _ _ hD3 (by omega) (by omega)).mono ?_; rintro e w4 ⟨s3, p3, rfl, hs3, hp3, hD4⟩
        go_wp2_with fail
        refine (of_g hD4 [[43], [42], [45]] _ 1 (by decide) (by omega) (by decide) (by decide)).mono ?_; rintro e w5 ⟨s4, hs4, rfl, hD5⟩
        go_wp2_with fail
        refine (C _ _ _ hD5 (by omega) (by omega)).mono ?_; rintro e w6 ⟨s5, p5, rfl, hs5, hp5, hD6⟩
        go_wp2_with fail
        go_ret
        exact ⟨_, _, rfl, hM _ (by simp only [ByteArray.size_append, lit_size, List.length_cons, List.length_nil]; omega), by omega, hD6.dr, hD6.gr⟩
      · go_wp2_with fail
        refine (C _ _ _ hD3 (by omega) (by omega)).mono ?_; rintro e w4 ⟨s3, p3, rfl, hs3, hp3, hD4⟩
        go_wp2_with fail
        refine (C _ _ _ hD4 (by omega) (by omega)).mono ?_; rintro e w5 ⟨s4, p4, rfl, hs4, hp4, hD5⟩
        go_wp2_with fail
        refine (C _ _ _ hD5 (by omega) (by omega)).mono ?_; rintro e w6 ⟨s5, p5, rfl, hs5, hp5, hD6⟩
        go_wp2_with fail
        go_ret
        exact ⟨_, _, rfl, hM _ (by simp only [ByteArray.size_append, lit_size, List.length_cons, List.length_nil]; omega), by omega, hD6.dr, hD6.gr⟩
      · go_wp2_with fail
        refine (C _ _ _ hD3 (by omega) (by omega)).mono ?_; rintro e w4 ⟨s3, p3, rfl, hs3, hp3, hD4⟩
        go_wp2_with fail
        refine (C _ _ _ hD4 (by omega) (by rw [ByteArray.size_append]; omega)).mono ?_; rintro e w5 ⟨s4, p4, rfl, hs4, hp4, hD5⟩
        go_wp2_with fail
        go_ret
        exact ⟨_, _, rfl, hM _ (by simp only [ByteArray.size_append, lit_size, List.length_cons, List.length_nil]; omega), by omega, hD5.dr, hD5.gr⟩
      · go_wp2_with fail
        refine (C _ _ _ hD3 (by omega) (by omega)).mono ?_; rintro e w4 ⟨s3, p3, rfl, hs3, hp3, hD4⟩
        go_wp2_with fail
        refine (C _ _ _ hD4 (by omega) (by rw [ByteArray.size_append]; omega)).mono ?_; rintro e w5 ⟨s4, p4, rfl, hs4, hp4, hD5⟩
        go_wp2_with fail
        go_ret
        exact ⟨_, _, rfl, hM _ (by simp only [ByteArray.size_append, lit_size, List.length_cons, List.length_nil]; omega), by omega, hD5.dr, hD5.gr⟩
      · go_wp2_with fail
        refine (C _ _ _ hD3 (by omega) (by rw [ByteArray.size_append]; omega)).mono ?_; rintro e w4 ⟨s3, p3, rfl, hs3, hp3, hD4⟩
        go_wp2_with fail
        go_ret
        exact ⟨_, _, rfl, hM _ (by simp only [ByteArray.size_append, lit_size, List.length_cons, List.length_nil]; omega), by omega, hD4.dr, hD4.gr⟩
      · go_wp2_with fail
        refine (C _ _ _ hD3 (by omega) (by rw [ByteArray.size_append]; omega)).mono ?_; rintro e w4 ⟨s3, p3, rfl, hs3, hp3, hD4⟩
        go_wp2_with fail
        refine (C _ _ _ hD4 (by omega) (by omega)).mono ?_; rintro e w5 ⟨s4, p4, rfl, hs4, hp4, hD5⟩
        go_wp2_with fail
        go_ret
        exact ⟨_, _, rfl, hM _ (by simp only [ByteArray.size_append, lit_size, List.length_cons, List.length_nil]; omega), by omega, hD5.dr, hD5.gr⟩
      · go_wp2_with fail
        refine (C _ _ _ hD3 (by omega) (by rw [ByteArray.size_append]; omega)).mono ?_; rintro e w4 ⟨s3, p3, rfl, hs3, hp3, hD4⟩
        go_wp2_with fail
        refine (C _ _ _ hD4 (by omega) (by omega)).mono ?_; rintro e w5 ⟨s4, p4, rfl, hs4, hp4, hD5⟩
        go_wp2_with fail
        go_ret
        exact ⟨_, _, rfl, hM _ (by simp only [ByteArray.size_append, lit_size, List.length_cons, List.length_nil]; omega), by omega, hD5.dr, hD5.gr⟩
      · go_wp2_with fail
        refine (C _ _ _ hD3 (by omega) (by rw [ByteArray.size_append]; omega)).mono ?_; rintro e w4 ⟨s3, p3, rfl, hs3, hp3, hD4⟩
        go_wp2_with fail
        refine (C _ _ _ hD4 (by omega) (by rw [ByteArray.size_append]; omega)).mono ?_; rintro e w5 ⟨s4, p4, rfl, hs4, hp4, hD5⟩
        go_wp2_with fail
        go_ret
        exact ⟨_, _, rfl, hM _ (by simp only [ByteArray.size_append, lit_size, List.length_cons, List.length_nil]; omega), by omega, hD5.dr, hD5.gr⟩
      · go_wp2_with fail
        refine (C _ _ _ hD3 (by omega) (by omega)).mono ?_; rintro e w4 ⟨s3, p3, rfl, hs3, hp3, hD4⟩
        go_wp2_with fail
        refine (C _ _ _ hD4 (by omega) (by omega)).mono ?_; rintro e w5 ⟨s4, p4, rfl, hs4, hp4, hD5⟩
        go_wp2_with fail
        go_ret
        exact ⟨_, _, rfl, hM _ (by simp only [ByteArray.size_append, lit_size, List.length_cons, List.length_nil]; omega), by omega, hD5.dr, hD5.gr⟩
  · have hi := full (names := names) (by omega)
    go_enter Try.func67, Try.ntmps67
    go_wp2_with fail
    refine (pick_g hD _ (by omega) (by omega) (by omega)).mono ?_; rintro e w1 ⟨k1, rfl, hk1, hD1⟩
    go_wp2_with fail
    · refine (pick_g hD1 _ (by omega) (by omega) (by omega)).mono ?_; rintro e w2 ⟨k2, rfl, hk2, hD2⟩
      go_wp2_with fail
      · refine (pick_g hD2 _ (by omega) (by omega) (by omega)).mono ?_; rintro e w3 ⟨k3, rfl, hk3, hD3⟩
        go_wp2_with fail
        go_ret
        exact ⟨_, _, rfl, hM _ (Nat.le_trans (ext1 _ _) (by omega)), by omega, hD3.dr, hD3.gr⟩
      · refine (of_g hD2 [[49], [48], [50], [55], [53], [35, 52, 50]] _ 3 (by decide) (by omega) (by decide) (by decide)).mono ?_; rintro e w3 ⟨s, hs, rfl, hD3⟩
        go_wp2_with fail
        go_ret
        exact ⟨s, _, rfl, hM s (by omega), by omega, hD3.dr, hD3.gr⟩
    · refine (of_g hD1 [[97], [98], [99]] _ 1 (by decide) (by omega) (by decide) (by decide)).mono ?_; rintro e w2 ⟨x, hx, rfl, hD2⟩
      go_wp2_with fail
      refine (pick_g hD2 _ (by omega) (by omega) (by omega)).mono ?_; rintro e w3 ⟨k2, rfl, hk2, hD3⟩
      obtain rfl | rfl | rfl | rfl | rfl | rfl | rfl | rfl | rfl | rfl : k2 = 0 ∨ k2 = 1 ∨ k2 = 2 ∨ k2 = 3 ∨ k2 = 4 ∨ k2 = 5 ∨ k2 = 6 ∨ k2 = 7 ∨ k2 = 8 ∨ k2 = 9 := by omega
      · go_wp2_with fail
        refine (C _ _ _ hD3 (by omega) (by omega)).mono ?_; rintro e w4 ⟨s3, p3, rfl, hs3, hp3, hD4⟩
        go_wp2_with fail
        refine (of_g hD4 [[43], [42], [45]] _ 1 (by decide) (by omega) (by decide) (by decide)).mono ?_; rintro e w5 ⟨s4, hs4, rfl, hD5⟩
        go_wp2_with fail
        refine (C _ _ _ hD5 (by omega) (by omega)).mono ?_; rintro e w6 ⟨s5, p5, rfl, hs5, hp5, hD6⟩
        go_wp2_with fail
        go_ret
        exact ⟨_, _, rfl, hM _ (by simp only [ByteArray.size_append, lit_size, List.length_cons, List.length_nil]; omega), by omega, hD6.dr, hD6.gr⟩
      · go_wp2_with fail
        refine (C _ _ _ hD3 (by omega) (by omega)).mono ?_; rintro e w4 ⟨s3, p3, rfl, hs3, hp3, hD4⟩
        go_wp2_with fail
        refine (of_g hD4 [[43], [42], [45]] _ 1 (by decide) (by omega) (by decide) (by decide)).mono ?_; rintro e w5 ⟨s4, hs4, rfl, hD5⟩
        go_wp2_with fail
        refine (C _ _ _ hD5 (by omega) (by omega)).mono ?_; rintro e w6 ⟨s5, p5, rfl, hs5, hp5, hD6⟩
        go_wp2_with fail
        go_ret
        exact ⟨_, _, rfl, hM _ (by simp only [ByteArray.size_append, lit_size, List.length_cons, List.length_nil]; omega), by omega, hD6.dr, hD6.gr⟩
      · go_wp2_with fail
        refine (C _ _ _ hD3 (by omega) (by omega)).mono ?_; rintro e w4 ⟨s3, p3, rfl, hs3, hp3, hD4⟩
        go_wp2_with fail
        refine (C _ _ _ hD4 (by omega) (by omega)).mono ?_; rintro e w5 ⟨s4, p4, rfl, hs4, hp4, hD5⟩
        go_wp2_with fail
        refine (C _ _ _ hD5 (by omega) (by omega)).mono ?_; rintro e w6 ⟨s5, p5, rfl, hs5, hp5, hD6⟩
        go_wp2_with fail
        go_ret
        exact ⟨_, _, rfl, hM _ (by simp only [ByteArray.size_append, lit_size, List.length_cons, List.length_nil]; omega), by omega, hD6.dr, hD6.gr⟩
      · go_wp2_with fail
        refine (C _ _ _ hD3 (by omega) (by omega)).mono ?_; rintro e w4 ⟨s3, p3, rfl, hs3, hp3, hD4⟩
        go_wp2_with fail
        refine (C _ _ _ hD4 (by omega) (by rw [ByteArray.size_append]; omega)).mono ?_; rintro e w5 ⟨s4, p4, rfl, hs4, hp4, hD5⟩
        go_wp2_with fail
        go_ret
        exact ⟨_, _, rfl, hM _ (by simp only [ByteArray.size_append, lit_size, List.length_cons, List.length_nil]; omega), by omega, hD5.dr, hD5.gr⟩
      · go_wp2_with fail
        refine (C _ _ _ hD3 (by omega) (by omega)).mono ?_; rintro e w4 ⟨s3, p3, rfl, hs3, hp3, hD4⟩
        go_wp2_with fail
        refine (C _ _ _ hD4 (by omega) (by rw [ByteArray.size_append]; omega)).mono ?_; rintro e w5 ⟨s4, p4, rfl, hs4, hp4, hD5⟩
        go_wp2_with fail
        go_ret
        exact ⟨_, _, rfl, hM _ (by simp only [ByteArray.size_append, lit_size, List.length_cons, List.length_nil]; omega), by omega, hD5.dr, hD5.gr⟩
      · go_wp2_with fail
        refine (C _ _ _ hD3 (by omega) (by rw [ByteArray.size_append]; omega)).mono ?_; rintro e w4 ⟨s3, p3, rfl, hs3, hp3, hD4⟩
        go_wp2_with fail
        go_ret
        exact ⟨_, _, rfl, hM _ (by simp only [ByteArray.size_append, lit_size, List.length_cons, List.length_nil]; omega), by omega, hD4.dr, hD4.gr⟩
      · go_wp2_with fail
        refine (C _ _ _ hD3 (by omega) (by rw [ByteArray.size_append]; omega)).mono ?_; rintro e w4 ⟨s3, p3, rfl, hs3, hp3, hD4⟩
        go_wp2_with fail
        refine (C _ _ _ hD4 (by omega) (by omega)).mono ?_; rintro e w5 ⟨s4, p4, rfl, hs4, hp4, hD5⟩
        go_wp2_with fail
        go_ret
        exact ⟨_, _, rfl, hM _ (by simp only [ByteArray.size_append, lit_size, List.length_cons, List.length_nil]; omega), by omega, hD5.dr, hD5.gr⟩
      · go_wp2_with fail
        refine (C _ _ _ hD3 (by omega) (by rw [ByteArray.size_append]; omega)).mono ?_; rintro e w4 ⟨s3, p3, rfl, hs3, hp3, hD4⟩
        go_wp2_with fail
        refine (C _ _ _ hD4 (by omega) (by omega)).mono ?_; rintro e w5 ⟨s4, p4, rfl, hs4, hp4, hD5⟩
        go_wp2_with fail
        go_ret
        exact ⟨_, _, rfl, hM _ (by simp only [ByteArray.size_append, lit_size, List.length_cons, List.length_nil]; omega), by omega, hD5.dr, hD5.gr⟩
      · go_wp2_with fail
        refine (C _ _ _ hD3 (by omega) (by rw [ByteArray.size_append]; omega)).mono ?_; rintro e w4 ⟨s3, p3, rfl, hs3, hp3, hD4⟩
        go_wp2_with fail
        refine (C _ _ _ hD4 (by omega) (by rw [ByteArray.size_append]; omega)).mono ?_; rintro e w5 ⟨s4, p4, rfl, hs4, hp4, hD5⟩
        go_wp2_with fail
        go_ret
        exact ⟨_, _, rfl, hM _ (by simp only [ByteArray.size_append, lit_size, List.length_cons, List.length_nil]; omega), by omega, hD5.dr, hD5.gr⟩
      · go_wp2_with fail
        refine (C _ _ _ hD3 (by omega) (by omega)).mono ?_; rintro e w4 ⟨s3, p3, rfl, hs3, hp3, hD4⟩
        go_wp2_with fail
        refine (C _ _ _ hD4 (by omega) (by omega)).mono ?_; rintro e w5 ⟨s4, p4, rfl, hs4, hp4, hD5⟩
        go_wp2_with fail
        go_ret
        exact ⟨_, _, rfl, hM _ (by simp only [ByteArray.size_append, lit_size, List.length_cons, List.length_nil]; omega), by omega, hD5.dr, hD5.gr⟩
end Go.Proofs.Ytjeaadgfjnmfcaa
