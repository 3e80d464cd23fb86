import Derived.Test.YtbdepjcndjcfoaaGreatDoorLcA
/- FnNeverFault. Written by genL.py. -/
namespace Go.Proofs.YtbdepjcndjcfoaaGreatDoor
open Go.RowKit
open Ff
set_option linter.unusedVariables false
attribute [local irreducible] Calls

set_option maxRecDepth 100000 in
set_option maxHeartbeats 4000000 in
theorem law_fnNeverFault (a : Option Addr) (l c : Nat) (w : World) (h : Src w a l c) (hg : ErrT w) :
    Calls Tryz.prog 4 #[.slice a l c] w fun e w' => e = .returned (.bool true) ∧ Below w.heap.size w w' := by
  by_cases hl : l ≤ 1048576
  · have hl2 : (l : Int) ≤ 1048576 := by omega
    go_enter Tryz.func4, Tryz.ntmps4
    go_wp2_with fail
    refine (drawRunTerm_c a l c w h).mono ?_; rintro e w1 ⟨s, rfl, hs, hb⟩
    obtain ⟨G, hG⟩ : ∃ G : Text, G = 43 :: ([48] ++ s) := ⟨_, rfl⟩
    have eG : (⟨#[43, 48]⟩ ++ ⟨s.toArray⟩ : ByteArray) = ⟨G.toArray⟩ := by
      show (⟨([43, 48] : Text).toArray⟩ ++ ⟨s.toArray⟩ : ByteArray) = _
      rw [str_app2, hG]; simp
    have lG : G.length ≤ 100000 := by rw [hG]; simp; omega
    have qG2 : ¬ 9223372036854775807 < 2 + s.length := by omega
    have HG := Lib.hid hG
    clear hG
    obtain ⟨F, hF⟩ : ∃ F : Text, F = 40 :: (s ++ ([49] ++ [41])) := ⟨_, rfl⟩
    have eF : (⟨#[40]⟩ ++ ⟨s.toArray⟩ ++ ⟨#[49, 41]⟩ : ByteArray) = ⟨F.toArray⟩ := by
      show (⟨([40] : Text).toArray⟩ ++ ⟨s.toArray⟩ ++ ⟨([49, 41] : Text).toArray⟩ : ByteArray) = _
      rw [str_app2, str_app2, hF]; simp
    have lF : F.length ≤ 100000 := by rw [hF]; simp; omega
    have qF2 : ¬ 9223372036854775807 < 1 + s.length := by omega
    have qF3 : ¬ 9223372036854775807 < 1 + s.length + 2 := by omega
    have HF := Lib.hid hF
    clear hF
    obtain ⟨x0, x1, x2, xb, hRx⟩ := resP_form (runO s)
    have HRx := Lib.hid hRx
    clear hRx
    obtain ⟨y0, y1, y2, yb, hRy⟩ := resP_form (runO G)
    have HRy := Lib.hid hRy
    clear hRy
    obtain ⟨z0, z1, z2, zb, hRz⟩ := resP_form (runO F)
    have HRz := Lib.hid hRz
    clear hRz
    go_wp2_with fail
    refine (kI s w1 (by omega) (hg.next hb)).mono ?_; rw [HRx.out]; rintro e w2 ⟨rfl, k⟩; replace hb := next hb k
    have Bx := box_new w2 x0 x2 x1
    replace k := box_below w2 x0 x2 x1; replace hb := next hb k; clear k
    go_wp2_with fail
    generalize w2.alloc (.cells #[.int .i64 x0, .bool x1, .int .i64 x2] 29) = W2 at Bx hb ⊢
    refine (kS s W2 (by omega)).mono ?_; rw [HRx.out]; rintro e w3 ⟨rfl, k⟩; replace hb := next hb k; replace Bx := Bx.next k
    replace k := box_below w3 x0 x2 x1; replace hb := next hb k; replace Bx := Bx.next k; clear k
    have Bx0 := Bx
    have hb0 := hb
    obtain ⟨W3, hW3⟩ : ∃ W, w3.alloc (.cells #[.int .i64 x0, .bool x1, .int .i64 x2] 29) = W := ⟨_, rfl⟩
    rw [hW3] at Bx hb
    have HW3 := Lib.hid hW3
    clear hW3
    cases xb
    · go_wp2_with fail
      go_ret
      exact ⟨rfl, hb0⟩
    · rcases res_cases HRx.out with rfl | rfl | rfl
      rotate_left
      · obtain ⟨tBx00, tBx01, tBx02, _⟩ := three_of Bx0
        go_wp2_with fail
        go_ret
        exact ⟨rfl, hb0⟩
      · obtain ⟨tBx00, tBx01, tBx02, _⟩ := three_of Bx0
        go_wp2_with fail
        go_ret
        exact ⟨rfl, hb0⟩
      cases x1
      all_goals
        obtain ⟨tBx00, tBx01, tBx02, _⟩ := three_of Bx0
        go_wp2_with fail
        rw [HW3.out]
        refine (kI G W3 lG (hg.next hb)).mono ?_; rw [HRy.out]; rintro e w4 ⟨rfl, k⟩; replace hb := next hb k; replace Bx := Bx.next k
        have By := box_new w4 y0 y2 y1
        replace k := box_below w4 y0 y2 y1; replace hb := next hb k; replace Bx := Bx.next k; clear k
        go_wp2_with fail
        generalize w4.alloc (.cells #[.int .i64 y0, .bool y1, .int .i64 y2] 29) = W4 at Bx By hb ⊢
        refine (kI F W4 lF (hg.next hb)).mono ?_; rw [HRz.out]; rintro e w5 ⟨rfl, k⟩; replace hb := next hb k; replace Bx := Bx.next k; replace By := By.next k
        have Bz := box_new w5 z0 z2 z1
        replace k := box_below w5 z0 z2 z1; replace hb := next hb k; replace Bx := Bx.next k; replace By := By.next k; clear k
        cases yb <;> cases zb
      all_goals try (rcases sum_int HG.out HRx.out HRy.out with rfl | ⟨hx, rfl⟩ | ⟨hx, rfl, rfl, rfl⟩)
      all_goals try cases hx
      all_goals try (rcases call_int HF.out HRx.out HRz.out with hx | rfl | rfl)
      all_goals try cases hx
      all_goals
        obtain ⟨tBx0, tBx1, tBx2, _⟩ := three_of Bx
        obtain ⟨tBy0, tBy1, tBy2, _⟩ := three_of By
        obtain ⟨tBz0, tBz1, tBz2, _⟩ := three_of Bz
        go_wp2_with fail
        go_ret
        exact ⟨rfl, hb⟩
  · have hl2 : 1048576 < (l : Int) := by omega
    go_enter Tryz.func4, Tryz.ntmps4
    go_wp2_with fail
    go_ret
    exact ⟨rfl, Below.refl _ _⟩
end Go.Proofs.YtbdepjcndjcfoaaGreatDoor
