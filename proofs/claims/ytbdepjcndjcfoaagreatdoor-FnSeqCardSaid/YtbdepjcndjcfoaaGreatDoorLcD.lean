import Derived.Test.YtbdepjcndjcfoaaGreatDoorLcA
/- FnSeq. Written by genL.py. -/
namespace Go.Proofs.YtbdepjcndjcfoaaGreatDoor
open Go.RowKit
open Ff
set_option linter.unusedVariables false
attribute [local irreducible] Calls

set_option maxRecDepth 100000 in
set_option maxHeartbeats 4000000 in
theorem law_fnSeq (a : Option Addr) (l c : Nat) (a2 : Option Addr) (l2 c2 : Nat) (w : World) (h : Src w a l c) (h2 : Src w a2 l2 c2) (hg : ErrT w) :
    Calls Tryz.prog 5 #[.slice a l c, .slice a2 l2 c2] w fun e w' => e = .returned (.bool true) ∧ Below w.heap.size w w' := by
  by_cases hl : l ≤ 1048576
  · have hl2 : (l : Int) ≤ 1048576 := by omega
    by_cases hm : l2 ≤ 1048576
    · have hm2 : (l2 : Int) ≤ 1048576 := by omega
      go_enter Tryz.func5, Tryz.ntmps5
      go_wp2_with fail
      refine (drawRunTerm_c a l c w h).mono ?_; rintro e w1 ⟨s, rfl, hs, hb⟩
      go_wp2_with fail
      refine (drawCountTerm_c a2 l2 c2 w1 (h2.keep hb)).mono ?_; rintro e w2 ⟨u, rfl, hu, k⟩; replace hb := next hb k; clear k
      obtain ⟨G, hG⟩ : ∃ G : Text, G = 61 :: 112 :: (s ++ (61 :: 111 :: (u ++ [112]))) := ⟨_, rfl⟩
      have eG : (⟨#[61, 112]⟩ ++ ⟨s.toArray⟩ ++ ⟨#[61, 111]⟩ ++ ⟨u.toArray⟩ ++ ⟨#[112]⟩ : ByteArray) = ⟨G.toArray⟩ := by
        show (⟨([61, 112] : Text).toArray⟩ ++ ⟨s.toArray⟩ ++ ⟨([61, 111] : Text).toArray⟩ ++ ⟨u.toArray⟩ ++ ⟨([112] : Text).toArray⟩ : ByteArray) = _
        rw [str_app2, str_app2, str_app2, str_app2, hG]; simp
      have lG : G.length ≤ 100000 := by rw [hG]; simp; omega
      have qG2 : ¬ 9223372036854775807 < 2 + s.length := by omega
      have qG3 : ¬ 9223372036854775807 < 2 + s.length + 2 := by omega
      have qG4 : ¬ 9223372036854775807 < 2 + s.length + 2 + u.length := by omega
      have qG5 : ¬ 9223372036854775807 < 2 + s.length + 2 + u.length + 1 := by omega
      have HG := Lib.hid hG
      clear hG
      obtain ⟨x0, x1, x2, xb, hRx⟩ := resP_form (runO s)
      have HRx := Lib.hid hRx
      clear hRx
      obtain ⟨y0, y1, y2, yb, hRy⟩ := resP_form (runO u)
      have HRy := Lib.hid hRy
      clear hRy
      obtain ⟨z0, z1, z2, zb, hRz⟩ := resP_form (runO G)
      have HRz := Lib.hid hRz
      clear hRz
      go_wp2_with fail
      refine (kI s w2 (by omega) (hg.next hb)).mono ?_; rw [HRx.out]; rintro e w3 ⟨rfl, k⟩; replace hb := next hb k
      have Bx := box_new w3 x0 x2 x1
      replace k := box_below w3 x0 x2 x1; replace hb := next hb k; clear k
      go_wp2_with fail
      generalize w3.alloc (.cells #[.int .i64 x0, .bool x1, .int .i64 x2] 29) = W3 at Bx hb ⊢
      refine (kS s W3 (by omega)).mono ?_; rw [HRx.out]; rintro e w4 ⟨rfl, k⟩; replace hb := next hb k; replace Bx := Bx.next k
      replace k := box_below w4 x0 x2 x1; replace hb := next hb k; replace Bx := Bx.next k; clear k
      cases xb
      all_goals
        go_wp2_with fail
        generalize w4.alloc (.cells #[.int .i64 x0, .bool x1, .int .i64 x2] 29) = W4 at Bx hb ⊢
        refine (kI u W4 (by omega) (hg.next hb)).mono ?_; rw [HRy.out]; rintro e w5 ⟨rfl, k⟩; replace hb := next hb k; replace Bx := Bx.next k
        have By := box_new w5 y0 y2 y1
        replace k := box_below w5 y0 y2 y1; replace hb := next hb k; replace Bx := Bx.next k; clear k
        go_wp2_with fail
        generalize w5.alloc (.cells #[.int .i64 y0, .bool y1, .int .i64 y2] 29) = W5 at Bx By hb ⊢
        refine (kI G W5 lG (hg.next hb)).mono ?_; rw [HRz.out]; rintro e w6 ⟨rfl, k⟩; replace hb := next hb k; replace Bx := Bx.next k; replace By := By.next k
        have Bz := box_new w6 z0 z2 z1
        replace k := box_below w6 z0 z2 z1; replace hb := next hb k; replace Bx := Bx.next k; replace By := By.next k; clear k
        cases yb <;> cases zb
      all_goals try (rcases seq_int HG.out HRx.out HRy.out HRz.out with rfl | ⟨rfl, rfl⟩ | ⟨rfl, rfl, rfl⟩ | ⟨rfl, rfl, rfl, rfl, rfl⟩)
      all_goals
        obtain ⟨tBx0, tBx1, tBx2, _⟩ := three_of Bx
        obtain ⟨tBy0, tBy1, tBy2, _⟩ := three_of By
        obtain ⟨tBz0, tBz1, tBz2, _⟩ := three_of Bz
        go_wp2_with fail
        go_ret
        exact ⟨rfl, hb⟩
    · have hm2 : 1048576 < (l2 : Int) := by omega
      go_enter Tryz.func5, Tryz.ntmps5
      go_wp2_with fail
      go_ret
      exact ⟨rfl, Below.refl _ _⟩
  · have hl2 : 1048576 < (l : Int) := by omega
    go_enter Tryz.func5, Tryz.ntmps5
    go_wp2_with fail
    go_ret
    exact ⟨rfl, Below.refl _ _⟩
end Go.Proofs.YtbdepjcndjcfoaaGreatDoor
