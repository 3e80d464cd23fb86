import Derived.Test.YtbdepjcndjcfoaaGreatDoorLcA
/- FnConst. Written by genL.py. -/
namespace Go.Proofs.YtbdepjcndjcfoaaGreatDoor
open Go.RowKit
open Ff
set_option linter.unusedVariables false
attribute [local irreducible] Calls

set_option maxRecDepth 100000 in
set_option maxHeartbeats 4000000 in
theorem law_fnConst (a : Option Addr) (l c : Nat) (w : World) (h : Src w a l c) (hg : ErrT w) :
    Calls Tryz.prog 8 #[.slice a l c] w fun e w' => e = .returned (.bool true) ∧ Below w.heap.size w w' := by
  by_cases hl : l ≤ 1048576
  · have hl2 : (l : Int) ≤ 1048576 := by omega
    go_enter Tryz.func8, Tryz.ntmps8
    go_wp2_with fail
    refine (drawCallsIn_c a l c w h).mono ?_; rintro e w1 ⟨s, rfl, hs, hb⟩
    obtain ⟨G, hG⟩ : ∃ G : Text, G = 40 :: ([92, 112, 57] ++ (s ++ [41])) := ⟨_, rfl⟩
    have eG : (⟨#[40, 92, 112, 57]⟩ ++ ⟨s.toArray⟩ ++ ⟨#[41]⟩ : ByteArray) = ⟨G.toArray⟩ := by
      show (⟨([40, 92, 112, 57] : Text).toArray⟩ ++ ⟨s.toArray⟩ ++ ⟨([41] : Text).toArray⟩ : ByteArray) = _
      rw [str_app2, str_app2, hG]; simp
    have lG : G.length ≤ 100000 := by rw [hG]; simp; omega
    have qG2 : ¬ 9223372036854775807 < 4 + s.length := by omega
    have qG3 : ¬ 9223372036854775807 < 4 + s.length + 1 := by omega
    have HG := Lib.hid hG
    clear hG
    obtain ⟨x0, x1, x2, xb, hRx⟩ := resP_form (runO s)
    have HRx := Lib.hid hRx
    clear hRx
    obtain ⟨y0, y1, y2, yb, hRy⟩ := resP_form (runO G)
    have HRy := Lib.hid hRy
    clear hRy
    go_wp2_with fail
    refine (kI s w1 (by omega) (hg.next hb)).mono ?_; rw [HRx.out]; rintro e w2 ⟨rfl, k⟩; replace hb := next hb k
    have Bx := box_new w2 x0 x2 x1
    replace k := box_below w2 x0 x2 x1; replace hb := next hb k; clear k
    go_wp2_with fail
    generalize w2.alloc (.cells #[.int .i64 x0, .bool x1, .int .i64 x2] 29) = W2 at Bx hb ⊢
    refine (kS s W2 (by omega)).mono ?_; rw [HRx.out]; rintro e w3 ⟨rfl, k⟩; replace hb := next hb k; replace Bx := Bx.next k
    replace k := box_below w3 x0 x2 x1; replace hb := next hb k; replace Bx := Bx.next k; clear k
    cases xb
    all_goals
      go_wp2_with fail
      generalize w3.alloc (.cells #[.int .i64 x0, .bool x1, .int .i64 x2] 29) = W3 at Bx hb ⊢
      refine (kI G W3 lG (hg.next hb)).mono ?_; rw [HRy.out]; rintro e w4 ⟨rfl, k⟩; replace hb := next hb k; replace Bx := Bx.next k
      have By := box_new w4 y0 y2 y1
      replace k := box_below w4 y0 y2 y1; replace hb := next hb k; replace Bx := Bx.next k; clear k
      cases yb
    all_goals try (rcases const_int HG.out HRx.out HRy.out with rfl | ⟨rfl, rfl⟩ | ⟨rfl, rfl, rfl, rfl⟩)
    all_goals
      obtain ⟨tBx0, tBx1, tBx2, _⟩ := three_of Bx
      obtain ⟨tBy0, tBy1, tBy2, _⟩ := three_of By
      go_wp2_with fail
      go_ret
      exact ⟨rfl, hb⟩
  · have hl2 : 1048576 < (l : Int) := by omega
    go_enter Tryz.func8, Tryz.ntmps8
    go_wp2_with fail
    go_ret
    exact ⟨rfl, Below.refl _ _⟩
end Go.Proofs.YtbdepjcndjcfoaaGreatDoor
