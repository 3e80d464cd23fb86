import Derived.Test.YtbdepjcndjcfoaaGreatDoorLcA
/- FnTwice. Written by genL.py. -/
namespace Go.Proofs.YtbdepjcndjcfoaaGreatDoor
open Go.RowKit
open Ff
set_option linter.unusedVariables false
attribute [local irreducible] Calls

set_option maxRecDepth 100000 in
set_option maxHeartbeats 4000000 in
theorem law_fnTwice (a : Option Addr) (l c : Nat) (w : World) (h : Src w a l c) (hg : ErrT w) :
    Calls Tryz.prog 7 #[.slice a l c] w fun e w' => e = .returned (.bool true) ∧ Below w.heap.size w w' := by
  by_cases hl : l ≤ 1048576
  · have hl2 : (l : Int) ≤ 1048576 := by omega
    go_enter Tryz.func7, Tryz.ntmps7
    go_wp2_with fail
    refine (drawCountTerm_c a l c w h).mono ?_; rintro e w1 ⟨s, rfl, hs, hb⟩
    obtain ⟨G, hG⟩ : ∃ G : Text, G = 61 :: 112 :: (s ++ [43, 112, 112]) := ⟨_, rfl⟩
    have eG : (⟨#[61, 112]⟩ ++ ⟨s.toArray⟩ ++ ⟨#[43, 112, 112]⟩ : ByteArray) = ⟨G.toArray⟩ := by
      show (⟨([61, 112] : Text).toArray⟩ ++ ⟨s.toArray⟩ ++ ⟨([43, 112, 112] : Text).toArray⟩ : ByteArray) = _
      rw [str_app2, str_app2, hG]; simp
    have lG : G.length ≤ 100000 := by rw [hG]; simp; omega
    have qG2 : ¬ 9223372036854775807 < 2 + s.length := by omega
    have qG3 : ¬ 9223372036854775807 < 2 + s.length + 3 := by omega
    have HG := Lib.hid hG
    clear hG
    obtain ⟨F, hF⟩ : ∃ F : Text, F = 43 :: (s ++ s) := ⟨_, rfl⟩
    have eF : (⟨#[43]⟩ ++ ⟨s.toArray⟩ ++ ⟨s.toArray⟩ : ByteArray) = ⟨F.toArray⟩ := by
      show (⟨([43] : Text).toArray⟩ ++ ⟨s.toArray⟩ ++ ⟨s.toArray⟩ : ByteArray) = _
      rw [str_app2, str_app2, hF]; simp
    have lF : F.length ≤ 100000 := by rw [hF]; simp; omega
    have qF2 : ¬ 9223372036854775807 < 1 + s.length := by omega
    have qF3 : ¬ 9223372036854775807 < 1 + s.length + s.length := by omega
    have HF := Lib.hid hF
    clear hF
    obtain ⟨x0, x1, x2, xb, hRx⟩ := resP_form (runO s)
    have HRx := Lib.hid hRx
    clear hRx
    obtain ⟨y0, y1, y2, yb, hRy⟩ := resP_form (runO G)
    have HRy := Lib.hid hRy
    clear hRy
    obtain ⟨z0, z1, z2, zb, hRz⟩ := resP_form (runO F)
    have HRz := Lib.hid hRz
    clear hRz
    go_wp2_with fail
    refine (kI s w1 (by omega) (hg.next hb)).mono ?_; rw [HRx.out]; rintro e w2 ⟨rfl, k⟩; replace hb := next hb k
    have Bx := box_new w2 x0 x2 x1
    replace k := box_below w2 x0 x2 x1; replace hb := next hb k; clear k
    go_wp2_with fail
    generalize w2.alloc (.cells #[.int .i64 x0, .bool x1, .int .i64 x2] 29) = W2 at Bx hb ⊢
    refine (kS s W2 (by omega)).mono ?_; rw [HRx.out]; rintro e w3 ⟨rfl, k⟩; replace hb := next hb k; replace Bx := Bx.next k
    replace k := box_below w3 x0 x2 x1; replace hb := next hb k; replace Bx := Bx.next k; clear k
    have Bx0 := Bx
    have hb0 := hb
    obtain ⟨W3, hW3⟩ : ∃ W, w3.alloc (.cells #[.int .i64 x0, .bool x1, .int .i64 x2] 29) = W := ⟨_, rfl⟩
    rw [hW3] at Bx hb
    have HW3 := Lib.hid hW3
    clear hW3
    cases xb
    · go_wp2_with fail
      go_ret
      exact ⟨rfl, hb0⟩
    · rcases res_cases HRx.out with rfl | rfl | rfl
      rotate_left
      · obtain ⟨tBx00, tBx01, tBx02, _⟩ := three_of Bx0
        go_wp2_with fail
        go_ret
        exact ⟨rfl, hb0⟩
      · obtain ⟨tBx00, tBx01, tBx02, _⟩ := three_of Bx0
        go_wp2_with fail
        go_ret
        exact ⟨rfl, hb0⟩
      cases x1
      rotate_left
      · obtain ⟨tBx00, tBx01, tBx02, _⟩ := three_of Bx0
        go_wp2_with fail
        go_ret
        exact ⟨rfl, hb0⟩
      obtain ⟨tBx00, tBx01, tBx02, _⟩ := three_of Bx0
      obtain ⟨k0, k9, kG, kF, kz, ks, kd, kn⟩ := twice_int HG.out HF.out HRx.out
      have KD := Lib.hid kd
      have KN := Lib.hid kn
      clear kd kn
      go_wp2_with fail
      rw [HW3.out]
      refine (kI G W3 lG (hg.next hb)).mono ?_; rw [HRy.out]; rintro e w4 ⟨rfl, k⟩; replace hb := next hb k; replace Bx := Bx.next k
      have By := box_new w4 y0 y2 y1
      replace k := box_below w4 y0 y2 y1; replace hb := next hb k; replace Bx := Bx.next k; clear k
      go_wp2_with fail
      generalize w4.alloc (.cells #[.int .i64 y0, .bool y1, .int .i64 y2] 29) = W4 at Bx By hb ⊢
      refine (kI F W4 lF (hg.next hb)).mono ?_; rw [HRz.out]; rintro e w5 ⟨rfl, k⟩; replace hb := next hb k; replace Bx := Bx.next k; replace By := By.next k
      have Bz := box_new w5 z0 z2 z1
      replace k := box_below w5 z0 z2 z1; replace hb := next hb k; replace Bx := Bx.next k; replace By := By.next k; clear k
      have cI := fun (w : World) (hs : s.length ≤ 100000) (he : ErrT w) => iCountTerm_c s w (by omega) he
      rw [KD.out] at cI
      have cG := fun (w : World) (he : ErrT w) => iCountTerm_c G w (by omega) he
      obtain ⟨n0, n1, n2, n3, n4, nb, hN, hn⟩ := cnt_named KN.out
      rw [hN] at cG
      clear hN
      cases yb <;> cases zb
      all_goals try (rcases kG _ _ _ HRy.out with rfl | ⟨rfl, rfl, rfl⟩)
      all_goals try (rcases kF _ _ _ HRz.out with rfl | ⟨rfl, rfl, rfl⟩)
      all_goals
        obtain ⟨tBx0, tBx1, tBx2, _⟩ := three_of Bx
        obtain ⟨tBy0, tBy1, tBy2, _⟩ := three_of By
        obtain ⟨tBz0, tBz1, tBz2, _⟩ := three_of Bz
        go_wp2_with fail
        refine (cI _ (by omega) (hg.next hb)).mono ?_; rintro e w6 ⟨rfl, k⟩; replace hb := next hb k; replace Bx := Bx.next k; replace By := By.next k; replace Bz := Bz.next k
        have Bc := alloc_at w6 (.cells #[.int .i64 (kz.steps : Int), .int .i64 (kz.calls : Int), .int .i64 (kz.clos : Int), .int .i64 (kz.capt : Int), .int .i64 (kz.deepest : Int)] 35)
        replace k := (Below.refl w6.heap.size w6).alloc (Nat.le_refl _) (.cells #[.int .i64 (kz.steps : Int), .int .i64 (kz.calls : Int), .int .i64 (kz.clos : Int), .int .i64 (kz.capt : Int), .int .i64 (kz.deepest : Int)] 35); replace hb := next hb k; replace Bx := Bx.next k; replace By := By.next k; replace Bz := Bz.next k; clear k
        simp only [cntP]
        go_wp2_with fail
        generalize w6.alloc (.cells #[.int .i64 (kz.steps : Int), .int .i64 (kz.calls : Int), .int .i64 (kz.clos : Int), .int .i64 (kz.capt : Int), .int .i64 (kz.deepest : Int)] 35) = W6 at Bx By Bz Bc hb ⊢
        refine (cG _ (hg.next hb)).mono ?_; rintro e w7 ⟨rfl, k⟩; replace hb := next hb k; replace Bx := Bx.next k; replace By := By.next k; replace Bz := Bz.next k; replace Bc := (k.block w6.heap.size (Array.getElem?_eq_some_iff.1 Bc).1).trans Bc
        have Bd := alloc_at w7 (.cells #[.int .i64 n0, .int .i64 n1, .int .i64 n2, .int .i64 n3, .int .i64 n4] 35)
        replace k := (Below.refl w7.heap.size w7).alloc (Nat.le_refl _) (.cells #[.int .i64 n0, .int .i64 n1, .int .i64 n2, .int .i64 n3, .int .i64 n4] 35); replace hb := next hb k; replace Bx := Bx.next k; replace By := By.next k; replace Bz := Bz.next k; replace Bc := (k.block w6.heap.size (Array.getElem?_eq_some_iff.1 Bc).1).trans Bc; clear k
        clear tBx0 tBx1 tBx2 tBy0 tBy1 tBy2 tBz0 tBz1 tBz2 cI cG kG kF
        obtain ⟨tBx0, tBx1, tBx2, _⟩ := three_of Bx
        obtain ⟨tBy0, tBy1, tBy2, _⟩ := three_of By
        obtain ⟨tBz0, tBz1, tBz2, _⟩ := three_of Bz
        obtain ⟨tc0, _⟩ := fiveC_of Bc
        obtain ⟨td0, _⟩ := fiveC_of Bd
        replace hn : nb = false ∨ nb = true ∧ n0 = (kz.steps : Int) + 4 := hn.imp id (fun h => ⟨h.1, by have := h.2; omega⟩)
        rcases hn with rfl | ⟨rfl, rfl⟩
        all_goals
          go_wp2_with fail
          go_ret
          exact ⟨rfl, hb⟩
  · have hl2 : 1048576 < (l : Int) := by omega
    go_enter Tryz.func7, Tryz.ntmps7
    go_wp2_with fail
    go_ret
    exact ⟨rfl, Below.refl _ _⟩
end Go.Proofs.YtbdepjcndjcfoaaGreatDoor
