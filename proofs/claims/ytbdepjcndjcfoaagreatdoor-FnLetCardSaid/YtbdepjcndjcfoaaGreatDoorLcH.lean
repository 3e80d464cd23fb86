import Derived.Test.YtbdepjcndjcfoaaGreatDoorLcG
/- FnLet. Written by genL.py. -/
namespace Go.Proofs.YtbdepjcndjcfoaaGreatDoor
open Go.RowKit
open Ff
set_option linter.unusedVariables false
attribute [local irreducible] Calls

theorem kVi (s : Text) (w : World) (hs : s.length ≤ 100000) : Calls Tryz.prog 11 #[.string ⟨s.toArray⟩] w fun e w' => e = .returned (.bool (readS s).isSome) ∧ Below w.heap.size w w' := by rw [readS_eq]; exact iTermValid_c s w (by omega)
theorem kVs (s : Text) (w : World) (hs : s.length ≤ 100000) : Calls Tryz.prog 12 #[.string ⟨s.toArray⟩] w fun e w' => e = .returned (.bool (readS s).isSome) ∧ Below w.heap.size w w' := sTermValid_c s w (by omega)
theorem kCi (s : Text) (w : World) (hs : s.length ≤ 100000) : Calls Tryz.prog 13 #[.string ⟨s.toArray⟩] w fun e w' => e = .returned (.bool (closedB (readS s))) ∧ Below w.heap.size w w' := by rw [readS_eq]; exact iIsClosed_c s w (by omega)
theorem closed_form {s : Text} (h : closedB (readS s) = true) : ∃ a0 a1 a2, resP (runO s) = .tuple #[rV a0 a1 a2, .bool true] := by
  rcases hr : readS s with _ | t
  · rw [hr] at h; simp [closedB] at h
  · rw [hr] at h
    have h0 : sfree t = [] := by simpa [closedB] using h
    have hc : closedS s = some t := by unfold closedS; rw [hr]; simp [h0]
    obtain ⟨a0, a1, a2, hq⟩ := resO_form (ev 1501 t 0 .nil st0)
    exact ⟨a0, a1, a2, by unfold runO; rw [hc]; show Value.tuple #[resO _, .bool true] = _; rw [hq]⟩
set_option maxRecDepth 100000 in
set_option maxHeartbeats 4000000 in
theorem law_fnLet (a : Option Addr) (l c : Nat) (a2 : Option Addr) (l2 c2 : Nat) (w : World) (h : Src w a l c) (h2 : Src w a2 l2 c2) (hg : ErrT w) :
    Calls Tryz.prog 3 #[.slice a l c, .slice a2 l2 c2] w fun e w' => e = .returned (.bool true) ∧ Below w.heap.size w w' := by
  by_cases hl : l ≤ 1048576
  · have hl2 : (l : Int) ≤ 1048576 := by omega
    by_cases hm : l2 ≤ 1048576
    · have hm2 : (l2 : Int) ≤ 1048576 := by omega
      go_enter Tryz.func3, Tryz.ntmps3
      go_wp2_with fail
      refine (drawRunTerm_c a l c w h).mono ?_; rintro e w1 ⟨s, rfl, hs, hb⟩
      go_wp2_with fail
      refine (drawRunWith_c a2 l2 c2 w1 (h2.keep hb)).mono ?_; rintro e w2 ⟨u, vu, rfl, hu, k⟩; replace hb := next hb k; clear k
      obtain ⟨G, hG⟩ : ∃ G : Text, G = 61 :: 97 :: (s ++ u) := ⟨_, rfl⟩
      have eG : (⟨#[61, 97]⟩ ++ ⟨s.toArray⟩ ++ ⟨u.toArray⟩ : ByteArray) = ⟨G.toArray⟩ := by
        show (⟨([61, 97] : Text).toArray⟩ ++ ⟨s.toArray⟩ ++ ⟨u.toArray⟩ : ByteArray) = _
        rw [str_app2, str_app2, hG]; simp
      have lG : G.length ≤ 100000 := by rw [hG]; simp; omega
      have qG2 : ¬ 9223372036854775807 < 2 + s.length := by omega
      have qG3 : ¬ 9223372036854775807 < 2 + s.length + u.length := by omega
      have HG := Lib.hid hG
      clear hG
      obtain ⟨F, hF⟩ : ∃ F : Text, F = 40 :: 92 :: 97 :: (u ++ (s ++ [41])) := ⟨_, rfl⟩
      have eF : (⟨#[40, 92, 97]⟩ ++ ⟨u.toArray⟩ ++ ⟨s.toArray⟩ ++ ⟨#[41]⟩ : ByteArray) = ⟨F.toArray⟩ := by
        show (⟨([40, 92, 97] : Text).toArray⟩ ++ ⟨u.toArray⟩ ++ ⟨s.toArray⟩ ++ ⟨([41] : Text).toArray⟩ : ByteArray) = _
        rw [str_app2, str_app2, str_app2, hF]; simp
      have lF : F.length ≤ 100000 := by rw [hF]; simp; omega
      have qF2 : ¬ 9223372036854775807 < 3 + u.length := by omega
      have qF3 : ¬ 9223372036854775807 < 3 + u.length + s.length := by omega
      have qF4 : ¬ 9223372036854775807 < 3 + u.length + s.length + 1 := by omega
      have HF := Lib.hid hF
      clear hF
      go_wp2_with fail
      refine (kVi s w2 (by omega)).mono ?_; rintro e w3 ⟨rfl, k⟩; replace hb := next hb k; clear k
      go_wp2_with fail
      refine (kVs s w3 (by omega)).mono ?_; rintro e w4 ⟨rfl, k⟩; replace hb := next hb k; clear k
      rcases hr : readS s with _ | T
      · have HT := Lib.hid hr
        clear hr
        simp only [Option.isSome_none]
        go_wp2_with fail
        refine (kVi s w4 (by omega)).mono ?_; rw [HT.out]; simp only [Option.isSome_none]; rintro e w5 ⟨rfl, k⟩; replace hb := next hb k; clear k
        go_wp2_with fail
        go_ret
        exact ⟨rfl, hb⟩
      · have HT := Lib.hid hr
        clear hr
        simp only [Option.isSome_some]
        go_wp2_with fail
        refine (kVi s w4 (by omega)).mono ?_; rw [HT.out]; simp only [Option.isSome_some]; rintro e w5 ⟨rfl, k⟩; replace hb := next hb k; clear k
        go_wp2_with fail
        refine (kVi u w5 (by omega)).mono ?_; rintro e w6 ⟨rfl, k⟩; replace hb := next hb k; clear k
        rcases hr : readS u with _ | U
        · simp only [Option.isSome_none]
          clear hr
          go_wp2_with fail
          go_ret
          exact ⟨rfl, hb⟩
        · have HU := Lib.hid hr
          clear hr
          simp only [Option.isSome_some]
          go_wp2_with fail
          refine (kCi G w6 lG).mono ?_; rintro e w7 ⟨rfl, k⟩; replace hb := next hb k; clear k
          rcases hr : closedB (readS G)
          · clear hr
            go_wp2_with fail
            go_ret
            exact ⟨rfl, hb⟩
          · have HCG := Lib.hid hr
            clear hr
            go_wp2_with fail
            refine (kCi F w7 lF).mono ?_; rintro e w8 ⟨rfl, k⟩; replace hb := next hb k; clear k
            rcases hr : closedB (readS F)
            · clear hr
              go_wp2_with fail
              go_ret
              exact ⟨rfl, hb⟩
            · have HCF := Lib.hid hr
              clear hr
              obtain ⟨x0, x1, x2, hRx⟩ := closed_form HCG.out
              have HRx := Lib.hid hRx
              clear hRx
              obtain ⟨y0, y1, y2, hRy⟩ := closed_form HCF.out
              have HRy := Lib.hid hRy
              clear hRy
              go_wp2_with fail
              refine (kI G w8 lG (hg.next hb)).mono ?_; rw [HRx.out]; rintro e w9 ⟨rfl, k⟩; replace hb := next hb k
              have Bx := box_new w9 x0 x2 x1
              replace k := box_below w9 x0 x2 x1; replace hb := next hb k; clear k
              go_wp2_with fail
              generalize w9.alloc (.cells #[.int .i64 x0, .bool x1, .int .i64 x2] 29) = W9 at Bx hb ⊢
              refine (kI F W9 lF (hg.next hb)).mono ?_; rw [HRy.out]; rintro e w10 ⟨rfl, k⟩; replace hb := next hb k; replace Bx := Bx.next k
              have By := box_new w10 y0 y2 y1
              replace k := box_below w10 y0 y2 y1; replace hb := next hb k; replace Bx := Bx.next k; clear k
              rcases let_int HG.out HF.out HT.out HU.out HRx.out HRy.out with rfl | rfl | ⟨rfl, rfl, rfl⟩
              all_goals try (rcases res_cases HRx.out with rfl | rfl | rfl)
              all_goals try (rcases res_cases HRy.out with rfl | rfl | rfl)
              all_goals
                obtain ⟨tBx0, tBx1, tBx2, _⟩ := three_of Bx
                obtain ⟨tBy0, tBy1, tBy2, _⟩ := three_of By
                go_wp2_with fail
                go_ret
                exact ⟨rfl, hb⟩
    · have hm2 : 1048576 < (l2 : Int) := by omega
      go_enter Tryz.func3, Tryz.ntmps3
      go_wp2_with fail
      go_ret
      exact ⟨rfl, Below.refl _ _⟩
  · have hl2 : 1048576 < (l : Int) := by omega
    go_enter Tryz.func3, Tryz.ntmps3
    go_wp2_with fail
    go_ret
    exact ⟨rfl, Below.refl _ _⟩
end Go.Proofs.YtbdepjcndjcfoaaGreatDoor
