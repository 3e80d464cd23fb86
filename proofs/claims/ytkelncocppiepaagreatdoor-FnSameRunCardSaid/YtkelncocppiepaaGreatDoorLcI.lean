import Derived.Test.YtkelncocppiepaaGreatDoorLcA
import Derived.Test.YtkelncocppiepaaGreatDoorLbB
import Derived.Test.YtkelncocppiepaaGreatDoorUh
/- FnSameRun. -/
namespace Go.Proofs.YtkelncocppiepaaGreatDoor
open Go.RowKit
open Ff
set_option linter.unusedVariables false
attribute [local irreducible] Calls

theorem unq_len (s : Text) : (textO (unqO s)).length ≤ 5000 := by
  rcases hr : readS s with _ | t
  · have hO : unqO s = none := by unfold unqO; rw [hr]; rfl
    rw [hO]; simp [textO]
  · obtain ⟨hO, hA⟩ := unqO_facts hr
    obtain ⟨tg, td, tp⟩ := read_facts hr
    rw [hO]
    rcases ho : unqT 24 id (sfree t) t with _ | r
    · simp [textO]
    · have A := hA r ho
      have := text_len r.1
      rw [A.many] at this
      show (textN r.1).length ≤ 5000
      omega
theorem sameB_comm (a0 a2 : Int) (a1 b : Bool) (c0 c2 : Int) (c1 d : Bool) : sameB c0 c2 c1 d a0 a2 a1 b = sameB a0 a2 a1 b c0 c2 c1 d := by
  unfold sameB
  rw [Bool.and_comm d b, show decide (c0 = a0) = decide (a0 = c0) from decide_eq_decide.2 eq_comm, show decide (c1 = a1) = decide (a1 = c1) from decide_eq_decide.2 eq_comm, show decide (c2 = a2) = decide (a2 = c2) from decide_eq_decide.2 eq_comm]
theorem sameB_self (a0 a2 : Int) (a1 b : Bool) : sameB a0 a2 a1 b a0 a2 a1 b = b := by simp [sameB]
set_option maxRecDepth 100000 in
set_option maxHeartbeats 4000000 in
theorem drawSameRun_c (a : Option Addr) (l c : Nat) (w : World) (h : Src w a l c) :
    Calls Tryz.prog 4 #[.slice a l c] w fun e w' => ∃ s t : Text, e = .returned (.tuple #[.string ⟨s.toArray⟩, .string ⟨t.toArray⟩]) ∧ s.length ≤ 100000 ∧ t.length ≤ 100000 ∧ Below w.heap.size w w' := by
  go_enter Tryz.func4, Tryz.ntmps4
  go_wp2_with fail
  refine (open_c a l c w h).mono ?_; rintro e w1 ⟨l', rfl, hD⟩
  go_wp2_with fail
  refine (any3_c _ _ _ _ _ _ _ hD (by omega)).mono ?_; rintro e w2 ⟨s, p', rfl, hs, hp, hD2⟩
  have q1 : ¬ 9223372036854775807 < 2 + s.length := by omega
  have q2 : ¬ 9223372036854775807 < 4 + s.length := by omega
  have q3 : ¬ 9223372036854775807 < 4 + s.length + 1 := by omega
  go_wp2_with fail
  refine (pick_g hD2 _ (by omega) (by omega) (by omega)).mono ?_; rintro e w3 ⟨k1, rfl, hk1, hD3⟩
  go_wp2_with fail
  · have C := sUnq_c s w3 (by omega)
    refine C.mono ?_; rintro e w4 ⟨rfl, hb⟩
    go_wp2_with fail
    go_ret2
    exact ⟨s, _, rfl, by omega, by have := unq_len s; omega, hD3.below.trans (hb.mono hD3.below.size)⟩
  · go_ret2
    exact ⟨s, [43, 48] ++ s, by rw [← str_app2]; rfl, by omega, by simp; omega, hD3.below⟩
  · go_ret2
    exact ⟨s, [40, 92, 97, 97] ++ s ++ [41], by rw [← str_app2, ← str_app2]; rfl, by omega, by simp; omega, hD3.below⟩
  · refine (any3_c _ _ _ _ _ _ _ hD3 (by omega)).mono ?_; rintro e w4 ⟨t, p4, rfl, ht, hp4, hD4⟩
    go_wp2_with fail
    go_ret2
    exact ⟨s, t, rfl, by omega, by omega, hD4.below⟩
set_option maxRecDepth 100000 in
set_option maxHeartbeats 8000000 in
theorem law_fnSameRun (a : Option Addr) (l c : Nat) (w : World) (h : Src w a l c) (hg : ErrT w) :
    Calls Tryz.prog 3 #[.slice a l c] w fun e w' => e = .returned (.bool true) ∧ Below w.heap.size w w' := by
  by_cases hl : l ≤ 1048576
  · have hl2 : (l : Int) ≤ 1048576 := by omega
    go_enter Tryz.func3, Tryz.ntmps3
    go_wp2_with fail
    refine (drawSameRun_c a l c w h).mono ?_; rintro e w1 ⟨s, t, rfl, hs, ht, hb⟩
    obtain ⟨x0, x1, x2, xb, hx⟩ := resP_form (runO s)
    obtain ⟨y0, y1, y2, yb, hy⟩ := resP_form (runO t)
    have C1 := fun W hg => iSameRun_c s t W (by omega) (by omega) x0 x2 x1 xb hx y0 y2 y1 yb hy hg
    have C2 := fun W => sSameRun_c (sev_c 1501) s t W (by omega) (by omega) x0 x2 x1 xb hx y0 y2 y1 yb hy
    have C3 := fun W hg => iSameRun_c t s W (by omega) (by omega) y0 y2 y1 yb hy x0 x2 x1 xb hx hg
    have C4 := fun W hg => iSameRun_c s s W (by omega) (by omega) x0 x2 x1 xb hx x0 x2 x1 xb hx hg
    have K1 := fun W hg => kI s W (by omega) hg
    have K2 := fun W hg => kI t W (by omega) hg
    rw [hx] at K1
    rw [hy] at K2
    rw [sameB_comm] at C3
    rw [sameB_self] at C4
    obtain ⟨r, hr⟩ : ∃ r, sameB x0 x2 x1 xb y0 y2 y1 yb = r := ⟨_, rfl⟩
    rw [hr] at C1 C2 C3
    have HR := Lib.hid hr
    clear hr hx hy
    go_wp2_with fail
    refine (C1 w1 (hg.next hb)).mono ?_; rintro e w2 ⟨rfl, k⟩; replace hb := next hb k
    cases r
    all_goals
      go_wp2_with fail
      refine (C2 w2).mono ?_; rintro e w3 ⟨rfl, k⟩; replace hb := next hb k
      go_wp2_with fail
      refine (C3 w3 (hg.next hb)).mono ?_; rintro e w4 ⟨rfl, k⟩; replace hb := next hb k
      go_wp2_with fail
      refine (K1 w4 (hg.next hb)).mono ?_; rintro e w5 ⟨rfl, k⟩; replace hb := next hb k
      have Bx := box_new w5 x0 x2 x1
      replace k := box_below w5 x0 x2 x1; replace hb := next hb k; clear k
      go_wp2_with fail
      generalize w5.alloc (.cells #[.int .i64 x0, .bool x1, .int .i64 x2] 27) = W2 at Bx hb ⊢
      refine (K2 W2 (hg.next hb)).mono ?_; rintro e w6 ⟨rfl, k⟩; replace hb := next hb k; replace Bx := Bx.next k
      have By := box_new w6 y0 y2 y1
      replace k := box_below w6 y0 y2 y1; replace hb := next hb k; replace Bx := Bx.next k; clear k
      obtain ⟨tBx0, tBx1, tBx2, _⟩ := three_of Bx
      obtain ⟨tBy0, tBy1, tBy2, _⟩ := three_of By
      cases xb <;> cases yb
    all_goals go_wp2_with fail
    all_goals try (refine (C4 _ (hg.next hb)).mono ?_; rintro e w7 ⟨rfl, k⟩; replace hb := next hb k; go_wp2_with fail)
    all_goals go_ret
    all_goals (have hr := HR.out; simp [sameB] at hr)
    all_goals (refine ⟨?_, hb⟩; simp_all)
  · have hl2 : 1048576 < (l : Int) := by omega
    go_enter Tryz.func3, Tryz.ntmps3
    go_wp2_with fail
    go_ret
    exact ⟨rfl, Below.refl _ _⟩
end Go.Proofs.YtkelncocppiepaaGreatDoor
