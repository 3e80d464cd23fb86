import Derived.Test.YthjhpfcilaghgaaGreatDoorMSn
import Derived.Test.YthjhpfcilaghgaaGreatDoorMEq
/- FnExactRunTerm, FnExactCountTerm. -/
namespace Go.Proofs.YthjhpfcilaghgaaGreatDoor
open Go.RowKit Go.Shelf
open Ff
set_option linter.unusedVariables false
attribute [local irreducible] Calls

set_option maxHeartbeats 1000000 in
theorem eqResult_c (a c : Int) (b : Bool) (w : World) :
    Calls Tryz.prog 11 #[rV a b c, rV a b c] w fun e w' => e = .returned (.bool true) ∧ Below w.heap.size w w' := by
  go_enter Tryz.func11, Tryz.ntmps11
  go_wp2_with fail
  go_ret
  exact ⟨rfl, ((Below.refl _ w).alloc (Nat.le_refl _) _).alloc (by simp) _⟩
set_option maxHeartbeats 1000000 in
theorem eqCount_c (a b c d e : Int) (w : World) :
    Calls Tryz.prog 14 #[.agg #[.int .i64 a, .int .i64 b, .int .i64 c, .int .i64 d, .int .i64 e], .agg #[.int .i64 a, .int .i64 b, .int .i64 c, .int .i64 d, .int .i64 e]] w fun e w' => e = .returned (.bool true) ∧ Below w.heap.size w w' := by
  go_enter Tryz.func14, Tryz.ntmps14
  go_wp2_with fail
  go_ret
  exact ⟨rfl, ((Below.refl _ w).alloc (Nat.le_refl _) _).alloc (by simp) _⟩
theorem resP_form (o : Option Ou) : ∃ a0 a1 a2 b, resP o = .tuple #[rV a0 a1 a2, .bool b] := by
  rcases o with _ | o
  · exact ⟨_, _, _, _, rfl⟩
  · obtain ⟨a0, a1, a2, h⟩ := resO_form o
    exact ⟨a0, a1, a2, true, by show Value.tuple #[resO o, .bool true] = _; rw [h]⟩
theorem cntP_form (o : Option St) : ∃ a b c d e f, cntP o = .tuple #[.agg #[.int .i64 a, .int .i64 b, .int .i64 c, .int .i64 d, .int .i64 e], .bool f] := by
  rcases o with _ | s
  · exact ⟨_, _, _, _, _, _, rfl⟩
  · exact ⟨_, _, _, _, _, _, rfl⟩
set_option maxRecDepth 100000 in
set_option maxHeartbeats 2000000 in
theorem law_runTerm (s : Text) (w : World) (hl : s.length ≤ 9223372036854775807) (hg : ErrT w) :
    Calls Tryz.prog 3 #[.string ⟨s.toArray⟩] w fun e w' => e = .returned (.bool true) ∧ Below w.heap.size w w' := by
  by_cases h : s.length ≤ 1048576
  · have h2 : (s.length : Int) ≤ 1048576 := by omega
    have C1 := sRunTerm_c (sev_c 1501) s w hl
    have C2 : ∀ w', Below w.heap.size w w' → _ := fun w' hb => iRunTerm_c s w' hl ((hb.cell (p := ⟨0, 0, none⟩) hg.pos).trans hg)
    obtain ⟨a0, a1, a2, b, hres⟩ := resP_form (runO s)
    rw [hres] at C1
    simp only [hres] at C2
    clear hres
    go_enter Tryz.func3, Tryz.ntmps3
    go_wp2_with fail
    refine C1.mono ?_
    clear C1
    rintro e w1 ⟨rfl, hb1⟩
    have hb2 := hb1.alloc hb1.size (.cells #[.int .i64 a0, .bool a1, .int .i64 a2] 23)
    have hx2 := three_of (alloc_at w1 (.cells #[.int .i64 a0, .bool a1, .int .i64 a2] 23))
    have hz2 := alloc_at w1 (.cells #[.int .i64 a0, .bool a1, .int .i64 a2] 23)
    have C3 := C2 _ hb2
    clear C2
    go_wp2_with fail
    generalize w1.alloc (.cells #[.int .i64 a0, .bool a1, .int .i64 a2] 23) = w2 at C3 hb2 hz2 ⊢
    refine C3.mono ?_
    clear C3
    rintro e w3 ⟨rfl, hb3⟩
    have hbw3 := hb2.trans (hb3.mono hb2.size)
    have hb4 := (Below.refl _ w3).alloc (Nat.le_refl _) (.cells #[.int .i64 a0, .bool a1, .int .i64 a2] 23)
    have hs1 := hb1.size
    obtain ⟨x0, x1, x2, _⟩ := three_of ((hb4.block w1.heap.size (by have := hb3.size; have := (Array.getElem?_eq_some_iff.1 hz2).1; omega)).trans ((hb3.block w1.heap.size (Array.getElem?_eq_some_iff.1 hz2).1).trans hz2))
    obtain ⟨y0, y1, y2, _⟩ := three_of (alloc_at w3 (.cells #[.int .i64 a0, .bool a1, .int .i64 a2] 23))
    have E := eqResult_c a0 a2 a1 (w3.alloc (.cells #[.int .i64 a0, .bool a1, .int .i64 a2] 23))
    cases b
    all_goals
      go_wp2_with fail
      refine E.mono ?_
      rintro e w5 ⟨rfl, hb5⟩
      go_wp2_with fail
      go_ret
      exact ⟨rfl, (hbw3.trans (hb4.mono hbw3.size)).trans (hb5.mono (by have := hbw3.size; simp; omega))⟩
  · have h2 : 1048576 < (s.length : Int) := by omega
    go_enter Tryz.func3, Tryz.ntmps3
    go_wp2_with fail
    go_ret
    exact ⟨rfl, Below.refl _ _⟩
set_option maxRecDepth 100000 in
set_option maxHeartbeats 2000000 in
theorem law_countTerm (s : Text) (w : World) (hl : s.length ≤ 9223372036854775807) (hg : ErrT w) :
    Calls Tryz.prog 4 #[.string ⟨s.toArray⟩] w fun e w' => e = .returned (.bool true) ∧ Below w.heap.size w w' := by
  by_cases h : s.length ≤ 1048576
  · have h2 : (s.length : Int) ≤ 1048576 := by omega
    have C1 := sCountTerm_c (sev_c 1501) s w hl
    have C2 : ∀ w', Below w.heap.size w w' → _ := fun w' hb => iCountTerm_c s w' hl ((hb.cell (p := ⟨0, 0, none⟩) hg.pos).trans hg)
    obtain ⟨a0, a1, a2, a3, a4, b, hres⟩ := cntP_form (doneO s)
    rw [hres] at C1
    simp only [hres] at C2
    clear hres
    go_enter Tryz.func4, Tryz.ntmps4
    go_wp2_with fail
    refine C1.mono ?_
    clear C1
    rintro e w1 ⟨rfl, hb1⟩
    have hb2 := hb1.alloc hb1.size (.cells #[.int .i64 a0, .int .i64 a1, .int .i64 a2, .int .i64 a3, .int .i64 a4] 29)
    have hx2 := fiveC_of (alloc_at w1 (.cells #[.int .i64 a0, .int .i64 a1, .int .i64 a2, .int .i64 a3, .int .i64 a4] 29))
    have hz2 := alloc_at w1 (.cells #[.int .i64 a0, .int .i64 a1, .int .i64 a2, .int .i64 a3, .int .i64 a4] 29)
    have C3 := C2 _ hb2
    clear C2
    go_wp2_with fail
    generalize w1.alloc (.cells #[.int .i64 a0, .int .i64 a1, .int .i64 a2, .int .i64 a3, .int .i64 a4] 29) = w2 at C3 hb2 hz2 ⊢
    refine C3.mono ?_
    clear C3
    rintro e w3 ⟨rfl, hb3⟩
    have hbw3 := hb2.trans (hb3.mono hb2.size)
    have hb4 := (Below.refl _ w3).alloc (Nat.le_refl _) (.cells #[.int .i64 a0, .int .i64 a1, .int .i64 a2, .int .i64 a3, .int .i64 a4] 29)
    have hs1 := hb1.size
    obtain ⟨x0, x1, x2, x3, x4, _⟩ := fiveC_of ((hb4.block w1.heap.size (by have := hb3.size; have := (Array.getElem?_eq_some_iff.1 hz2).1; omega)).trans ((hb3.block w1.heap.size (Array.getElem?_eq_some_iff.1 hz2).1).trans hz2))
    obtain ⟨y0, y1, y2, y3, y4, _⟩ := fiveC_of (alloc_at w3 (.cells #[.int .i64 a0, .int .i64 a1, .int .i64 a2, .int .i64 a3, .int .i64 a4] 29))
    have E := eqCount_c a0 a1 a2 a3 a4 (w3.alloc (.cells #[.int .i64 a0, .int .i64 a1, .int .i64 a2, .int .i64 a3, .int .i64 a4] 29))
    cases b
    all_goals
      go_wp2_with fail
      refine E.mono ?_
      rintro e w5 ⟨rfl, hb5⟩
      go_wp2_with fail
      go_ret
      exact ⟨rfl, (hbw3.trans (hb4.mono hbw3.size)).trans (hb5.mono (by have := hbw3.size; simp; omega))⟩
  · have h2 : 1048576 < (s.length : Int) := by omega
    go_enter Tryz.func4, Tryz.ntmps4
    go_wp2_with fail
    go_ret
    exact ⟨rfl, Below.refl _ _⟩
end Go.Proofs.YthjhpfcilaghgaaGreatDoor
