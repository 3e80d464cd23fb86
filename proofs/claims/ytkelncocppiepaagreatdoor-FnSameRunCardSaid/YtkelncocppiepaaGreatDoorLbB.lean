import Derived.Test.YtkelncocppiepaaGreatDoorMVh
/- FnExactSameRun. -/
namespace Go.Proofs.YtkelncocppiepaaGreatDoor
open Go.RowKit Go.Shelf
open Ff
set_option linter.unusedVariables false
attribute [local irreducible] Calls

/-- Whether two terms have the same result. -/
def sameB (a0 a2 : Int) (a1 b : Bool) (c0 c2 : Int) (c1 d : Bool) : Bool := (b && d) && (decide (a0 = c0) && (decide (a1 = c1) && decide (a2 = c2)))
set_option maxRecDepth 100000 in
set_option maxHeartbeats 2000000 in
theorem sSameRun_c (hev : SEvC 1501) (s t : Text) (w : World) (hl : s.length ≤ 9223372036854775807) (hl2 : t.length ≤ 9223372036854775807) (a0 a2 : Int) (a1 b : Bool) (h1 : resP (runO s) = .tuple #[rV a0 a1 a2, .bool b]) (c0 c2 : Int) (c1 d : Bool) (h2 : resP (runO t) = .tuple #[rV c0 c1 c2, .bool d]) :
    Calls Tryz.prog 6 #[.string ⟨s.toArray⟩, .string ⟨t.toArray⟩] w fun e w' => e = .returned (.bool (sameB a0 a2 a1 b c0 c2 c1 d)) ∧ Below w.heap.size w w' := by
  have C1 := sRunTerm_c hev s w hl
  have C2 : ∀ w, _ := fun w => sRunTerm_c hev t w hl2
  rw [h1] at C1
  simp only [h2] at C2
  clear h1 h2
  go_enter Tryz.func6, Tryz.ntmps6
  go_wp2_with fail
  refine C1.mono ?_
  clear C1
  rintro e w1 ⟨rfl, hb1⟩
  have hb2 := hb1.alloc hb1.size (.cells #[.int .i64 a0, .bool a1, .int .i64 a2] 27)
  have hz2 := alloc_at w1 (.cells #[.int .i64 a0, .bool a1, .int .i64 a2] 27)
  have C3 := C2 (w1.alloc (.cells #[.int .i64 a0, .bool a1, .int .i64 a2] 27))
  clear C2
  go_wp2_with fail
  generalize w1.alloc (.cells #[.int .i64 a0, .bool a1, .int .i64 a2] 27) = w2 at C3 hb2 hz2 ⊢
  refine C3.mono ?_
  clear C3
  rintro e w3 ⟨rfl, hb3⟩
  have hl3 := (Array.getElem?_eq_some_iff.1 hz2).1
  have hbw3 := hb2.trans (hb3.mono hb2.size)
  have hb4 := (Below.refl _ w3).alloc (Nat.le_refl _) (.cells #[.int .i64 c0, .bool c1, .int .i64 c2] 27)
  obtain ⟨x0, x1, x2, _⟩ := three_of ((hb4.block w1.heap.size (by have := hb3.size; omega)).trans ((hb3.block w1.heap.size hl3).trans hz2))
  obtain ⟨y0, y1, y2, _⟩ := three_of (alloc_at w3 (.cells #[.int .i64 c0, .bool c1, .int .i64 c2] 27))
  have hbw4 := hbw3.trans (hb4.mono hbw3.size)
  go_wp2_with fail
  all_goals go_ret
  all_goals exact ⟨by simp [sameB, *], hbw4⟩
set_option maxRecDepth 100000 in
set_option maxHeartbeats 2000000 in
theorem iSameRun_c (s t : Text) (w : World) (hl : s.length ≤ 9223372036854775807) (hl2 : t.length ≤ 9223372036854775807) (a0 a2 : Int) (a1 b : Bool) (h1 : resP (runO s) = .tuple #[rV a0 a1 a2, .bool b]) (c0 c2 : Int) (c1 d : Bool) (h2 : resP (runO t) = .tuple #[rV c0 c1 c2, .bool d]) (hg : ErrT w) :
    Calls Tryz.prog 5 #[.string ⟨s.toArray⟩, .string ⟨t.toArray⟩] w fun e w' => e = .returned (.bool (sameB a0 a2 a1 b c0 c2 c1 d)) ∧ Below w.heap.size w w' := by
  have C1 := iRunTerm_c s w hl hg
  have C2 : ∀ w', Below w.heap.size w w' → _ := fun w' hb => iRunTerm_c t w' hl2 ((hb.cell (p := ⟨0, 0, none⟩) hg.pos).trans hg)
  rw [h1] at C1
  simp only [h2] at C2
  clear h1 h2
  go_enter Tryz.func5, Tryz.ntmps5
  go_wp2_with fail
  refine C1.mono ?_
  clear C1
  rintro e w1 ⟨rfl, hb1⟩
  have hb2 := hb1.alloc hb1.size (.cells #[.int .i64 a0, .bool a1, .int .i64 a2] 27)
  have hz2 := alloc_at w1 (.cells #[.int .i64 a0, .bool a1, .int .i64 a2] 27)
  have C3 := C2 _ hb2
  clear C2
  go_wp2_with fail
  generalize w1.alloc (.cells #[.int .i64 a0, .bool a1, .int .i64 a2] 27) = w2 at C3 hb2 hz2 ⊢
  refine C3.mono ?_
  clear C3
  rintro e w3 ⟨rfl, hb3⟩
  have hl3 := (Array.getElem?_eq_some_iff.1 hz2).1
  have hbw3 := hb2.trans (hb3.mono hb2.size)
  have hb4 := (Below.refl _ w3).alloc (Nat.le_refl _) (.cells #[.int .i64 c0, .bool c1, .int .i64 c2] 27)
  obtain ⟨x0, x1, x2, _⟩ := three_of ((hb4.block w1.heap.size (by have := hb3.size; omega)).trans ((hb3.block w1.heap.size hl3).trans hz2))
  obtain ⟨y0, y1, y2, _⟩ := three_of (alloc_at w3 (.cells #[.int .i64 c0, .bool c1, .int .i64 c2] 27))
  have hbw4 := hbw3.trans (hb4.mono hbw3.size)
  go_wp2_with fail
  all_goals go_ret
  all_goals exact ⟨by simp [sameB, *], hbw4⟩
end Go.Proofs.YtkelncocppiepaaGreatDoor
