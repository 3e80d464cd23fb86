import Derived.Test.YthjhpfcilaghgaaDoorDec
import Derived.Lib.AppendIntMem
/- FormatResult, FormatCount: the statements' walks. -/
namespace Go.Proofs.YthjhpfcilaghgaaDoor
open Go.RowKit Go.Shelf
set_option linter.unusedVariables false
attribute [local irreducible] Calls

/-- The table of the powers of ten stands. -/
abbrev Tab (w : World) : Prop := Lib.TabIs Tryd.prog w tabName .u64 Lib.pow10Tab
/-- The library's text of any integer, with what is kept. -/
theorem itoaB_c (n : Int) (h0 : -9223372036854775808 ≤ n) (h1 : n ≤ 9223372036854775807) (w : World) (htab : Tab w) :
    Calls Tryd.prog 12 #[.int .i64 n] w fun e w' => e = .returned (.string ⟨(Lib.itoa n).toArray⟩) ∧ Below w.heap.size w w' := by
  refine (itoaAll_c n h0 h1 w htab).mono ?_
  rintro e w' ⟨rfl, k, os, rfl⟩
  exact ⟨rfl, Lib.below_grow _ w (Nat.le_refl _) k os⟩
theorem eBlock (w : World) (o : Obj) : (w.alloc o).heap[w.heap.size]? = some o := by show (w.heap.push o)[w.heap.size]? = _; simp
/-- A result. -/
abbrev resV (e : Int) (b : Bool) (v : Int) : Value := .agg #[.int .i64 e, .bool b, .int .i64 v]
def resT (e : Int) (b : Bool) (v : Int) : List UInt8 := if e = 0 then (if b then [102, 117, 110, 99, 116, 105, 111, 110] else Lib.itoa v) else if e = 1 then [102, 97, 117, 108, 116] else if e = 2 then [108, 111, 110, 103] else []

set_option maxRecDepth 100000 in
theorem iFormatResult_c (e : Int) (b : Bool) (v : Int) (h0 : -9223372036854775808 ≤ v) (h1 : v ≤ 9223372036854775807) (w : World) (htab : Tab w) :
    Calls Tryd.prog 7 #[resV e b v] w fun x w' => x = .returned (.string ⟨(resT e b v).toArray⟩) ∧ Below w.heap.size w w' := by
  have T := Lib.tabBelow_of_tabIs htab
  by_cases e0 : e = 0
  · subst e0
    cases b
    · go_enter Tryd.func7, Tryd.ntmps7
      go_wp2_with fail
      refine (itoaB_c v h0 h1 _ (T _ ((Below.refl _ w).alloc (Nat.le_refl _) _))).mono ?_; rintro x w2 ⟨rfl, hb⟩
      go_wp2_with fail
      go_ret
      exact ⟨rfl, ((Below.refl _ w).alloc (Nat.le_refl _) _).trans (hb.mono (by simp))⟩
    · go_enter Tryd.func7, Tryd.ntmps7
      go_wp2_with fail
      go_ret
      exact ⟨rfl, ((Below.refl _ w).alloc (Nat.le_refl _) _)⟩
  have f0 : (e == 0) = false := by simpa using e0
  by_cases e1 : e = 1
  · subst e1
    go_enter Tryd.func7, Tryd.ntmps7
    go_wp2_with fail
    go_ret
    exact ⟨rfl, ((Below.refl _ w).alloc (Nat.le_refl _) _)⟩
  have f1 : (e == 1) = false := by simpa using e1
  by_cases e2 : e = 2
  · subst e2
    go_enter Tryd.func7, Tryd.ntmps7
    go_wp2_with fail
    go_ret
    exact ⟨rfl, ((Below.refl _ w).alloc (Nat.le_refl _) _)⟩
  have f2 : (e == 2) = false := by simpa using e2
  have er : resT e b v = [] := by simp [resT, e0, e1, e2]
  rw [er]
  clear e0 e1 e2 er
  go_enter Tryd.func7, Tryd.ntmps7
  go_wp2_with fail
  go_ret
  exact ⟨rfl, ((Below.refl _ w).alloc (Nat.le_refl _) _)⟩
set_option maxRecDepth 100000 in
theorem sFormatResult_c (e : Int) (b : Bool) (v : Int) (h0 : -9223372036854775808 ≤ v) (h1 : v ≤ 9223372036854775807) (w : World) :
    Calls Tryd.prog 5 #[resV e b v] w fun x w' => x = .returned (.string ⟨(resT e b v).toArray⟩) ∧ Below w.heap.size w w' := by
  by_cases e0 : e = 0
  · subst e0
    cases b
    · go_enter Tryd.func5, Tryd.ntmps5
      go_wp2_with fail
      refine (decInt_c v h0 h1 _).mono ?_; rintro x w2 ⟨rfl, hb⟩
      go_wp2_with fail
      go_ret
      exact ⟨rfl, ((Below.refl _ w).alloc (Nat.le_refl _) _).trans (hb.mono (by simp))⟩
    · go_enter Tryd.func5, Tryd.ntmps5
      go_wp2_with fail
      go_ret
      exact ⟨rfl, ((Below.refl _ w).alloc (Nat.le_refl _) _)⟩
  have f0 : (e == 0) = false := by simpa using e0
  by_cases e1 : e = 1
  · subst e1
    go_enter Tryd.func5, Tryd.ntmps5
    go_wp2_with fail
    go_ret
    exact ⟨rfl, ((Below.refl _ w).alloc (Nat.le_refl _) _)⟩
  have f1 : (e == 1) = false := by simpa using e1
  by_cases e2 : e = 2
  · subst e2
    go_enter Tryd.func5, Tryd.ntmps5
    go_wp2_with fail
    go_ret
    exact ⟨rfl, ((Below.refl _ w).alloc (Nat.le_refl _) _)⟩
  have f2 : (e == 2) = false := by simpa using e2
  have er : resT e b v = [] := by simp [resT, e0, e1, e2]
  rw [er]
  clear e0 e1 e2 er
  go_enter Tryd.func5, Tryd.ntmps5
  go_wp2_with fail
  go_ret
  exact ⟨rfl, ((Below.refl _ w).alloc (Nat.le_refl _) _)⟩
set_option maxRecDepth 100000 in
theorem toResult_c (e : Int) (b : Bool) (v : Int) (w : World) :
    Calls Tryd.prog 6 #[resV e b v] w fun x w' => x = .returned (resV e b v) ∧ Below w.heap.size w w' := by
  go_enter Tryd.func6, Tryd.ntmps6
  go_wp2_with fail
  simp [bodyPost, results, Tryd.results6, go_sem]
  exact (((Below.refl _ w).alloc (Nat.le_refl _) _).alloc (by simp) _).alloc (by simp; omega) _
set_option maxRecDepth 100000 in
theorem law_formatResult (e : Int) (b : Bool) (v : Int) (h0 : -9223372036854775808 ≤ v) (h1 : v ≤ 9223372036854775807) (w : World) (htab : Tab w) :
    Calls Tryd.prog 3 #[resV e b v] w fun x w' => x = .returned (.bool true) ∧ Below w.heap.size w w' := by
  have T := Lib.tabBelow_of_tabIs htab
  go_enter Tryd.func3, Tryd.ntmps3
  go_wp2_with fail
  have hb : Below w.heap.size w (w.alloc (.cells #[.int .i64 e, .bool b, .int .i64 v] 23)) := (Below.refl _ w).alloc (Nat.le_refl _) _
  have c1 : (w.alloc (.cells #[.int .i64 e, .bool b, .int .i64 v] 23)).heap[w.heap.size]? = some (.cells #[.int .i64 e, .bool b, .int .i64 v] 23) := eBlock _ _
  refine (toResult_c e b v _).mono ?_; rintro x w2 ⟨rfl, hb2⟩; have hb3 := hb.trans (hb2.mono hb.size)
  go_wp2_with fail
  refine (sFormatResult_c e b v h0 h1 _).mono ?_; rintro x w3 ⟨rfl, hb4⟩; have hb5 := hb3.trans (hb4.mono hb3.size)
  have q : w3.heap[w.heap.size]? = some (.cells #[.int .i64 e, .bool b, .int .i64 v] 23) := by
    have z := hb2.size
    rw [World.size_alloc] at z
    rw [hb4.block _ (by omega), hb2.block _ (by rw [World.size_alloc]; omega)]; exact c1
  have d0 : w3.cell? ⟨w.heap.size, 0, none⟩ = some (.int .i64 e) := by simp [World.cell?, q]
  have d1 : w3.cell? ⟨w.heap.size, 1, none⟩ = some (.bool b) := by simp [World.cell?, q]
  have d2 : w3.cell? ⟨w.heap.size, 2, none⟩ = some (.int .i64 v) := by simp [World.cell?, q]
  clear hb hb2 hb3 hb4 c1 q
  go_wp2_with fail
  refine (toResult_c e b v _).mono ?_; rintro x w4 ⟨rfl, hb6⟩; have hb7 := hb5.trans (hb6.mono hb5.size)
  go_wp2_with fail
  refine (iFormatResult_c e b v h0 h1 _ (T _ hb7)).mono ?_; rintro x w5 ⟨rfl, hb8⟩; have hb9 := hb7.trans (hb8.mono hb7.size)
  go_wp2_with fail
  go_ret
  exact ⟨rfl, hb9⟩
end Go.Proofs.YthjhpfcilaghgaaDoor
