import Derived.Test.YthjhpfcilaghgaaDoorFmt
import Derived.Deep.RegionHeld3
/- FormatCount: the statement's walk. -/
namespace Go.Proofs.YthjhpfcilaghgaaDoor
open Go.RowKit Go.Shelf
set_option linter.unusedVariables false
attribute [local irreducible] Calls

/-- The bounds of an int. -/
abbrev I64 (n : Int) : Prop := -9223372036854775808 ≤ n ∧ n ≤ 9223372036854775807
abbrev cntV (a b c d e : Int) : Value := .agg #[.int .i64 a, .int .i64 b, .int .i64 c, .int .i64 d, .int .i64 e]
def cntT (a b c d e : Int) : List UInt8 := Lib.itoa a ++ ([32] ++ Lib.itoa b) ++ ([32] ++ Lib.itoa c) ++ ([32] ++ Lib.itoa d) ++ ([32] ++ Lib.itoa e)
/-- What is kept over a call: five cells. -/
abbrev Cells5 (B : Nat) (w : World) (a b c d e : Int) (W : World) : Prop := W.cell? ⟨B, 0, none⟩ = some (.int .i64 a) ∧ W.cell? ⟨B, 1, none⟩ = some (.int .i64 b) ∧ W.cell? ⟨B, 2, none⟩ = some (.int .i64 c) ∧ W.cell? ⟨B, 3, none⟩ = some (.int .i64 d) ∧ W.cell? ⟨B, 4, none⟩ = some (.int .i64 e) ∧ Below B w W ∧ B < W.heap.size
theorem cell5 (w : World) (a b c d e : Int) (t : TypeId) : Cells5 w.heap.size w a b c d e (w.alloc (.cells #[.int .i64 a, .int .i64 b, .int .i64 c, .int .i64 d, .int .i64 e] t)) := by
  have q := eBlock w (.cells #[.int .i64 a, .int .i64 b, .int .i64 c, .int .i64 d, .int .i64 e] t)
  have hB := (Below.refl w.heap.size w).alloc (Nat.le_refl _) (.cells #[.int .i64 a, .int .i64 b, .int .i64 c, .int .i64 d, .int .i64 e] t)
  have hs : w.heap.size < (w.alloc (.cells #[.int .i64 a, .int .i64 b, .int .i64 c, .int .i64 d, .int .i64 e] t)).heap.size := by simp
  generalize w.alloc (.cells #[.int .i64 a, .int .i64 b, .int .i64 c, .int .i64 d, .int .i64 e] t) = W at q hB hs ⊢
  refine ⟨?_, ?_, ?_, ?_, ?_, hB, hs⟩ <;> simp [World.cell?, q]
theorem keep5 {B : Nat} {w W : World} {f : Nat} {args : Array Value} {x : Value} {a b c d e : Int} (h : Calls Tryd.prog f args W fun e w' => e = .returned x ∧ Below W.heap.size W w') (h0 : W.cell? ⟨B, 0, none⟩ = some (.int .i64 a)) (h1 : W.cell? ⟨B, 1, none⟩ = some (.int .i64 b)) (h2 : W.cell? ⟨B, 2, none⟩ = some (.int .i64 c)) (h3 : W.cell? ⟨B, 3, none⟩ = some (.int .i64 d)) (h4 : W.cell? ⟨B, 4, none⟩ = some (.int .i64 e)) (hb : Below B w W) (hs : B < W.heap.size) :
    Calls Tryd.prog f args W fun u w' => u = .returned x ∧ Cells5 B w a b c d e w' :=
  h.mono (by
    rintro u w' ⟨rfl, hb2⟩
    exact ⟨rfl, (hb2.cell (p := ⟨B, 0, none⟩) hs).trans h0, (hb2.cell (p := ⟨B, 1, none⟩) hs).trans h1, (hb2.cell (p := ⟨B, 2, none⟩) hs).trans h2, (hb2.cell (p := ⟨B, 3, none⟩) hs).trans h3, (hb2.cell (p := ⟨B, 4, none⟩) hs).trans h4, hb.trans (hb2.mono (by omega)), Nat.lt_of_lt_of_le hs hb2.size⟩)

set_option maxRecDepth 100000 in
set_option maxHeartbeats 4000000 in
theorem sFormatCount_c (a b c d e : Int) (ha : I64 a) (hb : I64 b) (hc : I64 c) (hd : I64 d) (he : I64 e) (w : World) :
    Calls Tryd.prog 8 #[cntV a b c d e] w fun x w' => x = .returned (.string ⟨(cntT a b c d e).toArray⟩) ∧ Below w.heap.size w w' := by
  have la := itoa_short a ha.1 ha.2; have lb := itoa_short b hb.1 hb.2; have lc := itoa_short c hc.1 hc.2; have ld := itoa_short d hd.1 hd.2; have le := itoa_short e he.1 he.2
  have Ca := fun w' => decInt_c a ha.1 ha.2 w'
  have Cb := fun w' => decInt_c b hb.1 hb.2 w'
  have Cc := fun w' => decInt_c c hc.1 hc.2 w'
  have Cd := fun w' => decInt_c d hd.1 hd.2 w'
  have Ce := fun w' => decInt_c e he.1 he.2 w'
  unfold cntT
  generalize Lib.itoa a = A at *
  generalize Lib.itoa b = B at *
  generalize Lib.itoa c = C at *
  generalize Lib.itoa d = D at *
  generalize Lib.itoa e = E at *
  have z1 : ¬ 9223372036854775807 < A.length + 1 := by omega
  have z2 : ¬ 9223372036854775807 < A.length + 1 + B.length := by omega
  have z3 : ¬ 9223372036854775807 < A.length + 1 + B.length + 1 := by omega
  have z4 : ¬ 9223372036854775807 < A.length + 1 + B.length + 1 + C.length := by omega
  have z5 : ¬ 9223372036854775807 < A.length + 1 + B.length + 1 + C.length + 1 := by omega
  have z6 : ¬ 9223372036854775807 < A.length + 1 + B.length + 1 + C.length + 1 + D.length := by omega
  have z7 : ¬ 9223372036854775807 < A.length + 1 + B.length + 1 + C.length + 1 + D.length + 1 := by omega
  have z8 : ¬ 9223372036854775807 < A.length + 1 + B.length + 1 + C.length + 1 + D.length + 1 + E.length := by omega
  clear ha hb hc hd he
  go_enter Tryd.func8, Tryd.ntmps8
  go_wp2_with fail
  obtain ⟨q0, q1, q2, q3, q4, qB, qs⟩ := cell5 w a b c d e 31
  generalize w.alloc (.cells #[.int .i64 a, .int .i64 b, .int .i64 c, .int .i64 d, .int .i64 e] 31) = W1 at q0 q1 q2 q3 q4 qB qs ⊢
  have qd := qB.drew
  go_region_held3 (fun w' => Cells5 w.heap.size w a b c d e w')
    (first | go_keep | refine ⟨?_, ?_, ?_, ?_, ?_, ?_, ?_⟩ <;> assumption)
    (first | (refine (keep5 (Ca _) (by assumption) (by assumption) (by assumption) (by assumption) (by assumption) (by assumption) (by assumption)).mono ?_; rintro u w2 ⟨rfl, r0, r1, r2, r3, r4, rB, rs⟩) | (refine (keep5 (Cb _) (by assumption) (by assumption) (by assumption) (by assumption) (by assumption) (by assumption) (by assumption)).mono ?_; rintro u w2 ⟨rfl, r0, r1, r2, r3, r4, rB, rs⟩) | (refine (keep5 (Cc _) (by assumption) (by assumption) (by assumption) (by assumption) (by assumption) (by assumption) (by assumption)).mono ?_; rintro u w2 ⟨rfl, r0, r1, r2, r3, r4, rB, rs⟩) | (refine (keep5 (Cd _) (by assumption) (by assumption) (by assumption) (by assumption) (by assumption) (by assumption) (by assumption)).mono ?_; rintro u w2 ⟨rfl, r0, r1, r2, r3, r4, rB, rs⟩) | (refine (keep5 (Ce _) (by assumption) (by assumption) (by assumption) (by assumption) (by assumption) (by assumption) (by assumption)).mono ?_; rintro u w2 ⟨rfl, r0, r1, r2, r3, r4, rB, rs⟩))
  all_goals go_wp2_with fail
  all_goals go_ret
  all_goals exact ⟨congrArg (fun s => Ending.returned (Value.string s)) (by apply eBa_ext; simp [ByteArray.data_append]), by assumption⟩

set_option maxRecDepth 100000 in
set_option maxHeartbeats 4000000 in
theorem iFormatCount_c (a b c d e : Int) (ha : I64 a) (hb : I64 b) (hc : I64 c) (hd : I64 d) (he : I64 e) (w : World) (htab : Tab w) :
    Calls Tryd.prog 10 #[cntV a b c d e] w fun x w' => x = .returned (.string ⟨(cntT a b c d e).toArray⟩) ∧ Below w.heap.size w w' := by
  have T := Lib.tabBelow_of_tabIs htab
  have la := itoa_short a ha.1 ha.2; have lb := itoa_short b hb.1 hb.2; have lc := itoa_short c hc.1 hc.2; have ld := itoa_short d hd.1 hd.2; have le := itoa_short e he.1 he.2
  have Ca := fun w' h => itoaB_c a ha.1 ha.2 w' h
  have Cb := fun w' h => itoaB_c b hb.1 hb.2 w' h
  have Cc := fun w' h => itoaB_c c hc.1 hc.2 w' h
  have Cd := fun w' h => itoaB_c d hd.1 hd.2 w' h
  have Ce := fun w' h => itoaB_c e he.1 he.2 w' h
  unfold cntT
  generalize Lib.itoa a = A at *
  generalize Lib.itoa b = B at *
  generalize Lib.itoa c = C at *
  generalize Lib.itoa d = D at *
  generalize Lib.itoa e = E at *
  have y1 : ¬ 9223372036854775807 < 1 + B.length := by omega
  have y2 : ¬ 9223372036854775807 < 1 + C.length := by omega
  have y3 : ¬ 9223372036854775807 < 1 + D.length := by omega
  have y4 : ¬ 9223372036854775807 < 1 + E.length := by omega
  have z1 : ¬ 9223372036854775807 < A.length + (1 + B.length) := by omega
  have z2 : ¬ 9223372036854775807 < A.length + (1 + B.length) + (1 + C.length) := by omega
  have z3 : ¬ 9223372036854775807 < A.length + (1 + B.length) + (1 + C.length) + (1 + D.length) := by omega
  have z4 : ¬ 9223372036854775807 < A.length + (1 + B.length) + (1 + C.length) + (1 + D.length) + (1 + E.length) := by omega
  clear ha hb hc hd he
  have ix0 : ∀ W : World, (Instr.index 35 (.agg #[.int .i64 b, .int .i64 c, .int .i64 d, .int .i64 e]) (.int .i64 0)).run Tryd.prog W = .ok (.int .i64 b) W := fun W => by kernel_rfl
  have ix1 : ∀ W : World, (Instr.index 35 (.agg #[.int .i64 b, .int .i64 c, .int .i64 d, .int .i64 e]) (.int .i64 1)).run Tryd.prog W = .ok (.int .i64 c) W := fun W => by kernel_rfl
  have ix2 : ∀ W : World, (Instr.index 35 (.agg #[.int .i64 b, .int .i64 c, .int .i64 d, .int .i64 e]) (.int .i64 2)).run Tryd.prog W = .ok (.int .i64 d) W := fun W => by kernel_rfl
  have ix3 : ∀ W : World, (Instr.index 35 (.agg #[.int .i64 b, .int .i64 c, .int .i64 d, .int .i64 e]) (.int .i64 3)).run Tryd.prog W = .ok (.int .i64 e) W := fun W => by kernel_rfl
  have q := cell5 w a b c d e 31
  go_enter Tryd.func10, Tryd.ntmps10
  go_wp2_with fail
  generalize w.alloc (.cells #[.int .i64 a, .int .i64 b, .int .i64 c, .int .i64 d, .int .i64 e] 31) = W1 at q ⊢
  refine (keep5 (Ca _ (T _ q.2.2.2.2.2.1)) q.1 q.2.1 q.2.2.1 q.2.2.2.1 q.2.2.2.2.1 q.2.2.2.2.2.1 q.2.2.2.2.2.2).mono ?_; rintro u w2 ⟨rfl, r0, r1, r2, r3, r4, rB, rs⟩
  clear q
  go_wp2_with fail
  refine wp_loop_rounds 5 ?_
  rw [rounds_succ]
  go_wp2_with fail
  refine (Cb _ (T _ rB)).mono ?_; rintro u w3 ⟨rfl, hb3⟩; replace rB := rB.trans (hb3.mono rB.size)
  go_wp2_with fail
  rw [rounds_succ]
  go_wp2_with fail
  refine (Cc _ (T _ rB)).mono ?_; rintro u w4 ⟨rfl, hb4⟩; replace rB := rB.trans (hb4.mono rB.size)
  go_wp2_with fail
  rw [rounds_succ]
  go_wp2_with fail
  refine (Cd _ (T _ rB)).mono ?_; rintro u w5 ⟨rfl, hb5⟩; replace rB := rB.trans (hb5.mono rB.size)
  go_wp2_with fail
  rw [rounds_succ]
  go_wp2_with fail
  refine (Ce _ (T _ rB)).mono ?_; rintro u w6 ⟨rfl, hb6⟩; replace rB := rB.trans (hb6.mono rB.size)
  go_wp2_with fail
  rw [rounds_succ]
  go_wp2_with fail
  go_ret
  exact ⟨congrArg (fun s => Ending.returned (Value.string s)) (by apply eBa_ext; simp [ByteArray.data_append]), rB⟩
set_option maxRecDepth 100000 in
set_option maxHeartbeats 2000000 in
theorem toCount_c (a b c d e : Int) (w : World) :
    Calls Tryd.prog 9 #[cntV a b c d e] w fun x w' => x = .returned (cntV a b c d e) ∧ Below w.heap.size w w' := by
  go_enter Tryd.func9, Tryd.ntmps9
  go_wp2_with fail
  simp [bodyPost, results, Tryd.results9, go_sem]
  exact (((Below.refl _ w).alloc (Nat.le_refl _) _).alloc (by simp) _).alloc (by simp; omega) _
theorem cell5_on {B : Nat} {w W W2 : World} {a b c d e : Int} (h : Cells5 B w a b c d e W) (hb : Below W.heap.size W W2) : Cells5 B w a b c d e W2 :=
  have hs := h.2.2.2.2.2.2
  ⟨(hb.cell (p := ⟨B, 0, none⟩) hs).trans h.1, (hb.cell (p := ⟨B, 1, none⟩) hs).trans h.2.1, (hb.cell (p := ⟨B, 2, none⟩) hs).trans h.2.2.1, (hb.cell (p := ⟨B, 3, none⟩) hs).trans h.2.2.2.1, (hb.cell (p := ⟨B, 4, none⟩) hs).trans h.2.2.2.2.1, h.2.2.2.2.2.1.trans (hb.mono (by omega)), Nat.lt_of_lt_of_le hs hb.size⟩
set_option maxRecDepth 100000 in
set_option maxHeartbeats 2000000 in
theorem law_formatCount (a b c d e : Int) (ha : I64 a) (hb : I64 b) (hc : I64 c) (hd : I64 d) (he : I64 e) (w : World) (htab : Tab w) :
    Calls Tryd.prog 4 #[cntV a b c d e] w fun x w' => x = .returned (.bool true) ∧ Below w.heap.size w w' := by
  have T := Lib.tabBelow_of_tabIs htab
  have q := cell5 w a b c d e 29
  have hs := q.2.2.2.2.2.1.size
  go_enter Tryd.func4, Tryd.ntmps4
  go_wp2_with fail
  generalize w.alloc (.cells #[.int .i64 a, .int .i64 b, .int .i64 c, .int .i64 d, .int .i64 e] 29) = W1 at q ⊢
  refine (toCount_c a b c d e _).mono ?_; rintro x w2 ⟨rfl, hb2⟩; replace q := cell5_on q hb2
  go_wp2_with fail
  refine (sFormatCount_c a b c d e ha hb hc hd he _).mono ?_; rintro x w3 ⟨rfl, hb3⟩; replace q := cell5_on q hb3
  obtain ⟨r0, r1, r2, r3, r4, rB, rs⟩ := q
  go_wp2_with fail
  refine (toCount_c a b c d e _).mono ?_; rintro x w4 ⟨rfl, hb4⟩; replace rB := rB.trans (hb4.mono rB.size)
  go_wp2_with fail
  refine (iFormatCount_c a b c d e ha hb hc hd he _ (T _ rB)).mono ?_; rintro x w5 ⟨rfl, hb5⟩; replace rB := rB.trans (hb5.mono rB.size)
  go_wp2_with fail
  go_ret
  exact ⟨rfl, rB⟩
end Go.Proofs.YthjhpfcilaghgaaDoor
