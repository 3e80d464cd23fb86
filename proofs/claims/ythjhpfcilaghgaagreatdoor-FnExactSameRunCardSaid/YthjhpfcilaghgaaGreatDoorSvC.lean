import Derived.Test.YthjhpfcilaghgaaGreatDoorSvB
/- The specification's l3With. -/
namespace Go.Proofs.YthjhpfcilaghgaaGreatDoor
open Go.RowKit Go.Shelf
open Ff
set_option linter.unusedVariables false
variable {X : Nat → Prop}
attribute [local irreducible] Calls

theorem empty_row {W : World} {h base : Nat} (hh : W.heap[h]? = some (.cells #[] 94 (0, 0))) (hb : base ≤ h) : W.ownsRow base 94 9 (.slice (some ⟨h, 0, none⟩) 0 0) 0 [] := by
  refine ⟨rfl, .inr ⟨h, 0, #[], rfl, hb, hh, ?_⟩⟩
  simp [maxLen]
/-- A row is kept by what makes a block. -/
theorem row_alloc {W : World} {base sz n : Nat} {t : TypeId} {v : Value} {xs : List Value} (h : W.ownsRow base t sz v n xs) (o : Obj) : (W.alloc o).ownsRow base t sz v n xs :=
  World.ownsRow.kept (row := none) h (World.grownBy_alloc W o none) (by rcases ho : v.ownBlock with _ | j; exact .inl rfl; exact .inr (by simp))
/-- The cells of nine in a block. -/
theorem alloc_at2 (W : World) (o1 o2 : Obj) : ((W.alloc o1).alloc o2).heap[W.heap.size + 1]? = some o2 := by
  have := World.alloc_heap_new (W.alloc o1) o2
  simpa using this
theorem below1 (W0 : World) (o : Obj) : Below W0.heap.size W0 (W0.alloc o).drew := ((Below.refl _ W0).alloc (Nat.le_refl _) o).drew
theorem below2 (W0 : World) (o1 o2 : Obj) : Below W0.heap.size W0 ((W0.alloc o1).alloc o2).drew := (((Below.refl _ W0).alloc (Nat.le_refl _) o1).alloc (by simp) o2).drew
theorem below_row {w W W' : World} {row : Option Nat} (h : Below w.heap.size w W) (hg : W.grownBy W' row) (hr : ∀ j, row = some j → w.heap.size ≤ j) : Below w.heap.size w W' :=
  h.trans ⟨hg.os, hg.tape, hg.output, hg.size, fun k hk => hg.block k (by have := h.size; omega) (fun e => by have := hr k e.symm; omega)⟩
theorem own_up {v v1 : Value} {W W0 : World} (h : v1.ownBlock = v.ownBlock ∨ v1.ownBlock = some W.heap.size) (hv : ∀ j, v.ownBlock = some j → W0.heap.size ≤ j) (hW : W0.heap.size ≤ W.heap.size) : ∀ j, v1.ownBlock = some j → W0.heap.size ≤ j := fun j hj => by
  rcases h with h | h <;> rw [h] at hj
  · exact hv j hj
  · injection hj with hj; omega
theorem keep_cells {w W : World} {xs : List Value} {a : Addr} (hx : ∀ j u, xs[j]? = some u → w.cell? (a.add j) = some u) (hb : Below w.heap.size w W) : ∀ j u, xs[j]? = some u → W.cell? (a.add j) = some u := fun j u hj =>
  (hb.cell (World.block_lt_of_cell? w _ (hx j u hj))).trans (hx j u hj)
set_option maxRecDepth 100000 in
set_option maxHeartbeats 4000000 in
theorem swith_c (S : Nat → Prop) (e : En) (c : UInt8) (v : Vl) (ev x : Value) (w : World) (hE : SE S w e ev) (hV : SV S w v x) (hS : ∀ g, S g → g < w.heap.size) (hl : e.ents.length ≤ 900) :
    Calls Tryz.prog 34 #[ev, .string ⟨#[c]⟩, x] w fun e' w' => ∃ y, e' = .returned y ∧ Below w.heap.size w w' ∧ SE (fun g => S g ∨ w.heap.size ≤ g ∧ g < w'.heap.size) w' (.cons c v e) y := by
  obtain ⟨b, n, k, m, s, a, l, cp, i, a2, l2, c2, rfl⟩ := hV.form
  obtain ⟨ae, ce, rfl⟩ := hE.form
  obtain ⟨_, xs, hrow, hxs⟩ := hE.row
  have hb0 := (Below.refl w.heap.size w).alloc (Nat.le_refl _) (.cells #[.bool b, .int .i64 n, .int .u8 k, .int .i64 m, .string s, .slice a l cp, .int .i64 i, .slice a2 l2 c2] 71)
  go_enter Tryz.func34, Tryz.ntmps34
  go_wp2_with fail
  generalize hW0 : w.alloc (.cells #[.bool b, .int .i64 n, .int .u8 k, .int .i64 m, .string s, .slice a l cp, .int .i64 i, .slice a2 l2 c2] 71) = W0 at hb0 ⊢
  have z : ∀ j u, [.bool b, .int .i64 n, .int .u8 k, .int .i64 m, .string s, .slice a l cp, .int .i64 i, .slice a2 l2 c2][j]? = some u → W0.cell? ⟨w.heap.size, j, none⟩ = some u := fun j u hu => by rw [← hW0]; exact newAt w _ rfl _ _ j u hu
  have z0 := z 0 _ rfl
  have z1 := z 1 _ rfl
  have z2 := z 2 _ rfl
  have z3 := z 3 _ rfl
  have z4 := z 4 _ rfl
  have z5 := z 5 _ rfl
  have z6 := z 6 _ rfl
  have z7 := z 7 _ rfl
  have hs0 : W0.heap.size = w.heap.size + 1 := by rw [← hW0]; simp
  clear z hW0
  have HS := Lib.hid hs0
  clear hs0
  have box : ∀ w', Below W0.heap.size W0 w' → w'.cell? ⟨w.heap.size, 0, none⟩ = some (.bool b) ∧ w'.cell? ⟨w.heap.size, 1, none⟩ = some (.int .i64 n) ∧ w'.cell? ⟨w.heap.size, 2, none⟩ = some (.int .u8 k) ∧ w'.cell? ⟨w.heap.size, 3, none⟩ = some (.int .i64 m) ∧ w'.cell? ⟨w.heap.size, 4, none⟩ = some (.string s) ∧ w'.cell? ⟨w.heap.size, 5, none⟩ = some (.slice a l cp) ∧ w'.cell? ⟨w.heap.size, 6, none⟩ = some (.int .i64 i) ∧ w'.cell? ⟨w.heap.size, 7, none⟩ = some (.slice a2 l2 c2) := fun w' hb => ⟨(hb.cell (by have := HS.out; show w.heap.size < _; omega)).trans z0, (hb.cell (by have := HS.out; show w.heap.size < _; omega)).trans z1, (hb.cell (by have := HS.out; show w.heap.size < _; omega)).trans z2, (hb.cell (by have := HS.out; show w.heap.size < _; omega)).trans z3, (hb.cell (by have := HS.out; show w.heap.size < _; omega)).trans z4, (hb.cell (by have := HS.out; show w.heap.size < _; omega)).trans z5, (hb.cell (by have := HS.out; show w.heap.size < _; omega)).trans z6, (hb.cell (by have := HS.out; show w.heap.size < _; omega)).trans z7⟩
  go_region_held3 (fun w' => w'.cell? ⟨w.heap.size, 0, none⟩ = some (.bool b) ∧ w'.cell? ⟨w.heap.size, 1, none⟩ = some (.int .i64 n) ∧ w'.cell? ⟨w.heap.size, 2, none⟩ = some (.int .u8 k) ∧ w'.cell? ⟨w.heap.size, 3, none⟩ = some (.int .i64 m) ∧ w'.cell? ⟨w.heap.size, 4, none⟩ = some (.string s) ∧ w'.cell? ⟨w.heap.size, 5, none⟩ = some (.slice a l cp) ∧ w'.cell? ⟨w.heap.size, 6, none⟩ = some (.int .i64 i) ∧ w'.cell? ⟨w.heap.size, 7, none⟩ = some (.slice a2 l2 c2)) (first | (refine ⟨?_, ?_, ?_, ?_, ?_, ?_, ?_, ?_⟩ <;> assumption) | go_keep)
    (first | ((refine step_append_at _ (by rfl) _ _ (by rfl) w.heap.size _ 0 [] (by rfl) (empty_row (alloc_at W0 (.cells #[] 94)) (by have := HS.out; omega)) ae e.ents.length ce xs (by rfl) hrow.len (keep_cells hxs (hb0.trans ((below1 W0 (.cells #[] 94)).mono hb0.size))) hrow.one (by omega) (by have := HS.out; simp; omega) ?_); intro v1 w3 hown1 hgr1 hnil1 hwh1; have hb3 := below_row (below1 W0 (.cells #[] 94)) hgr1 (by intro j hj; simp [Value.ownBlock] at hj; omega); have hv1 := own_up (W0 := W0) hwh1 (by intro j hj; simp [Value.ownBlock] at hj; omega) (by have q := hgr1.size; simp; first | done | omega); obtain ⟨y0, y1, y2, y3, y4, y5, y6, y7⟩ := box _ hb3) | ((refine step_append_at _ (by rfl) _ _ (by rfl) w.heap.size _ 0 [] (by rfl) (empty_row (alloc_old (alloc_at W0 (.cells #[] 94))) (by have := HS.out; omega)) ae e.ents.length ce xs (by rfl) hrow.len (keep_cells hxs (hb0.trans ((below2 W0 (.cells #[] 94) (.cells #[.string ⟨#[c]⟩, .bool b, .int .i64 n, .int .u8 k, .int .i64 m, .string s, .slice a l cp, .int .i64 i, .slice a2 l2 c2] 94)).mono hb0.size))) hrow.one (by omega) (by have := HS.out; simp; omega) ?_); intro v1 w3 hown1 hgr1 hnil1 hwh1; have hb3 := below_row (below2 W0 (.cells #[] 94) (.cells #[.string ⟨#[c]⟩, .bool b, .int .i64 n, .int .u8 k, .int .i64 m, .string s, .slice a l cp, .int .i64 i, .slice a2 l2 c2] 94)) hgr1 (by intro j hj; simp [Value.ownBlock] at hj; omega); have hv1 := own_up (W0 := W0) hwh1 (by intro j hj; simp [Value.ownBlock] at hj; omega) (by have q := hgr1.size; simp; first | done | omega); obtain ⟨y0, y1, y2, y3, y4, y5, y6, y7⟩ := box _ hb3) | ((refine step_append_at _ (by rfl) _ _ (by rfl) w.heap.size _ 0 [] (by rfl) (empty_row (alloc_at2 W0 (.cells #[.string ⟨#[c]⟩, .bool b, .int .i64 n, .int .u8 k, .int .i64 m, .string s, .slice a l cp, .int .i64 i, .slice a2 l2 c2] 94) (.cells #[] 94)) (by have := HS.out; omega)) ae e.ents.length ce xs (by rfl) hrow.len (keep_cells hxs (hb0.trans ((below2 W0 (.cells #[.string ⟨#[c]⟩, .bool b, .int .i64 n, .int .u8 k, .int .i64 m, .string s, .slice a l cp, .int .i64 i, .slice a2 l2 c2] 94) (.cells #[] 94)).mono hb0.size))) hrow.one (by omega) (by have := HS.out; simp; omega) ?_); intro v1 w3 hown1 hgr1 hnil1 hwh1; have hb3 := below_row (below2 W0 (.cells #[.string ⟨#[c]⟩, .bool b, .int .i64 n, .int .u8 k, .int .i64 m, .string s, .slice a l cp, .int .i64 i, .slice a2 l2 c2] 94) (.cells #[] 94)) hgr1 (by intro j hj; simp [Value.ownBlock] at hj; omega); have hv1 := own_up (W0 := W0) hwh1 (by intro j hj; simp [Value.ownBlock] at hj; omega) (by have q := hgr1.size; simp; first | done | omega); obtain ⟨y0, y1, y2, y3, y4, y5, y6, y7⟩ := box _ hb3) | ((refine step_append_at _ (by rfl) _ _ (by rfl) w.heap.size v1 (0 + e.ents.length) ([] ++ xs) (by rfl) (row_alloc hown1 (.cells #[.string ⟨#[c]⟩, .bool b, .int .i64 n, .int .u8 k, .int .i64 m, .string s, .slice a l cp, .int .i64 i, .slice a2 l2 c2] 94)) ⟨w3.heap.size, 0, none⟩ 1 1 [.string ⟨#[c]⟩, .bool b, .int .i64 n, .int .u8 k, .int .i64 m, .string s, .slice a l cp, .int .i64 i, .slice a2 l2 c2] (by rfl) rfl (nine_block (t := 94) (alloc_at w3 (.cells #[.string ⟨#[c]⟩, .bool b, .int .i64 n, .int .u8 k, .int .i64 m, .string s, .slice a l cp, .int .i64 i, .slice a2 l2 c2] 94))) (by simp [Value.oneCell']) (by omega) (by have := hb3.size; have := HS.out; simp; omega) ?_); intro v2 w5 hown2 hgr2 hnil2 hwh2; have hb5 := below_row (hb3.alloc hb3.size (.cells #[.string ⟨#[c]⟩, .bool b, .int .i64 n, .int .u8 k, .int .i64 m, .string s, .slice a l cp, .int .i64 i, .slice a2 l2 c2] 94)) hgr2 hv1; obtain ⟨y0, y1, y2, y3, y4, y5, y6, y7⟩ := box _ hb5) | ((refine step_append_at _ (by rfl) _ _ (by rfl) w.heap.size v1 (0 + e.ents.length) ([] ++ xs) (by rfl) (hown1) ⟨(W0.heap.size + 1), 0, none⟩ 1 1 [.string ⟨#[c]⟩, .bool b, .int .i64 n, .int .u8 k, .int .i64 m, .string s, .slice a l cp, .int .i64 i, .slice a2 l2 c2] (by rfl) rfl (nine_block (t := 94) ((hgr1.block (W0.heap.size + 1) (by simp) (by simp [Value.ownBlock])).trans (alloc_at2 W0 (.cells #[] 94) (.cells #[.string ⟨#[c]⟩, .bool b, .int .i64 n, .int .u8 k, .int .i64 m, .string s, .slice a l cp, .int .i64 i, .slice a2 l2 c2] 94)))) (by simp [Value.oneCell']) (by omega) (by have := hb3.size; have := HS.out; simp; omega) ?_); intro v2 w5 hown2 hgr2 hnil2 hwh2; have hb5 := below_row (hb3) hgr2 hv1; obtain ⟨y0, y1, y2, y3, y4, y5, y6, y7⟩ := box _ hb5) | ((refine step_append_at _ (by rfl) _ _ (by rfl) w.heap.size v1 (0 + e.ents.length) ([] ++ xs) (by rfl) (hown1) ⟨W0.heap.size, 0, none⟩ 1 1 [.string ⟨#[c]⟩, .bool b, .int .i64 n, .int .u8 k, .int .i64 m, .string s, .slice a l cp, .int .i64 i, .slice a2 l2 c2] (by rfl) rfl (nine_block (t := 94) ((hgr1.block W0.heap.size (by simp; omega) (by simp [Value.ownBlock])).trans (alloc_old (alloc_at W0 (.cells #[.string ⟨#[c]⟩, .bool b, .int .i64 n, .int .u8 k, .int .i64 m, .string s, .slice a l cp, .int .i64 i, .slice a2 l2 c2] 94))))) (by simp [Value.oneCell']) (by omega) (by have := hb3.size; have := HS.out; simp; omega) ?_); intro v2 w5 hown2 hgr2 hnil2 hwh2; have hb5 := below_row (hb3) hgr2 hv1; obtain ⟨y0, y1, y2, y3, y4, y5, y6, y7⟩ := box _ hb5))
  all_goals
    go_wp2_with fail
    go_ret
    have hbw := hb0.trans (hb5.mono hb0.size)
    have H : ∀ g, S g → w5.heap[g]? = w.heap[g]? ∧ (S g ∨ w.heap.size ≤ g ∧ g < w5.heap.size) := fun g hg => ⟨hbw.block g (hS g hg), .inl hg⟩
    exact ⟨_, rfl, hbw, ((hrow.keep H).cons (hV.keep H)).se (base := w.heap.size) (by simpa [En.ents] using hown2) (by simp [En.ents]) (fun g h1 h2 => .inr ⟨h1, h2⟩)⟩
end Go.Proofs.YthjhpfcilaghgaaGreatDoor
