/- The specification's l1Free. -/
import Derived.Test.YtjeaadgfjnmfcaaLess
import Derived.Deep.RegionHeld3
namespace Go.Proofs.Ytjeaadgfjnmfcaa
open Go.RowKit
open Ff
set_option linter.unusedVariables false

/-- The names that stand free in a term, as the specification tells them. -/
def sfree : Tm → Text
  | .num _ => sortN []
  | .var c => [c]
  | .fn c b => lessN (sfree b) [c]
  | .fix f c b => lessN (sfree b) [f, c]
  | .app f a => sortN (sfree f ++ sfree a)
  | .bind c v b => sortN (sfree v ++ lessN (sfree b) [c])
  | .op _ l r => sortN (sfree l ++ sfree r)
  | .sel a b c => sortN (sfree a ++ (sfree b ++ sfree c))
theorem less_len (s n : Text) : (lessN s n).length ≤ s.length := List.length_filter_le _ _
theorem sort_len (s : Text) : (sortN s).length ≤ 16 := List.length_filter_le _ letters
theorem sfree_len (t : Tm) : (sfree t).length ≤ 16 := by
  induction t with
  | num _ => exact sort_len _
  | var _ => simp [sfree]
  | fn c b ih => exact Nat.le_trans (less_len _ _) ih
  | fix f c b ih => exact Nat.le_trans (less_len _ _) ih
  | app | bind | op | sel => exact sort_len _
/-- The names free in the first k kids, one text behind the other. -/
def freeTo (l : List Tm) (k : Nat) : Text := (l.take k).flatMap sfree
theorem freeTo_succ (l : List Tm) (k : Nat) (s : Tm) (h : l[k]? = some s) : freeTo l (k + 1) = freeTo l k ++ sfree s := by
  unfold freeTo
  rw [List.take_add_one, h]
  simp
theorem freeTo_len (l : List Tm) (k : Nat) : (freeTo l k).length ≤ 16 * k := by
  induction k with
  | zero => simp [freeTo]
  | succ k ih =>
    rcases h : l[k]? with _ | s
    · have e : freeTo l (k + 1) = freeTo l k := by unfold freeTo; rw [List.take_add_one, h]; simp
      rw [e]; omega
    · rw [freeTo_succ l k s h, List.length_append]
      have := sfree_len s
      omega
theorem free_kids (t : Tm) (h : kindOf t ≠ 118 ∧ kindOf t ≠ 92 ∧ kindOf t ≠ 64 ∧ kindOf t ≠ 61) : sfree t = sortN (freeTo t.kids t.kids.length) := by
  cases t with
  | num n => rfl
  | app f a => simp [sfree, Tm.kids, freeTo]
  | op s l r => simp [sfree, Tm.kids, freeTo]
  | sel a b c => simp [sfree, Tm.kids, freeTo]
  | _ => simp [kindOf] at h
def FreeC (n : Nat) : Prop := ∀ (t : Tm) (B : Nat) (v : Value) (w : World), t.depth ≤ n → n ≤ 1000 → Rep (fun g => g < B) w t v → B ≤ w.heap.size → t.good →
  Calls Try.prog 47 #[v] w fun e w' => e = .returned (.string ⟨(sfree t).toArray⟩) ∧ Below w.heap.size w w'
/-- What a region of the function needs of a world: the box's names and kids, and the cells of the first 1. -/
abbrev FreeS1 (w : World) (names : Text) (g cap : Nat) (x0 y0 : Int) (st0 : ByteArray) (aa0 : Option Addr) (l0 cc0 : Nat) (w' : World) : Prop :=
  w'.cell? ⟨w.heap.size, 2, none⟩ = some (.string ⟨(names : Text).toArray⟩) ∧ w'.cell? ⟨w.heap.size, 3, none⟩ = some (.slice (some ⟨g, 0, none⟩) 1 cap) ∧ w'.cell? ⟨g, 0, none⟩ = some (.int .u8 x0) ∧ w'.cell? ⟨g, 1, none⟩ = some (.int .i64 y0) ∧ w'.cell? ⟨g, 2, none⟩ = some (.string st0) ∧ w'.cell? ⟨g, 3, none⟩ = some (.slice aa0 l0 cc0) ∧ Below w.heap.size w w' ∧ w.heap.size < w'.heap.size
theorem FreeS1.keep {w : World} {names : Text} {g cap : Nat} {x0 y0 : Int} {st0 : ByteArray} {aa0 : Option Addr} {l0 cc0 : Nat} {w1 w2 : World} (h : FreeS1 w names g cap x0 y0 st0 aa0 l0 cc0 w1) (hg : g < w.heap.size) (hb : Below w1.heap.size w1 w2) : FreeS1 w names g cap x0 y0 st0 aa0 l0 cc0 w2 := by
  obtain ⟨h0, h1, h2, h3, h4, h5, h6, h7⟩ := h
  have k := hb.size
  exact ⟨(hb.cell (p := ⟨w.heap.size, 2, none⟩) (by simpa using h7)).trans h0, (hb.cell (p := ⟨w.heap.size, 3, none⟩) (by simpa using h7)).trans h1, (hb.cell (p := ⟨g, 0, none⟩) (by simp; omega)).trans h2, (hb.cell (p := ⟨g, 1, none⟩) (by simp; omega)).trans h3, (hb.cell (p := ⟨g, 2, none⟩) (by simp; omega)).trans h4, (hb.cell (p := ⟨g, 3, none⟩) (by simp; omega)).trans h5, h6.trans (hb.mono h6.size), by omega⟩
/-- What a region of the function needs of a world: the box's names and kids, and the cells of the first 2. -/
abbrev FreeS2 (w : World) (names : Text) (g cap : Nat) (x0 y0 : Int) (st0 : ByteArray) (aa0 : Option Addr) (l0 cc0 : Nat) (x1 y1 : Int) (st1 : ByteArray) (aa1 : Option Addr) (l1 cc1 : Nat) (w' : World) : Prop :=
  w'.cell? ⟨w.heap.size, 2, none⟩ = some (.string ⟨(names : Text).toArray⟩) ∧ w'.cell? ⟨w.heap.size, 3, none⟩ = some (.slice (some ⟨g, 0, none⟩) 2 cap) ∧ w'.cell? ⟨g, 0, none⟩ = some (.int .u8 x0) ∧ w'.cell? ⟨g, 1, none⟩ = some (.int .i64 y0) ∧ w'.cell? ⟨g, 2, none⟩ = some (.string st0) ∧ w'.cell? ⟨g, 3, none⟩ = some (.slice aa0 l0 cc0) ∧ w'.cell? ⟨g, 4, none⟩ = some (.int .u8 x1) ∧ w'.cell? ⟨g, 5, none⟩ = some (.int .i64 y1) ∧ w'.cell? ⟨g, 6, none⟩ = some (.string st1) ∧ w'.cell? ⟨g, 7, none⟩ = some (.slice aa1 l1 cc1) ∧ Below w.heap.size w w' ∧ w.heap.size < w'.heap.size
theorem FreeS2.keep {w : World} {names : Text} {g cap : Nat} {x0 y0 : Int} {st0 : ByteArray} {aa0 : Option Addr} {l0 cc0 : Nat} {x1 y1 : Int} {st1 : ByteArray} {aa1 : Option Addr} {l1 cc1 : Nat} {w1 w2 : World} (h : FreeS2 w names g cap x0 y0 st0 aa0 l0 cc0 x1 y1 st1 aa1 l1 cc1 w1) (hg : g < w.heap.size) (hb : Below w1.heap.size w1 w2) : FreeS2 w names g cap x0 y0 st0 aa0 l0 cc0 x1 y1 st1 aa1 l1 cc1 w2 := by
  obtain ⟨h0, h1, h2, h3, h4, h5, h6, h7, h8, h9, h10, h11⟩ := h
  have k := hb.size
  exact ⟨(hb.cell (p := ⟨w.heap.size, 2, none⟩) (by simpa using h11)).trans h0, (hb.cell (p := ⟨w.heap.size, 3, none⟩) (by simpa using h11)).trans h1, (hb.cell (p := ⟨g, 0, none⟩) (by simp; omega)).trans h2, (hb.cell (p := ⟨g, 1, none⟩) (by simp; omega)).trans h3, (hb.cell (p := ⟨g, 2, none⟩) (by simp; omega)).trans h4, (hb.cell (p := ⟨g, 3, none⟩) (by simp; omega)).trans h5, (hb.cell (p := ⟨g, 4, none⟩) (by simp; omega)).trans h6, (hb.cell (p := ⟨g, 5, none⟩) (by simp; omega)).trans h7, (hb.cell (p := ⟨g, 6, none⟩) (by simp; omega)).trans h8, (hb.cell (p := ⟨g, 7, none⟩) (by simp; omega)).trans h9, h10.trans (hb.mono h10.size), by omega⟩
theorem str_app2 (s t : Text) : (⟨s.toArray⟩ ++ ⟨t.toArray⟩ : ByteArray) = ⟨(s ++ t).toArray⟩ := by
  apply ba_ext
  simp [ByteArray.data_append]
set_option maxRecDepth 100000 in
set_option maxHeartbeats 4000000 in
theorem free_fn (n : Nat) (ih : FreeC n) (c : UInt8) (b : Tm) (B : Nat) (v : Value) (w : World) (ht0 : b.depth ≤ n) (hn : n + 1 ≤ 1000) (hrep : Rep (fun g => g < B) w (.fn c b) v) (hB : B ≤ w.heap.size) (hgd0 : b.good) :
    Calls Try.prog 47 #[v] w fun e w' => e = .returned (.string ⟨(lessN (sfree b) [c]).toArray⟩) ∧ Below w.heap.size w w' := by
  cases hrep with
  | mk _ g cap cs hg hc hk =>
  have hr0 := hk 0 b rfl
  obtain ⟨x0, y0, st0, aa0, l0, cc0, he0⟩ := hr0.junk
  have hq0 : Rep (fun g => g < B) w b (.agg #[.int .u8 x0, .int .i64 y0, .string st0, .slice aa0 l0 cc0]) := by rw [← he0]; exact hr0
  unfold four at he0
  simp only [Value.agg.injEq, Array.mk.injEq, List.cons.injEq, and_true, Nat.mul_zero, Nat.zero_add] at he0
  obtain ⟨i0, i1, i2, i3⟩ := he0
  have e0 := hc 0 (by simp [Tm.kids])
  rw [i0] at e0
  have e1 := hc 1 (by simp [Tm.kids])
  rw [i1] at e1
  have e2 := hc 2 (by simp [Tm.kids])
  rw [i2] at e2
  have e3 := hc 3 (by simp [Tm.kids])
  rw [i3] at e3
  have C0 : ∀ w', FreeS1 w [c] g cap x0 y0 st0 aa0 l0 cc0 w' → Calls Try.prog 47 #[.agg #[.int .u8 x0, .int .i64 y0, .string st0, .slice aa0 l0 cc0]] w' fun e w'' => e = .returned (.string ⟨(sfree b).toArray⟩) ∧ FreeS1 w [c] g cap x0 y0 st0 aa0 l0 cc0 w'' := fun w' hS => by
    obtain ⟨h0, h1, h2, h3, h4, h5, h6, h7⟩ := id hS
    exact (ih b B _ w' ht0 (by omega) (hq0.keep (fun g' hg' => h6.block g' (by omega)) (fun g' hg' => hg')) (by omega) hgd0).mono fun e w'' h => ⟨h.1, hS.keep (by omega) h.2⟩
  have L : ∀ w', Calls Try.prog 62 #[.string ⟨(sfree b).toArray⟩, .string ⟨([c] : Text).toArray⟩] w' fun e w'' => e = .returned (.string ⟨(lessN (sfree b) [c]).toArray⟩) ∧ w'' = w' := fun w' => less_c _ _ w' (by have := sfree_len b; omega) (by simp)
  clear hc hk ih hr0 hq0 i0 i1 i2 i3
  unfold tmHead
  show Calls Try.prog 47 #[.agg #[.int .u8 92, .int .i64 0, .string ⟨([c] : Text).toArray⟩, .slice (some ⟨g, 0, none⟩) 1 cap]] w _
  go_enter Try.func47, Try.ntmps47
  go_wp2_with fail
  have hW : FreeS1 w [c] g cap x0 y0 st0 aa0 l0 cc0 (w.alloc (.cells #[.int .u8 92, .int .i64 0, .string ⟨([c] : Text).toArray⟩, .slice (some ⟨g, 0, none⟩) 1 cap] 49)) := by
    have hb := (Below.refl w.heap.size w).alloc (Nat.le_refl _) (.cells #[.int .u8 92, .int .i64 0, .string ⟨([c] : Text).toArray⟩, .slice (some ⟨g, 0, none⟩) 1 cap] 49)
    refine ⟨?_, ?_, (hb.cell (p := ⟨g, 0, none⟩) (by simp; omega)).trans e0, (hb.cell (p := ⟨g, 1, none⟩) (by simp; omega)).trans e1, (hb.cell (p := ⟨g, 2, none⟩) (by simp; omega)).trans e2, (hb.cell (p := ⟨g, 3, none⟩) (by simp; omega)).trans e3, hb, by simp⟩
    · exact cell_new w [.int .u8 92, .int .i64 0, .string ⟨([c] : Text).toArray⟩, .slice (some ⟨g, 0, none⟩) 1 cap] 49 2
    · exact cell_new w [.int .u8 92, .int .i64 0, .string ⟨([c] : Text).toArray⟩, .slice (some ⟨g, 0, none⟩) 1 cap] 49 3
  obtain ⟨W1, hW1⟩ : ∃ W1, w.alloc (.cells #[.int .u8 92, .int .i64 0, .string ⟨([c] : Text).toArray⟩, .slice (some ⟨g, 0, none⟩) 1 cap] 49) = W1 := ⟨_, rfl⟩
  rw [hW1] at hW ⊢
  clear hW1
  obtain ⟨s0, s1, s2, s3, s4, s5, s6, s7⟩ := hW
  have s20 := s6.drew
  clear e0 e1 e2 e3
  go_region_held3 (fun w' => w'.cell? ⟨w.heap.size, 2, none⟩ = some (.string ⟨([c] : Text).toArray⟩) ∧ w'.cell? ⟨w.heap.size, 3, none⟩ = some (.slice (some ⟨g, 0, none⟩) 1 cap) ∧ w'.cell? ⟨g, 0, none⟩ = some (.int .u8 x0) ∧ w'.cell? ⟨g, 1, none⟩ = some (.int .i64 y0) ∧ w'.cell? ⟨g, 2, none⟩ = some (.string st0) ∧ w'.cell? ⟨g, 3, none⟩ = some (.slice aa0 l0 cc0) ∧ Below w.heap.size w w' ∧ w.heap.size < w'.heap.size)
    (first | go_keep | refine ⟨?_, ?_, ?_, ?_, ?_, ?_, ?_, ?_⟩ <;> assumption)
    (first | (go_at_call 47; refine (C0 _ ?_).mono ?_; (refine ⟨?_, ?_, ?_, ?_, ?_, ?_, ?_, ?_⟩ <;> assumption); rintro e w2 ⟨rfl, h0, h1, h2, h3, h4, h5, h6, h7⟩) | (go_at_call 62; refine (L _).mono ?_; rintro e w2 ⟨rfl, rfl⟩))
  all_goals go_wp2_with fail
  all_goals go_ret
  all_goals exact ⟨rfl, by assumption⟩
set_option maxRecDepth 100000 in
set_option maxHeartbeats 4000000 in
theorem free_fix (n : Nat) (ih : FreeC n) (f c : UInt8) (b : Tm) (B : Nat) (v : Value) (w : World) (ht0 : b.depth ≤ n) (hn : n + 1 ≤ 1000) (hrep : Rep (fun g => g < B) w (.fix f c b) v) (hB : B ≤ w.heap.size) (hgd0 : b.good) :
    Calls Try.prog 47 #[v] w fun e w' => e = .returned (.string ⟨(lessN (sfree b) [f, c]).toArray⟩) ∧ Below w.heap.size w w' := by
  cases hrep with
  | mk _ g cap cs hg hc hk =>
  have hr0 := hk 0 b rfl
  obtain ⟨x0, y0, st0, aa0, l0, cc0, he0⟩ := hr0.junk
  have hq0 : Rep (fun g => g < B) w b (.agg #[.int .u8 x0, .int .i64 y0, .string st0, .slice aa0 l0 cc0]) := by rw [← he0]; exact hr0
  unfold four at he0
  simp only [Value.agg.injEq, Array.mk.injEq, List.cons.injEq, and_true, Nat.mul_zero, Nat.zero_add] at he0
  obtain ⟨i0, i1, i2, i3⟩ := he0
  have e0 := hc 0 (by simp [Tm.kids])
  rw [i0] at e0
  have e1 := hc 1 (by simp [Tm.kids])
  rw [i1] at e1
  have e2 := hc 2 (by simp [Tm.kids])
  rw [i2] at e2
  have e3 := hc 3 (by simp [Tm.kids])
  rw [i3] at e3
  have C0 : ∀ w', FreeS1 w [f, c] g cap x0 y0 st0 aa0 l0 cc0 w' → Calls Try.prog 47 #[.agg #[.int .u8 x0, .int .i64 y0, .string st0, .slice aa0 l0 cc0]] w' fun e w'' => e = .returned (.string ⟨(sfree b).toArray⟩) ∧ FreeS1 w [f, c] g cap x0 y0 st0 aa0 l0 cc0 w'' := fun w' hS => by
    obtain ⟨h0, h1, h2, h3, h4, h5, h6, h7⟩ := id hS
    exact (ih b B _ w' ht0 (by omega) (hq0.keep (fun g' hg' => h6.block g' (by omega)) (fun g' hg' => hg')) (by omega) hgd0).mono fun e w'' h => ⟨h.1, hS.keep (by omega) h.2⟩
  have L : ∀ w', Calls Try.prog 62 #[.string ⟨(sfree b).toArray⟩, .string ⟨([f, c] : Text).toArray⟩] w' fun e w'' => e = .returned (.string ⟨(lessN (sfree b) [f, c]).toArray⟩) ∧ w'' = w' := fun w' => less_c _ _ w' (by have := sfree_len b; omega) (by simp)
  clear hc hk ih hr0 hq0 i0 i1 i2 i3
  unfold tmHead
  show Calls Try.prog 47 #[.agg #[.int .u8 64, .int .i64 0, .string ⟨([f, c] : Text).toArray⟩, .slice (some ⟨g, 0, none⟩) 1 cap]] w _
  go_enter Try.func47, Try.ntmps47
  go_wp2_with fail
  have hW : FreeS1 w [f, c] g cap x0 y0 st0 aa0 l0 cc0 (w.alloc (.cells #[.int .u8 64, .int .i64 0, .string ⟨([f, c] : Text).toArray⟩, .slice (some ⟨g, 0, none⟩) 1 cap] 49)) := by
    have hb := (Below.refl w.heap.size w).alloc (Nat.le_refl _) (.cells #[.int .u8 64, .int .i64 0, .string ⟨([f, c] : Text).toArray⟩, .slice (some ⟨g, 0, none⟩) 1 cap] 49)
    refine ⟨?_, ?_, (hb.cell (p := ⟨g, 0, none⟩) (by simp; omega)).trans e0, (hb.cell (p := ⟨g, 1, none⟩) (by simp; omega)).trans e1, (hb.cell (p := ⟨g, 2, none⟩) (by simp; omega)).trans e2, (hb.cell (p := ⟨g, 3, none⟩) (by simp; omega)).trans e3, hb, by simp⟩
    · exact cell_new w [.int .u8 64, .int .i64 0, .string ⟨([f, c] : Text).toArray⟩, .slice (some ⟨g, 0, none⟩) 1 cap] 49 2
    · exact cell_new w [.int .u8 64, .int .i64 0, .string ⟨([f, c] : Text).toArray⟩, .slice (some ⟨g, 0, none⟩) 1 cap] 49 3
  obtain ⟨W1, hW1⟩ : ∃ W1, w.alloc (.cells #[.int .u8 64, .int .i64 0, .string ⟨([f, c] : Text).toArray⟩, .slice (some ⟨g, 0, none⟩) 1 cap] 49) = W1 := ⟨_, rfl⟩
  rw [hW1] at hW ⊢
  clear hW1
  obtain ⟨s0, s1, s2, s3, s4, s5, s6, s7⟩ := hW
  have s20 := s6.drew
  clear e0 e1 e2 e3
  go_region_held3 (fun w' => w'.cell? ⟨w.heap.size, 2, none⟩ = some (.string ⟨([f, c] : Text).toArray⟩) ∧ w'.cell? ⟨w.heap.size, 3, none⟩ = some (.slice (some ⟨g, 0, none⟩) 1 cap) ∧ w'.cell? ⟨g, 0, none⟩ = some (.int .u8 x0) ∧ w'.cell? ⟨g, 1, none⟩ = some (.int .i64 y0) ∧ w'.cell? ⟨g, 2, none⟩ = some (.string st0) ∧ w'.cell? ⟨g, 3, none⟩ = some (.slice aa0 l0 cc0) ∧ Below w.heap.size w w' ∧ w.heap.size < w'.heap.size)
    (first | go_keep | refine ⟨?_, ?_, ?_, ?_, ?_, ?_, ?_, ?_⟩ <;> assumption)
    (first | (go_at_call 47; refine (C0 _ ?_).mono ?_; (refine ⟨?_, ?_, ?_, ?_, ?_, ?_, ?_, ?_⟩ <;> assumption); rintro e w2 ⟨rfl, h0, h1, h2, h3, h4, h5, h6, h7⟩) | (go_at_call 62; refine (L _).mono ?_; rintro e w2 ⟨rfl, rfl⟩))
  all_goals go_wp2_with fail
  all_goals go_ret
  all_goals exact ⟨rfl, by assumption⟩
end Go.Proofs.Ytjeaadgfjnmfcaa
