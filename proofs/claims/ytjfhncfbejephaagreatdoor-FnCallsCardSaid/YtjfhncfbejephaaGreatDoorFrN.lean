import Derived.Test.YtjfhncfbejephaaGreatDoorMFr
import Derived.Deep.RegionHeld3
/- The specification's l1Free on terms whose parts bear numbers. Written by genN.py. -/
namespace Go.Proofs.YtjfhncfbejephaaGreatDoor
open Go.RowKit
open Ff
set_option linter.unusedVariables false

/-- The cells of a term whose number is whatever. -/
def tmHeadA (t : Tm) (m : Int) (g cap : Nat) : Value := .agg #[.int .u8 (kindOf t : Int), .int .i64 m, .string ⟨(namesOf t).toArray⟩, .slice (some ⟨g, 0, none⟩) t.kids.length cap]
/-- The value v stands for the term t, whatever numbers its parts bear. -/
inductive RepA (S : Nat → Prop) (w : World) : Tm → Value → Prop
  | mk (t : Tm) (m : Int) (g cap : Nat) (c : Nat → Value) (hg : S g) (hc : ∀ k, k < 4 * t.kids.length → w.cell? ⟨g, k, none⟩ = some (c k))
      (hk : ∀ i s, t.kids[i]? = some s → RepA S w s (four c i)) : RepA S w t (tmHeadA t m g cap)
theorem RepA.keep {S S' : Nat → Prop} {w w' : World} {t : Tm} {v : Value} (h : RepA S w t v) (hb : ∀ g, S g → w'.heap[g]? = w.heap[g]?) (hS : ∀ g, S g → S' g) : RepA S' w' t v := by
  induction h with
  | mk t m g cap c hg hc hk ih => exact .mk t m g cap c (hS g hg) (fun k hk => (World.cell?_of_block (a := ⟨g, k, none⟩) (hb g hg)).trans (hc k hk)) ih
theorem RepA.junk {S : Nat → Prop} {w : World} {t : Tm} {v : Value} (h : RepA S w t v) : Junk v := by
  cases h with
  | mk m g cap c hg hc hk => exact ⟨_, _, _, _, _, _, rfl⟩
def FreeAC (n : Nat) : Prop := ∀ (t : Tm) (B : Nat) (v : Value) (w : World), t.depth ≤ n → n ≤ 4000 → RepA (fun g => g < B) w t v → B ≤ w.heap.size → t.good →
  Calls Tryz.prog 45 #[v] w fun e w' => e = .returned (.string ⟨(sfree t).toArray⟩) ∧ Below w.heap.size w w'
/-- What a region of the function needs of a world: the box's names and kids, and the cells of the first 1. -/
abbrev FreeSA1 (w : World) (names : Text) (g cap : Nat) (x0 y0 : Int) (st0 : ByteArray) (aa0 : Option Addr) (l0 cc0 : Nat) (w' : World) : Prop :=
  w'.cell? ⟨w.heap.size, 2, none⟩ = some (.string ⟨(names : Text).toArray⟩) ∧ w'.cell? ⟨w.heap.size, 3, none⟩ = some (.slice (some ⟨g, 0, none⟩) 1 cap) ∧ w'.cell? ⟨g, 0, none⟩ = some (.int .u8 x0) ∧ w'.cell? ⟨g, 1, none⟩ = some (.int .i64 y0) ∧ w'.cell? ⟨g, 2, none⟩ = some (.string st0) ∧ w'.cell? ⟨g, 3, none⟩ = some (.slice aa0 l0 cc0) ∧ Below w.heap.size w w' ∧ w.heap.size < w'.heap.size
theorem FreeSA1.keep {w : World} {names : Text} {g cap : Nat} {x0 y0 : Int} {st0 : ByteArray} {aa0 : Option Addr} {l0 cc0 : Nat} {w1 w2 : World} (h : FreeSA1 w names g cap x0 y0 st0 aa0 l0 cc0 w1) (hg : g < w.heap.size) (hb : Below w1.heap.size w1 w2) : FreeSA1 w names g cap x0 y0 st0 aa0 l0 cc0 w2 := by
  obtain ⟨h0, h1, h2, h3, h4, h5, h6, h7⟩ := h
  have k := hb.size
  exact ⟨(hb.cell (p := ⟨w.heap.size, 2, none⟩) (by simpa using h7)).trans h0, (hb.cell (p := ⟨w.heap.size, 3, none⟩) (by simpa using h7)).trans h1, (hb.cell (p := ⟨g, 0, none⟩) (by simp; omega)).trans h2, (hb.cell (p := ⟨g, 1, none⟩) (by simp; omega)).trans h3, (hb.cell (p := ⟨g, 2, none⟩) (by simp; omega)).trans h4, (hb.cell (p := ⟨g, 3, none⟩) (by simp; omega)).trans h5, h6.trans (hb.mono h6.size), by omega⟩
/-- What a region of the function needs of a world: the box's names and kids, and the cells of the first 2. -/
abbrev FreeSA2 (w : World) (names : Text) (g cap : Nat) (x0 y0 : Int) (st0 : ByteArray) (aa0 : Option Addr) (l0 cc0 : Nat) (x1 y1 : Int) (st1 : ByteArray) (aa1 : Option Addr) (l1 cc1 : Nat) (w' : World) : Prop :=
  w'.cell? ⟨w.heap.size, 2, none⟩ = some (.string ⟨(names : Text).toArray⟩) ∧ w'.cell? ⟨w.heap.size, 3, none⟩ = some (.slice (some ⟨g, 0, none⟩) 2 cap) ∧ w'.cell? ⟨g, 0, none⟩ = some (.int .u8 x0) ∧ w'.cell? ⟨g, 1, none⟩ = some (.int .i64 y0) ∧ w'.cell? ⟨g, 2, none⟩ = some (.string st0) ∧ w'.cell? ⟨g, 3, none⟩ = some (.slice aa0 l0 cc0) ∧ w'.cell? ⟨g, 4, none⟩ = some (.int .u8 x1) ∧ w'.cell? ⟨g, 5, none⟩ = some (.int .i64 y1) ∧ w'.cell? ⟨g, 6, none⟩ = some (.string st1) ∧ w'.cell? ⟨g, 7, none⟩ = some (.slice aa1 l1 cc1) ∧ Below w.heap.size w w' ∧ w.heap.size < w'.heap.size
theorem FreeSA2.keep {w : World} {names : Text} {g cap : Nat} {x0 y0 : Int} {st0 : ByteArray} {aa0 : Option Addr} {l0 cc0 : Nat} {x1 y1 : Int} {st1 : ByteArray} {aa1 : Option Addr} {l1 cc1 : Nat} {w1 w2 : World} (h : FreeSA2 w names g cap x0 y0 st0 aa0 l0 cc0 x1 y1 st1 aa1 l1 cc1 w1) (hg : g < w.heap.size) (hb : Below w1.heap.size w1 w2) : FreeSA2 w names g cap x0 y0 st0 aa0 l0 cc0 x1 y1 st1 aa1 l1 cc1 w2 := by
  obtain ⟨h0, h1, h2, h3, h4, h5, h6, h7, h8, h9, h10, h11⟩ := h
  have k := hb.size
  exact ⟨(hb.cell (p := ⟨w.heap.size, 2, none⟩) (by simpa using h11)).trans h0, (hb.cell (p := ⟨w.heap.size, 3, none⟩) (by simpa using h11)).trans h1, (hb.cell (p := ⟨g, 0, none⟩) (by simp; omega)).trans h2, (hb.cell (p := ⟨g, 1, none⟩) (by simp; omega)).trans h3, (hb.cell (p := ⟨g, 2, none⟩) (by simp; omega)).trans h4, (hb.cell (p := ⟨g, 3, none⟩) (by simp; omega)).trans h5, (hb.cell (p := ⟨g, 4, none⟩) (by simp; omega)).trans h6, (hb.cell (p := ⟨g, 5, none⟩) (by simp; omega)).trans h7, (hb.cell (p := ⟨g, 6, none⟩) (by simp; omega)).trans h8, (hb.cell (p := ⟨g, 7, none⟩) (by simp; omega)).trans h9, h10.trans (hb.mono h10.size), by omega⟩
set_option maxRecDepth 100000 in
set_option maxHeartbeats 4000000 in
theorem freeA_fn (n : Nat) (ih : FreeAC n) (c : UInt8) (b : Tm) (B : Nat) (v : Value) (w : World) (ht0 : b.depth ≤ n) (hn : n + 1 ≤ 4000) (hrep : RepA (fun g => g < B) w (.fn c b) v) (hB : B ≤ w.heap.size) (hgd0 : b.good) :
    Calls Tryz.prog 45 #[v] w fun e w' => e = .returned (.string ⟨(lessN (sfree b) [c]).toArray⟩) ∧ Below w.heap.size w w' := by
  cases hrep with
  | mk _ mm g cap cs hg hc hk =>
  have hr0 := hk 0 b rfl
  obtain ⟨x0, y0, st0, aa0, l0, cc0, he0⟩ := hr0.junk
  have hq0 : RepA (fun g => g < B) w b (.agg #[.int .u8 x0, .int .i64 y0, .string st0, .slice aa0 l0 cc0]) := by rw [← he0]; exact hr0
  unfold four at he0
  simp only [Value.agg.injEq, Array.mk.injEq, List.cons.injEq, and_true, Nat.mul_zero, Nat.zero_add] at he0
  obtain ⟨i0, i1, i2, i3⟩ := he0
  have e0 := hc 0 (by simp [Tm.kids])
  rw [i0] at e0
  have e1 := hc 1 (by simp [Tm.kids])
  rw [i1] at e1
  have e2 := hc 2 (by simp [Tm.kids])
  rw [i2] at e2
  have e3 := hc 3 (by simp [Tm.kids])
  rw [i3] at e3
  have C0 : ∀ w', FreeSA1 w [c] g cap x0 y0 st0 aa0 l0 cc0 w' → Calls Tryz.prog 45 #[.agg #[.int .u8 x0, .int .i64 y0, .string st0, .slice aa0 l0 cc0]] w' fun e w'' => e = .returned (.string ⟨(sfree b).toArray⟩) ∧ FreeSA1 w [c] g cap x0 y0 st0 aa0 l0 cc0 w'' := fun w' hS => by
    obtain ⟨h0, h1, h2, h3, h4, h5, h6, h7⟩ := id hS
    exact (ih b B _ w' ht0 (by omega) (hq0.keep (fun g' hg' => h6.block g' (by omega)) (fun g' hg' => hg')) (by omega) hgd0).mono fun e w'' h => ⟨h.1, hS.keep (by omega) h.2⟩
  have L : ∀ w', Calls Tryz.prog 66 #[.string ⟨(sfree b).toArray⟩, .string ⟨([c] : Text).toArray⟩] w' fun e w'' => e = .returned (.string ⟨(lessN (sfree b) [c]).toArray⟩) ∧ w'' = w' := fun w' => less_c _ _ w' (by have := sfree_len b; omega) (by simp)
  clear hc hk ih hr0 hq0 i0 i1 i2 i3
  unfold tmHeadA
  show Calls Tryz.prog 45 #[.agg #[.int .u8 92, .int .i64 mm, .string ⟨([c] : Text).toArray⟩, .slice (some ⟨g, 0, none⟩) 1 cap]] w _
  go_enter Tryz.func45, Tryz.ntmps45
  go_wp2_with fail
  have hW : FreeSA1 w [c] g cap x0 y0 st0 aa0 l0 cc0 (w.alloc (.cells #[.int .u8 92, .int .i64 mm, .string ⟨([c] : Text).toArray⟩, .slice (some ⟨g, 0, none⟩) 1 cap] 78)) := by
    have hb := (Below.refl w.heap.size w).alloc (Nat.le_refl _) (.cells #[.int .u8 92, .int .i64 mm, .string ⟨([c] : Text).toArray⟩, .slice (some ⟨g, 0, none⟩) 1 cap] 78)
    refine ⟨?_, ?_, (hb.cell (p := ⟨g, 0, none⟩) (by simp; omega)).trans e0, (hb.cell (p := ⟨g, 1, none⟩) (by simp; omega)).trans e1, (hb.cell (p := ⟨g, 2, none⟩) (by simp; omega)).trans e2, (hb.cell (p := ⟨g, 3, none⟩) (by simp; omega)).trans e3, hb, by simp⟩
    · exact cell_new w [.int .u8 92, .int .i64 mm, .string ⟨([c] : Text).toArray⟩, .slice (some ⟨g, 0, none⟩) 1 cap] 78 2
    · exact cell_new w [.int .u8 92, .int .i64 mm, .string ⟨([c] : Text).toArray⟩, .slice (some ⟨g, 0, none⟩) 1 cap] 78 3
  obtain ⟨W1, hW1⟩ : ∃ W1, w.alloc (.cells #[.int .u8 92, .int .i64 mm, .string ⟨([c] : Text).toArray⟩, .slice (some ⟨g, 0, none⟩) 1 cap] 78) = W1 := ⟨_, rfl⟩
  rw [hW1] at hW ⊢
  clear hW1
  obtain ⟨s0, s1, s2, s3, s4, s5, s6, s7⟩ := hW
  have s20 := s6.drew
  clear e0 e1 e2 e3
  go_region_held3 (fun w' => w'.cell? ⟨w.heap.size, 2, none⟩ = some (.string ⟨([c] : Text).toArray⟩) ∧ w'.cell? ⟨w.heap.size, 3, none⟩ = some (.slice (some ⟨g, 0, none⟩) 1 cap) ∧ w'.cell? ⟨g, 0, none⟩ = some (.int .u8 x0) ∧ w'.cell? ⟨g, 1, none⟩ = some (.int .i64 y0) ∧ w'.cell? ⟨g, 2, none⟩ = some (.string st0) ∧ w'.cell? ⟨g, 3, none⟩ = some (.slice aa0 l0 cc0) ∧ Below w.heap.size w w' ∧ w.heap.size < w'.heap.size)
    (first | go_keep | refine ⟨?_, ?_, ?_, ?_, ?_, ?_, ?_, ?_⟩ <;> assumption)
    (first | (go_at_call 45; refine (C0 _ ?_).mono ?_; (refine ⟨?_, ?_, ?_, ?_, ?_, ?_, ?_, ?_⟩ <;> assumption); rintro e w2 ⟨rfl, h0, h1, h2, h3, h4, h5, h6, h7⟩) | (go_at_call 66; refine (L _).mono ?_; rintro e w2 ⟨rfl, rfl⟩))
  all_goals go_wp2_with fail
  all_goals go_ret
  all_goals exact ⟨rfl, by assumption⟩
set_option maxRecDepth 100000 in
set_option maxHeartbeats 4000000 in
theorem freeA_fix (n : Nat) (ih : FreeAC n) (f c : UInt8) (b : Tm) (B : Nat) (v : Value) (w : World) (ht0 : b.depth ≤ n) (hn : n + 1 ≤ 4000) (hrep : RepA (fun g => g < B) w (.fix f c b) v) (hB : B ≤ w.heap.size) (hgd0 : b.good) :
    Calls Tryz.prog 45 #[v] w fun e w' => e = .returned (.string ⟨(lessN (sfree b) [f, c]).toArray⟩) ∧ Below w.heap.size w w' := by
  cases hrep with
  | mk _ mm g cap cs hg hc hk =>
  have hr0 := hk 0 b rfl
  obtain ⟨x0, y0, st0, aa0, l0, cc0, he0⟩ := hr0.junk
  have hq0 : RepA (fun g => g < B) w b (.agg #[.int .u8 x0, .int .i64 y0, .string st0, .slice aa0 l0 cc0]) := by rw [← he0]; exact hr0
  unfold four at he0
  simp only [Value.agg.injEq, Array.mk.injEq, List.cons.injEq, and_true, Nat.mul_zero, Nat.zero_add] at he0
  obtain ⟨i0, i1, i2, i3⟩ := he0
  have e0 := hc 0 (by simp [Tm.kids])
  rw [i0] at e0
  have e1 := hc 1 (by simp [Tm.kids])
  rw [i1] at e1
  have e2 := hc 2 (by simp [Tm.kids])
  rw [i2] at e2
  have e3 := hc 3 (by simp [Tm.kids])
  rw [i3] at e3
  have C0 : ∀ w', FreeSA1 w [f, c] g cap x0 y0 st0 aa0 l0 cc0 w' → Calls Tryz.prog 45 #[.agg #[.int .u8 x0, .int .i64 y0, .string st0, .slice aa0 l0 cc0]] w' fun e w'' => e = .returned (.string ⟨(sfree b).toArray⟩) ∧ FreeSA1 w [f, c] g cap x0 y0 st0 aa0 l0 cc0 w'' := fun w' hS => by
    obtain ⟨h0, h1, h2, h3, h4, h5, h6, h7⟩ := id hS
    exact (ih b B _ w' ht0 (by omega) (hq0.keep (fun g' hg' => h6.block g' (by omega)) (fun g' hg' => hg')) (by omega) hgd0).mono fun e w'' h => ⟨h.1, hS.keep (by omega) h.2⟩
  have L : ∀ w', Calls Tryz.prog 66 #[.string ⟨(sfree b).toArray⟩, .string ⟨([f, c] : Text).toArray⟩] w' fun e w'' => e = .returned (.string ⟨(lessN (sfree b) [f, c]).toArray⟩) ∧ w'' = w' := fun w' => less_c _ _ w' (by have := sfree_len b; omega) (by simp)
  clear hc hk ih hr0 hq0 i0 i1 i2 i3
  unfold tmHeadA
  show Calls Tryz.prog 45 #[.agg #[.int .u8 64, .int .i64 mm, .string ⟨([f, c] : Text).toArray⟩, .slice (some ⟨g, 0, none⟩) 1 cap]] w _
  go_enter Tryz.func45, Tryz.ntmps45
  go_wp2_with fail
  have hW : FreeSA1 w [f, c] g cap x0 y0 st0 aa0 l0 cc0 (w.alloc (.cells #[.int .u8 64, .int .i64 mm, .string ⟨([f, c] : Text).toArray⟩, .slice (some ⟨g, 0, none⟩) 1 cap] 78)) := by
    have hb := (Below.refl w.heap.size w).alloc (Nat.le_refl _) (.cells #[.int .u8 64, .int .i64 mm, .string ⟨([f, c] : Text).toArray⟩, .slice (some ⟨g, 0, none⟩) 1 cap] 78)
    refine ⟨?_, ?_, (hb.cell (p := ⟨g, 0, none⟩) (by simp; omega)).trans e0, (hb.cell (p := ⟨g, 1, none⟩) (by simp; omega)).trans e1, (hb.cell (p := ⟨g, 2, none⟩) (by simp; omega)).trans e2, (hb.cell (p := ⟨g, 3, none⟩) (by simp; omega)).trans e3, hb, by simp⟩
    · exact cell_new w [.int .u8 64, .int .i64 mm, .string ⟨([f, c] : Text).toArray⟩, .slice (some ⟨g, 0, none⟩) 1 cap] 78 2
    · exact cell_new w [.int .u8 64, .int .i64 mm, .string ⟨([f, c] : Text).toArray⟩, .slice (some ⟨g, 0, none⟩) 1 cap] 78 3
  obtain ⟨W1, hW1⟩ : ∃ W1, w.alloc (.cells #[.int .u8 64, .int .i64 mm, .string ⟨([f, c] : Text).toArray⟩, .slice (some ⟨g, 0, none⟩) 1 cap] 78) = W1 := ⟨_, rfl⟩
  rw [hW1] at hW ⊢
  clear hW1
  obtain ⟨s0, s1, s2, s3, s4, s5, s6, s7⟩ := hW
  have s20 := s6.drew
  clear e0 e1 e2 e3
  go_region_held3 (fun w' => w'.cell? ⟨w.heap.size, 2, none⟩ = some (.string ⟨([f, c] : Text).toArray⟩) ∧ w'.cell? ⟨w.heap.size, 3, none⟩ = some (.slice (some ⟨g, 0, none⟩) 1 cap) ∧ w'.cell? ⟨g, 0, none⟩ = some (.int .u8 x0) ∧ w'.cell? ⟨g, 1, none⟩ = some (.int .i64 y0) ∧ w'.cell? ⟨g, 2, none⟩ = some (.string st0) ∧ w'.cell? ⟨g, 3, none⟩ = some (.slice aa0 l0 cc0) ∧ Below w.heap.size w w' ∧ w.heap.size < w'.heap.size)
    (first | go_keep | refine ⟨?_, ?_, ?_, ?_, ?_, ?_, ?_, ?_⟩ <;> assumption)
    (first | (go_at_call 45; refine (C0 _ ?_).mono ?_; (refine ⟨?_, ?_, ?_, ?_, ?_, ?_, ?_, ?_⟩ <;> assumption); rintro e w2 ⟨rfl, h0, h1, h2, h3, h4, h5, h6, h7⟩) | (go_at_call 66; refine (L _).mono ?_; rintro e w2 ⟨rfl, rfl⟩))
  all_goals go_wp2_with fail
  all_goals go_ret
  all_goals exact ⟨rfl, by assumption⟩

attribute [local irreducible] Calls

set_option maxRecDepth 100000 in
set_option maxHeartbeats 4000000 in
theorem freeA_bind (n : Nat) (ih : FreeAC n) (c : UInt8) (a b : Tm) (B : Nat) (v : Value) (w : World) (ht0 : a.depth ≤ n) (ht1 : b.depth ≤ n) (hn : n + 1 ≤ 4000) (hrep : RepA (fun g => g < B) w (.bind c a b) v) (hB : B ≤ w.heap.size) (hgd0 : a.good) (hgd1 : b.good) :
    Calls Tryz.prog 45 #[v] w fun e w' => e = .returned (.string ⟨(sortN (sfree a ++ lessN (sfree b) [c])).toArray⟩) ∧ Below w.heap.size w w' := by
  cases hrep with
  | mk _ mm g cap cs hg hc hk =>
  have hr0 := hk 0 a rfl
  obtain ⟨x0, y0, st0, aa0, l0, cc0, he0⟩ := hr0.junk
  have hq0 : RepA (fun g => g < B) w a (.agg #[.int .u8 x0, .int .i64 y0, .string st0, .slice aa0 l0 cc0]) := by rw [← he0]; exact hr0
  unfold four at he0
  simp only [Value.agg.injEq, Array.mk.injEq, List.cons.injEq, and_true, Nat.mul_zero, Nat.zero_add] at he0
  obtain ⟨i0, i1, i2, i3⟩ := he0
  have e0 := hc 0 (by simp [Tm.kids])
  rw [i0] at e0
  have e1 := hc 1 (by simp [Tm.kids])
  rw [i1] at e1
  have e2 := hc 2 (by simp [Tm.kids])
  rw [i2] at e2
  have e3 := hc 3 (by simp [Tm.kids])
  rw [i3] at e3
  have hr1 := hk 1 b rfl
  obtain ⟨x1, y1, st1, aa1, l1, cc1, he1⟩ := hr1.junk
  have hq1 : RepA (fun g => g < B) w b (.agg #[.int .u8 x1, .int .i64 y1, .string st1, .slice aa1 l1 cc1]) := by rw [← he1]; exact hr1
  unfold four at he1
  simp only [Value.agg.injEq, Array.mk.injEq, List.cons.injEq, and_true, Nat.mul_one, Nat.reduceAdd] at he1
  obtain ⟨i4, i5, i6, i7⟩ := he1
  have e4 := hc 4 (by simp [Tm.kids])
  rw [i4] at e4
  have e5 := hc 5 (by simp [Tm.kids])
  rw [i5] at e5
  have e6 := hc 6 (by simp [Tm.kids])
  rw [i6] at e6
  have e7 := hc 7 (by simp [Tm.kids])
  rw [i7] at e7
  have C0 : ∀ w', FreeSA2 w [c] g cap x0 y0 st0 aa0 l0 cc0 x1 y1 st1 aa1 l1 cc1 w' → Calls Tryz.prog 45 #[.agg #[.int .u8 x0, .int .i64 y0, .string st0, .slice aa0 l0 cc0]] w' fun e w'' => e = .returned (.string ⟨(sfree a).toArray⟩) ∧ FreeSA2 w [c] g cap x0 y0 st0 aa0 l0 cc0 x1 y1 st1 aa1 l1 cc1 w'' := fun w' hS => by
    obtain ⟨h0, h1, h2, h3, h4, h5, h6, h7, h8, h9, h10, h11⟩ := id hS
    exact (ih a B _ w' ht0 (by omega) (hq0.keep (fun g' hg' => h10.block g' (by omega)) (fun g' hg' => hg')) (by omega) hgd0).mono fun e w'' h => ⟨h.1, hS.keep (by omega) h.2⟩
  have C1 : ∀ w', FreeSA2 w [c] g cap x0 y0 st0 aa0 l0 cc0 x1 y1 st1 aa1 l1 cc1 w' → Calls Tryz.prog 45 #[.agg #[.int .u8 x1, .int .i64 y1, .string st1, .slice aa1 l1 cc1]] w' fun e w'' => e = .returned (.string ⟨(sfree b).toArray⟩) ∧ FreeSA2 w [c] g cap x0 y0 st0 aa0 l0 cc0 x1 y1 st1 aa1 l1 cc1 w'' := fun w' hS => by
    obtain ⟨h0, h1, h2, h3, h4, h5, h6, h7, h8, h9, h10, h11⟩ := id hS
    exact (ih b B _ w' ht1 (by omega) (hq1.keep (fun g' hg' => h10.block g' (by omega)) (fun g' hg' => hg')) (by omega) hgd1).mono fun e w'' h => ⟨h.1, hS.keep (by omega) h.2⟩
  have L : ∀ w', Calls Tryz.prog 66 #[.string ⟨(sfree b).toArray⟩, .string ⟨([c] : Text).toArray⟩] w' fun e w'' => e = .returned (.string ⟨(lessN (sfree b) [c]).toArray⟩) ∧ w'' = w' := fun w' => less_c _ _ w' (by have := sfree_len b; omega) (by simp)
  have R : ∀ w', FreeSA2 w [c] g cap x0 y0 st0 aa0 l0 cc0 x1 y1 st1 aa1 l1 cc1 w' → Calls Tryz.prog 67 #[.string (⟨(sfree a).toArray⟩ ++ ⟨(lessN (sfree b) [c]).toArray⟩)] w' fun e w'' => e = .returned (.string ⟨(sortN (sfree a ++ lessN (sfree b) [c])).toArray⟩) ∧ FreeSA2 w [c] g cap x0 y0 st0 aa0 l0 cc0 x1 y1 st1 aa1 l1 cc1 w'' := fun w' hS => by
    rw [str_app2]
    exact (sorted_c _ w' (by have := sfree_len a; have := sfree_len b; have := less_len (sfree b) [c]; simp; omega)).mono fun e w'' h => ⟨h.1, hS.keep (by omega) h.2⟩
  have z1 := sfree_len a
  have z2 : (lessN (sfree b) [c]).length ≤ 16 := Nat.le_trans (less_len _ _) (sfree_len _)
  have z3 : ¬ 9223372036854775807 < (sfree a).length + (lessN (sfree b) [c]).length := by omega
  clear hc hk ih hr0 hq0 hr1 hq1 i0 i1 i2 i3 i4 i5 i6 i7
  unfold tmHeadA
  show Calls Tryz.prog 45 #[.agg #[.int .u8 61, .int .i64 mm, .string ⟨([c] : Text).toArray⟩, .slice (some ⟨g, 0, none⟩) 2 cap]] w _
  go_enter Tryz.func45, Tryz.ntmps45
  go_wp2_with fail
  have hW : FreeSA2 w [c] g cap x0 y0 st0 aa0 l0 cc0 x1 y1 st1 aa1 l1 cc1 (w.alloc (.cells #[.int .u8 61, .int .i64 mm, .string ⟨([c] : Text).toArray⟩, .slice (some ⟨g, 0, none⟩) 2 cap] 78)) := by
    have hb := (Below.refl w.heap.size w).alloc (Nat.le_refl _) (.cells #[.int .u8 61, .int .i64 mm, .string ⟨([c] : Text).toArray⟩, .slice (some ⟨g, 0, none⟩) 2 cap] 78)
    refine ⟨?_, ?_, (hb.cell (p := ⟨g, 0, none⟩) (by simp; omega)).trans e0, (hb.cell (p := ⟨g, 1, none⟩) (by simp; omega)).trans e1, (hb.cell (p := ⟨g, 2, none⟩) (by simp; omega)).trans e2, (hb.cell (p := ⟨g, 3, none⟩) (by simp; omega)).trans e3, (hb.cell (p := ⟨g, 4, none⟩) (by simp; omega)).trans e4, (hb.cell (p := ⟨g, 5, none⟩) (by simp; omega)).trans e5, (hb.cell (p := ⟨g, 6, none⟩) (by simp; omega)).trans e6, (hb.cell (p := ⟨g, 7, none⟩) (by simp; omega)).trans e7, hb, by simp⟩
    · exact cell_new w [.int .u8 61, .int .i64 mm, .string ⟨([c] : Text).toArray⟩, .slice (some ⟨g, 0, none⟩) 2 cap] 78 2
    · exact cell_new w [.int .u8 61, .int .i64 mm, .string ⟨([c] : Text).toArray⟩, .slice (some ⟨g, 0, none⟩) 2 cap] 78 3
  obtain ⟨W1, hW1⟩ : ∃ W1, w.alloc (.cells #[.int .u8 61, .int .i64 mm, .string ⟨([c] : Text).toArray⟩, .slice (some ⟨g, 0, none⟩) 2 cap] 78) = W1 := ⟨_, rfl⟩
  rw [hW1] at hW ⊢
  clear hW1
  obtain ⟨s0, s1, s2, s3, s4, s5, s6, s7, s8, s9, s10, s11⟩ := hW
  have s20 := s10.drew
  clear e0 e1 e2 e3 e4 e5 e6 e7
  go_region_held3 (fun w' => w'.cell? ⟨w.heap.size, 2, none⟩ = some (.string ⟨([c] : Text).toArray⟩) ∧ w'.cell? ⟨w.heap.size, 3, none⟩ = some (.slice (some ⟨g, 0, none⟩) 2 cap) ∧ w'.cell? ⟨g, 0, none⟩ = some (.int .u8 x0) ∧ w'.cell? ⟨g, 1, none⟩ = some (.int .i64 y0) ∧ w'.cell? ⟨g, 2, none⟩ = some (.string st0) ∧ w'.cell? ⟨g, 3, none⟩ = some (.slice aa0 l0 cc0) ∧ w'.cell? ⟨g, 4, none⟩ = some (.int .u8 x1) ∧ w'.cell? ⟨g, 5, none⟩ = some (.int .i64 y1) ∧ w'.cell? ⟨g, 6, none⟩ = some (.string st1) ∧ w'.cell? ⟨g, 7, none⟩ = some (.slice aa1 l1 cc1) ∧ Below w.heap.size w w' ∧ w.heap.size < w'.heap.size)
    (first | go_keep | refine ⟨?_, ?_, ?_, ?_, ?_, ?_, ?_, ?_, ?_, ?_, ?_, ?_⟩ <;> assumption)
    (first | (go_at_call 45; refine (C0 _ ?_).mono ?_; (refine ⟨?_, ?_, ?_, ?_, ?_, ?_, ?_, ?_, ?_, ?_, ?_, ?_⟩ <;> assumption); rintro e w2 ⟨rfl, h0, h1, h2, h3, h4, h5, h6, h7, h8, h9, h10, h11⟩) | (go_at_call 45; refine (C1 _ ?_).mono ?_; (refine ⟨?_, ?_, ?_, ?_, ?_, ?_, ?_, ?_, ?_, ?_, ?_, ?_⟩ <;> assumption); rintro e w2 ⟨rfl, h0, h1, h2, h3, h4, h5, h6, h7, h8, h9, h10, h11⟩) | (go_at_call 66; refine (L _).mono ?_; rintro e w2 ⟨rfl, rfl⟩) | (go_at_call 67; refine (R _ ?_).mono ?_; (refine ⟨?_, ?_, ?_, ?_, ?_, ?_, ?_, ?_, ?_, ?_, ?_, ?_⟩ <;> assumption); rintro e w2 ⟨rfl, h0, h1, h2, h3, h4, h5, h6, h7, h8, h9, h10, h11⟩))
  all_goals go_wp2_with fail
  all_goals go_ret
  all_goals exact ⟨rfl, by assumption⟩

set_option maxHeartbeats 2000000 in
theorem freeA_var (c : UInt8) (B : Nat) (v : Value) (w : World) (hrep : RepA (fun g => g < B) w (.var c) v) :
    Calls Tryz.prog 45 #[v] w fun e w' => e = .returned (.string ⟨([c] : Text).toArray⟩) ∧ Below w.heap.size w w' := by
  cases hrep with
  | mk _ mm g cap cs hg hc hk =>
  unfold tmHeadA
  show Calls Tryz.prog 45 #[.agg #[.int .u8 118, .int .i64 mm, .string ⟨#[c]⟩, .slice (some ⟨g, 0, none⟩) 0 cap]] w _
  go_enter Tryz.func45, Tryz.ntmps45
  go_wp2_with fail
  go_ret
  exact ⟨rfl, (Below.refl _ w).alloc (Nat.le_refl _) _⟩

set_option maxRecDepth 100000 in
set_option maxHeartbeats 4000000 in
theorem freeA_rest (n : Nat) (ih : FreeAC n) (t : Tm) (B : Nat) (v : Value) (w : World) (ht : t.depth ≤ n + 1) (hn : n + 1 ≤ 4000) (hrep : RepA (fun g => g < B) w t v) (hB : B ≤ w.heap.size) (hgd : t.good)
    (h1 : kindOf t ≠ 118) (h2 : kindOf t ≠ 92) (h3 : kindOf t ≠ 64) (h4 : kindOf t ≠ 61) :
    Calls Tryz.prog 45 #[v] w fun e w' => e = .returned (.string ⟨(sfree t).toArray⟩) ∧ Below w.heap.size w w' := by
  cases hrep with
  | mk _ mm g cap c hg hc hk =>
  have hkl : t.kids.length ≤ 3 := by cases t <;> simp [Tm.kids]
  rw [free_kids t ⟨h1, h2, h3, h4⟩]
  have HC := Lib.hid hc
  have HK := Lib.hid hk
  clear hc hk
  unfold tmHeadA
  have k1 : ¬ ((kindOf t : Int) = 118) := by omega
  have k2 : ¬ ((kindOf t : Int) = 92) := by omega
  have k3 : ¬ ((kindOf t : Int) = 64) := by omega
  have k4 : ¬ ((kindOf t : Int) = 61) := by omega
  generalize (kindOf t : Int) = kd at k1 k2 k3 k4 ⊢
  have b1 : (kd == 118) = false := by simp [k1]
  have b2 : (kd == 92) = false := by simp [k2]
  have b3 : (kd == 64) = false := by simp [k3]
  have b4 : (kd == 61) = false := by simp [k4]
  clear h1 h2 h3 h4
  go_enter Tryz.func45, Tryz.ntmps45
  go_wp2_with fail
  obtain ⟨W1, hW1⟩ : ∃ W1, w.alloc (.cells #[.int .u8 kd, .int .i64 mm, .string ⟨(namesOf t).toArray⟩, .slice (some ⟨g, 0, none⟩) t.kids.length cap] 78) = W1 := ⟨_, rfl⟩
  have hb0 : Below w.heap.size w W1 := by rw [← hW1]; exact (Below.refl _ w).alloc (Nat.le_refl _) _
  rw [hW1]
  clear hW1
  go_loopw [3, 43] (fun o i wr => ∃ k : Nat, k ≤ t.kids.length ∧ i = .int .i64 k ∧ o = .string ⟨(freeTo t.kids k).toArray⟩ ∧ Below w.heap.size w wr) (fun _ i _ => t.kids.length - (intOf i).toNat)
  case atStart => exact ⟨0, Nat.zero_le _, rfl, rfl, hb0⟩
  case round =>
    obtain ⟨k, hkl2, rfl, rfl, hBl⟩ := hrel
    have hfl := freeTo_len t.kids k
    by_cases hlt : k < t.kids.length
    · obtain ⟨s, hs⟩ : ∃ s, t.kids[k]? = some s := ⟨_, List.getElem?_eq_getElem hlt⟩
      have hr := HK.out k s hs
      obtain ⟨x, y, st, aa, l, cc, he⟩ := hr.junk
      have hcells : ∀ j, j < 4 → wr.cell? ⟨g, 4 * k + j, none⟩ = some (c (4 * k + j)) := fun j hj => (hBl.cell (p := ⟨g, 4 * k + j, none⟩) (by show g < w.heap.size; omega)).trans (HC.out (4 * k + j) (by omega))
      have hr2 : RepA (fun g => g < B) w s (.agg #[.int .u8 x, .int .i64 y, .string st, .slice aa l cc]) := by rw [← he]; exact hr
      unfold four at he
      simp only [Value.agg.injEq, Array.mk.injEq, List.cons.injEq, and_true] at he
      obtain ⟨i0, i1, i2, i3⟩ := he
      have e0 : wr.cell? ⟨g, k * 4, none⟩ = some (.int .u8 x) := by rw [← i0]; have := hcells 0 (by omega); rwa [Nat.mul_comm k 4]
      have e1 : wr.cell? ⟨g, k * 4 + 1, none⟩ = some (.int .i64 y) := by rw [← i1]; have := hcells 1 (by omega); rwa [Nat.mul_comm k 4]
      have e2 : wr.cell? ⟨g, k * 4 + 2, none⟩ = some (.string st) := by rw [← i2]; have := hcells 2 (by omega); rwa [Nat.mul_comm k 4]
      have e3 : wr.cell? ⟨g, k * 4 + 3, none⟩ = some (.slice aa l cc) := by rw [← i3]; have := hcells 3 (by omega); rwa [Nat.mul_comm k 4]
      have HS := Lib.hid hs
      have hsz := hBl.size
      have hsl := sfree_len s
      have hw2 : Below w.heap.size w (wr.alloc (.cells #[.int .u8 x, .int .i64 y, .string st, .slice aa l cc] 78)) := hBl.alloc hsz _
      have C := ih s B (.agg #[.int .u8 x, .int .i64 y, .string st, .slice aa l cc]) (wr.alloc (.cells #[.int .u8 x, .int .i64 y, .string st, .slice aa l cc] 78)) (by have := kid_depth (List.mem_of_getElem? hs); omega) (by omega) (hr2.keep (fun g' hg' => hw2.block g' (by omega)) (fun g' hg' => hg')) (by simp; omega) (Tm.kid_good hgd (List.mem_of_getElem? hs))
      clear hcells i0 i1 i2 i3 hs hr hr2 HC HK
      have z3 : ¬ 9223372036854775807 < (freeTo t.kids k).length + (sfree s).length := by omega
      go_wp2_with (go_at_call 45; refine C.mono ?_; clear C; rintro e w2 ⟨rfl, hb2⟩)
      refine ⟨⟨k + 1, by omega, by go_num, ?_, hw2.trans (hb2.mono (by simp; omega))⟩, by simp [intOf]; omega⟩
      rw [freeTo_succ _ _ _ HS.out, str_app2]
    · obtain rfl : k = t.kids.length := by omega
      have C := sorted_c (freeTo t.kids t.kids.length) wr (by omega)
      go_wp2_with (go_at_call 67; refine C.mono ?_; clear C; rintro e w2 ⟨rfl, hb2⟩)
      go_ret
      exact ⟨rfl, hBl.trans (hb2.mono hBl.size)⟩

theorem freeA_c : ∀ n, FreeAC n
  | 0 => fun t _ _ _ ht => absurd ht (by have := t.depth_pos; omega)
  | n + 1 => by
    intro t B v w ht hn hrep hB hgd
    have ih := freeA_c n
    have hd : ∀ s ∈ t.kids, s.depth ≤ n := fun s hs => by have := kid_depth hs; omega
    have hgk : ∀ s ∈ t.kids, s.good := fun s hs => Tm.kid_good hgd hs
    cases t with
    | var c => exact freeA_var c B v w hrep
    | fn c b => exact freeA_fn n ih c b B v w (hd b (by simp [Tm.kids])) hn hrep hB (hgk b (by simp [Tm.kids]))
    | fix f c b => exact freeA_fix n ih f c b B v w (hd b (by simp [Tm.kids])) hn hrep hB (hgk b (by simp [Tm.kids]))
    | bind c a b => exact freeA_bind n ih c a b B v w (hd a (by simp [Tm.kids])) (hd b (by simp [Tm.kids])) hn hrep hB (hgk a (by simp [Tm.kids])) (hgk b (by simp [Tm.kids]))
    | num m => exact freeA_rest n ih _ B v w ht hn hrep hB hgd (by simp [kindOf]) (by simp [kindOf]) (by simp [kindOf]) (by simp [kindOf])
    | app f a => exact freeA_rest n ih _ B v w ht hn hrep hB hgd (by simp [kindOf]) (by simp [kindOf]) (by simp [kindOf]) (by simp [kindOf])
    | sel a b c => exact freeA_rest n ih _ B v w ht hn hrep hB hgd (by simp [kindOf]) (by simp [kindOf]) (by simp [kindOf]) (by simp [kindOf])
    | op s l r => 
      have hs : s.toNat = 43 ∨ s.toNat = 45 ∨ s.toNat = 42 := by rcases hgd.1 with h | h | h <;> subst h <;> decide
      exact freeA_rest n ih _ B v w ht hn hrep hB hgd (by simp only [kindOf]; omega) (by simp only [kindOf]; omega) (by simp only [kindOf]; omega) (by simp only [kindOf]; omega)
end Go.Proofs.YtjfhncfbejephaaGreatDoor
