/- The specification's l1Free, at every term. -/
import Derived.Test.YtjeaadgfjnmfcaaFreeB
namespace Go.Proofs.Ytjeaadgfjnmfcaa
open Go.RowKit
open Ff
set_option linter.unusedVariables false

set_option maxHeartbeats 2000000 in
theorem free_var (c : UInt8) (B : Nat) (v : Value) (w : World) (hrep : Rep (fun g => g < B) w (.var c) v) :
    Calls Try.prog 47 #[v] w fun e w' => e = .returned (.string ⟨([c] : Text).toArray⟩) ∧ Below w.heap.size w w' := by
  cases hrep with
  | mk _ g cap cs hg hc hk =>
  unfold tmHead
  show Calls Try.prog 47 #[.agg #[.int .u8 118, .int .i64 0, .string ⟨#[c]⟩, .slice (some ⟨g, 0, none⟩) 0 cap]] w _
  go_enter Try.func47, Try.ntmps47
  go_wp2_with fail
  go_ret
  exact ⟨rfl, (Below.refl _ w).alloc (Nat.le_refl _) _⟩

set_option maxRecDepth 100000 in
set_option maxHeartbeats 4000000 in
theorem free_rest (n : Nat) (ih : FreeC n) (t : Tm) (B : Nat) (v : Value) (w : World) (ht : t.depth ≤ n + 1) (hn : n + 1 ≤ 1000) (hrep : Rep (fun g => g < B) w t v) (hB : B ≤ w.heap.size) (hgd : t.good)
    (h1 : kindOf t ≠ 118) (h2 : kindOf t ≠ 92) (h3 : kindOf t ≠ 64) (h4 : kindOf t ≠ 61) :
    Calls Try.prog 47 #[v] w fun e w' => e = .returned (.string ⟨(sfree t).toArray⟩) ∧ Below w.heap.size w w' := by
  cases hrep with
  | mk _ g cap c hg hc hk =>
  have hkl : t.kids.length ≤ 3 := by cases t <;> simp [Tm.kids]
  rw [free_kids t ⟨h1, h2, h3, h4⟩]
  have HC := Lib.hid hc
  have HK := Lib.hid hk
  clear hc hk
  unfold tmHead
  have k1 : ¬ ((kindOf t : Int) = 118) := by omega
  have k2 : ¬ ((kindOf t : Int) = 92) := by omega
  have k3 : ¬ ((kindOf t : Int) = 64) := by omega
  have k4 : ¬ ((kindOf t : Int) = 61) := by omega
  generalize (kindOf t : Int) = kd at k1 k2 k3 k4 ⊢
  have b1 : (kd == 118) = false := by simp [k1]
  have b2 : (kd == 92) = false := by simp [k2]
  have b3 : (kd == 64) = false := by simp [k3]
  have b4 : (kd == 61) = false := by simp [k4]
  clear h1 h2 h3 h4
  go_enter Try.func47, Try.ntmps47
  go_wp2_with fail
  obtain ⟨W1, hW1⟩ : ∃ W1, w.alloc (.cells #[.int .u8 kd, .int .i64 (numOf t : Int), .string ⟨(namesOf t).toArray⟩, .slice (some ⟨g, 0, none⟩) t.kids.length cap] 49) = W1 := ⟨_, rfl⟩
  have hb0 : Below w.heap.size w W1 := by rw [← hW1]; exact (Below.refl _ w).alloc (Nat.le_refl _) _
  rw [hW1]
  clear hW1
  go_loopw [3, 43] (fun o i wr => ∃ k : Nat, k ≤ t.kids.length ∧ i = .int .i64 k ∧ o = .string ⟨(freeTo t.kids k).toArray⟩ ∧ Below w.heap.size w wr) (fun _ i _ => t.kids.length - (intOf i).toNat)
  case atStart => exact ⟨0, Nat.zero_le _, rfl, rfl, hb0⟩
  case round =>
    obtain ⟨k, hkl2, rfl, rfl, hBl⟩ := hrel
    have hfl := freeTo_len t.kids k
    by_cases hlt : k < t.kids.length
    · obtain ⟨s, hs⟩ : ∃ s, t.kids[k]? = some s := ⟨_, List.getElem?_eq_getElem hlt⟩
      have hr := HK.out k s hs
      obtain ⟨x, y, st, aa, l, cc, he⟩ := hr.junk
      have hcells : ∀ j, j < 4 → wr.cell? ⟨g, 4 * k + j, none⟩ = some (c (4 * k + j)) := fun j hj => (hBl.cell (p := ⟨g, 4 * k + j, none⟩) (by show g < w.heap.size; omega)).trans (HC.out (4 * k + j) (by omega))
      have hr2 : Rep (fun g => g < B) w s (.agg #[.int .u8 x, .int .i64 y, .string st, .slice aa l cc]) := by rw [← he]; exact hr
      unfold four at he
      simp only [Value.agg.injEq, Array.mk.injEq, List.cons.injEq, and_true] at he
      obtain ⟨i0, i1, i2, i3⟩ := he
      have e0 : wr.cell? ⟨g, k * 4, none⟩ = some (.int .u8 x) := by rw [← i0]; have := hcells 0 (by omega); rwa [Nat.mul_comm k 4]
      have e1 : wr.cell? ⟨g, k * 4 + 1, none⟩ = some (.int .i64 y) := by rw [← i1]; have := hcells 1 (by omega); rwa [Nat.mul_comm k 4]
      have e2 : wr.cell? ⟨g, k * 4 + 2, none⟩ = some (.string st) := by rw [← i2]; have := hcells 2 (by omega); rwa [Nat.mul_comm k 4]
      have e3 : wr.cell? ⟨g, k * 4 + 3, none⟩ = some (.slice aa l cc) := by rw [← i3]; have := hcells 3 (by omega); rwa [Nat.mul_comm k 4]
      have HS := Lib.hid hs
      have hsz := hBl.size
      have hsl := sfree_len s
      have hw2 : Below w.heap.size w (wr.alloc (.cells #[.int .u8 x, .int .i64 y, .string st, .slice aa l cc] 49)) := hBl.alloc hsz _
      have C := ih s B (.agg #[.int .u8 x, .int .i64 y, .string st, .slice aa l cc]) (wr.alloc (.cells #[.int .u8 x, .int .i64 y, .string st, .slice aa l cc] 49)) (by have := kid_depth (List.mem_of_getElem? hs); omega) (by omega) (hr2.keep (fun g' hg' => hw2.block g' (by omega)) (fun g' hg' => hg')) (by simp; omega) (Tm.kid_good hgd (List.mem_of_getElem? hs))
      clear hcells i0 i1 i2 i3 hs hr hr2 HC HK
      have z3 : ¬ 9223372036854775807 < (freeTo t.kids k).length + (sfree s).length := by omega
      go_wp2_with (go_at_call 47; refine C.mono ?_; clear C; rintro e w2 ⟨rfl, hb2⟩)
      refine ⟨⟨k + 1, by omega, by go_num, ?_, hw2.trans (hb2.mono (by simp; omega))⟩, by simp [intOf]; omega⟩
      rw [freeTo_succ _ _ _ HS.out, str_app2]
    · obtain rfl : k = t.kids.length := by omega
      have C := sorted_c (freeTo t.kids t.kids.length) wr (by omega)
      go_wp2_with (go_at_call 63; refine C.mono ?_; clear C; rintro e w2 ⟨rfl, hb2⟩)
      go_ret
      exact ⟨rfl, hBl.trans (hb2.mono hBl.size)⟩

theorem free_c : ∀ n, FreeC n
  | 0 => fun t _ _ _ ht => absurd ht (by have := t.depth_pos; omega)
  | n + 1 => by
    intro t B v w ht hn hrep hB hgd
    have ih := free_c n
    have hd : ∀ s ∈ t.kids, s.depth ≤ n := fun s hs => by have := kid_depth hs; omega
    have hgk : ∀ s ∈ t.kids, s.good := fun s hs => Tm.kid_good hgd hs
    cases t with
    | var c => exact free_var c B v w hrep
    | fn c b => exact free_fn n ih c b B v w (hd b (by simp [Tm.kids])) hn hrep hB (hgk b (by simp [Tm.kids]))
    | fix f c b => exact free_fix n ih f c b B v w (hd b (by simp [Tm.kids])) hn hrep hB (hgk b (by simp [Tm.kids]))
    | bind c a b => exact free_bind n ih c a b B v w (hd a (by simp [Tm.kids])) (hd b (by simp [Tm.kids])) hn hrep hB (hgk a (by simp [Tm.kids])) (hgk b (by simp [Tm.kids]))
    | num m => exact free_rest n ih _ B v w ht hn hrep hB hgd (by simp [kindOf]) (by simp [kindOf]) (by simp [kindOf]) (by simp [kindOf])
    | app f a => exact free_rest n ih _ B v w ht hn hrep hB hgd (by simp [kindOf]) (by simp [kindOf]) (by simp [kindOf]) (by simp [kindOf])
    | sel a b c => exact free_rest n ih _ B v w ht hn hrep hB hgd (by simp [kindOf]) (by simp [kindOf]) (by simp [kindOf]) (by simp [kindOf])
    | op s l r => 
      have hs : s.toNat = 43 ∨ s.toNat = 45 ∨ s.toNat = 42 := by rcases hgd.1 with h | h | h <;> subst h <;> decide
      exact free_rest n ih _ B v w ht hn hrep hB hgd (by simp only [kindOf]; omega) (by simp only [kindOf]; omega) (by simp only [kindOf]; omega) (by simp only [kindOf]; omega)
end Go.Proofs.Ytjeaadgfjnmfcaa
