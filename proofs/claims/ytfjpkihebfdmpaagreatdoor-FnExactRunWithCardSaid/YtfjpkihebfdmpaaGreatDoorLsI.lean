import Derived.Test.YtfjpkihebfdmpaaGreatDoorLbC
import Derived.RangeFuncBox
/- The statements' own helpers over rows of numbers: comparing, marking, asking for the marks. -/
namespace Go.Proofs.YtfjpkihebfdmpaaGreatDoor
open Go.RowKit
open Ff
set_option linter.unusedVariables false
attribute [local irreducible] Calls

abbrev iv (n : Int) : Value := .int .i64 n
/-- A slice that lists numbers. -/
abbrev Ints (w : World) (base : Nat) (v : Value) (l : List Int) : Prop := w.ownsRow base 3 1 v l.length (int64s l)
theorem row_setI {W : World} {base : Nat} {e : TypeId} {n g cap : Nat} {xs : List Value} (h : W.ownsRow base e 1 (.slice (some ⟨g, 0, none⟩) n cap) n xs) (j : Nat) (u : Value) : (W.setCell ⟨g, j, none⟩ u).ownsRow base e 1 (.slice (some ⟨g, 0, none⟩) n cap) n (xs.set j u) := by
  obtain ⟨h1, h2⟩ := h
  refine ⟨by simpa using h1, ?_⟩
  rcases h2 with ⟨h2, _⟩ | ⟨g', cap', cur, hv, hb, hh, hn, hm, hc, ht⟩
  · cases h2
  · injection hv with hv1 hv2 hv3
    injection hv1 with hv1
    injection hv1 with hv1
    subst hv1 hv3
    refine .inr ⟨g, cap, cur.setIfInBounds j u, rfl, hb, ?_, hn, hm, by simpa using hc, ?_⟩
    · obtain ⟨hlt, hk⟩ := Array.getElem?_eq_some_iff.1 hh
      show (W.heap.modify g _)[g]? = _
      rw [Array.getElem?_eq_getElem (by rw [Array.size_modify]; exact hlt), Array.getElem_modify_self, hk]
      rfl
    · rw [Nat.mul_one] at ht ⊢
      rw [Array.toList_setIfInBounds, List.take_set, ht]
theorem Ints.frozen {W : World} {base : Nat} {e : TypeId} {n g cap size : Nat} {xs : List Value} (h : W.ownsRow base e size (.slice (some ⟨g, 0, none⟩) n cap) n xs) (j : Nat) : W.frozen? ⟨g, j, none⟩ = false := by
  rcases h.2 with ⟨h2, _⟩ | ⟨g', cap', cur, hv, hb, hh, hn, hm, hc, ht⟩
  · cases h2
  · injection hv with hv1
    injection hv1 with hv1
    injection hv1 with hv1
    subst hv1
    simp [World.frozen?, hh]
/-- Either no number and whatever slice, or a slice that is written out, with its cells. -/
theorem Ints.cases {W : World} {base : Nat} {v : Value} {l : List Int} (h : Ints W base v l) : (∃ a c, v = .slice a l.length c) ∧ ∀ (i : Nat) (s : Int), l[i]? = some s → ∃ g c, v = .slice (some ⟨g, 0, none⟩) l.length c ∧ base ≤ g ∧ g < W.heap.size ∧ W.cell? ⟨g, i, none⟩ = some (iv s) ∧ W.frozen? ⟨g, i, none⟩ = false := by
  constructor
  · rcases h.2 with ⟨rfl, h0⟩ | ⟨g, cap, cur, rfl, _⟩
    · exact ⟨none, 0, by rw [h0]⟩
    · exact ⟨_, _, rfl⟩
  · intro i s hs
    have hc := fun g hg => h.cells (g := g) hg i (iv s) (by simp [int64s, hs])
    have hl := fun g hg => h.lt g hg
    rcases h.2 with ⟨rfl, h0⟩ | ⟨g, cap, cur, rfl, _⟩
    · have : l = [] := List.length_eq_zero_iff.1 h0
      subst this
      simp at hs
    · have h1 := hc g rfl
      rw [Addr.add_lit, Nat.zero_add] at h1
      exact ⟨g, cap, rfl, (hl g rfl).1, (hl g rfl).2, h1, Ints.frozen h i⟩

set_option maxRecDepth 100000 in
set_option maxHeartbeats 2000000 in
theorem eqI_c (va vb : Value) (b1 b2 : Nat) (l : List Int) (w : World) (ha : Ints w b1 va l) (hb : Ints w b2 vb l) (hl : l.length ≤ 1000000) :
    Calls Tryz.prog 18 #[va, vb] w fun e w' => e = .returned (.bool true) ∧ Below w.heap.size w w' := by
  obtain ⟨⟨aa, ca, rfl⟩, hca⟩ := ha.cases
  obtain ⟨⟨ab, cb, rfl⟩, hcb⟩ := hb.cases
  have HA := Lib.hid hca
  have HB := Lib.hid hcb
  clear hca hcb ha hb
  go_enter Tryz.func18, Tryz.ntmps18
  go_wp2_with fail
  go_loopw [5] (fun i wr => ∃ k : Nat, k ≤ l.length ∧ i = .int .i64 k ∧ Below w.heap.size w wr) (fun i _ => l.length - (intOf i).toNat)
  case atStart => exact ⟨0, Nat.zero_le _, rfl, Below.refl _ _⟩
  case round =>
    obtain ⟨k, hk, rfl, hB⟩ := hrel
    by_cases hlt : k < l.length
    · obtain ⟨s, hs⟩ : ∃ s, l[k]? = some s := ⟨_, List.getElem?_eq_getElem hlt⟩
      obtain ⟨g1, c1, e1, _, hg1, h1, _⟩ := HA.out k s hs
      obtain ⟨g2, c2, e2, _, hg2, h2, _⟩ := HB.out k s hs
      injection e1 with e1 _ e1c
      injection e2 with e2 _ e2c
      subst e1 e1c e2 e2c
      have d1 := (hB.cell (p := ⟨g1, k, none⟩) hg1).trans h1
      have d2 := (hB.cell (p := ⟨g2, k, none⟩) hg2).trans h2
      clear hs h1 h2 HA HB
      go_wp2_with fail
      go_region
      all_goals go_wp2_with fail
      all_goals exact ⟨⟨k + 1, by omega, by go_num, hB.drew⟩, by simp [intOf]; omega⟩
    · obtain rfl : k = l.length := by omega
      go_wp2_with fail
      go_ret
      exact ⟨rfl, hB⟩
theorem bgrownI {A B : World} (h : Below A.heap.size A B) : A.grownBy B none := ⟨h.os, h.tape, h.output, h.size, fun j hj _ => h.block j hj⟩
theorem grown_setAtI (W : World) (b i : Nat) (v : Value) : W.grownBy (W.setCell ⟨b, i, none⟩ v) (some b) :=
  ⟨rfl, rfl, rfl, (KeepsWalks.setCell W _ v).size, fun k _ hk => Below.heap_setCell _ _ _ k (fun e => hk (by rw [e]))⟩
/-- The marks from 1 on. -/
def marksI : Nat → List Int
  | 0 => []
  | n + 1 => marksI n ++ [((n + 1 : Nat) : Int)]
theorem marksI_len : ∀ n, (marksI n).length = n
  | 0 => rfl
  | n + 1 => by rw [marksI, List.length_append, marksI_len n]; rfl
theorem marksI_at : ∀ n i, i < n → (marksI n)[i]? = some ((i + 1 : Nat) : Int)
  | 0, i, h => absurd h (by omega)
  | n + 1, i, h => by
    rw [marksI]
    by_cases e : i = n
    · subst e
      rw [List.getElem?_append_right (by rw [marksI_len]; omega), marksI_len]
      simp
    · rw [List.getElem?_append_left (by rw [marksI_len]; omega)]
      exact marksI_at n i (by omega)
set_option maxRecDepth 100000 in
set_option maxHeartbeats 2000000 in
theorem markI_c (va : Value) (b1 : Nat) (l : List Int) (w : World) (ha : Ints w b1 va l) (hl : l.length ≤ 1000000) :
    Calls Tryz.prog 23 #[va, .int .i64 1] w fun e w' => e = .returned (.int .i64 (l.length + 1 : Nat)) ∧ Ints w' b1 va (marksI l.length) ∧ w.grownBy w' va.ownBlock := by
  have hcs := ha.cases
  obtain ⟨⟨aa, ca, rfl⟩, hca⟩ := hcs
  go_enter Tryz.func23, Tryz.ntmps23
  go_wp2_with fail
  go_loopw [1, 5] (fun m i wr => ∃ k : Nat, k ≤ l.length ∧ i = .int .i64 k ∧ m = .int .i64 (k + 1 : Nat) ∧ Ints wr b1 (.slice aa l.length ca) (marksI k ++ l.drop k) ∧ w.grownBy wr (Value.slice aa l.length ca).ownBlock) (fun _ i _ => l.length - (intOf i).toNat)
  case atStart => exact ⟨0, Nat.zero_le _, rfl, rfl, by simpa [marksI] using ha, World.grownBy.refl _ _⟩
  case round =>
    obtain ⟨k, hk, rfl, rfl, hs, hg⟩ := hrel
    by_cases hlt : k < l.length
    · have hlen : (marksI k ++ l.drop k).length = l.length := by rw [List.length_append, marksI_len, List.length_drop]; omega
      obtain ⟨s, hs1⟩ : ∃ s, (marksI k ++ l.drop k)[k]? = some s := ⟨_, List.getElem?_eq_getElem (by omega)⟩
      obtain ⟨g, c, he, hb1, hg1, hc1, hf1⟩ := hs.cases.2 k s hs1
      rw [hlen] at he
      injection he with he _ hec
      subst he hec
      have hs' : wr.ownsRow b1 3 1 (.slice (some ⟨g, 0, none⟩) l.length ca) l.length (int64s (marksI k ++ l.drop k)) := by
        have h := hs
        unfold Ints at h
        rw [hlen] at h
        exact h
      have hset : (int64s (marksI k ++ l.drop k)).set k (iv ((k + 1 : Nat) : Int)) = int64s (marksI (k + 1) ++ l.drop (k + 1)) := by
        unfold int64s
        rw [← List.map_set, List.set_append, if_neg (by rw [marksI_len]; omega), marksI_len, Nat.sub_self, List.drop_eq_getElem_cons hlt, List.set_cons_zero, marksI, List.append_assoc]
        rfl
      have hlen2 : (marksI (k + 1) ++ l.drop (k + 1)).length = l.length := by rw [List.length_append, marksI_len, List.length_drop]; omega
      have HS := Lib.hid hset
      have HL := Lib.hid hlen2
      have HO := Lib.hid hs'
      have HG := Lib.hid hg
      clear hca ha hset hlen2 hlen hs1 hs hs' hg
      go_wp2_with fail
      refine ⟨⟨k + 1, by omega, by go_num, by go_num, ?_, HG.out.andThen (grown_setAtI wr g k _) (fun j hj => Or.inr hj)⟩, by simp [intOf]; omega⟩
      have h := row_setI HO.out k (iv ((k + 1 : Nat) : Int))
      rw [HS.out] at h
      unfold Ints
      rw [HL.out]
      exact h
    · obtain rfl : k = l.length := by omega
      rw [List.drop_length, List.append_nil] at hs
      go_wp2_with fail
      go_ret
      exact ⟨rfl, hs, hg⟩
set_option maxRecDepth 100000 in
set_option maxHeartbeats 2000000 in
theorem heldI_c (va : Value) (b1 n : Nat) (w : World) (ha : Ints w b1 va (marksI n)) (hl : n ≤ 1000000) :
    Calls Tryz.prog 24 #[va, .int .i64 1] w fun e w' => e = .returned (.int .i64 (n + 1 : Nat)) ∧ Below w.heap.size w w' := by
  obtain ⟨⟨aa, ca, rfl⟩, hca⟩ := ha.cases
  rw [marksI_len] at hca ⊢
  have HA := Lib.hid hca
  clear hca ha
  go_enter Tryz.func24, Tryz.ntmps24
  go_wp2_with fail
  go_loopw [1, 5] (fun m i wr => ∃ k : Nat, k ≤ n ∧ i = .int .i64 k ∧ m = .int .i64 (k + 1 : Nat) ∧ Below w.heap.size w wr) (fun _ i _ => n - (intOf i).toNat)
  case atStart => exact ⟨0, Nat.zero_le _, rfl, rfl, Below.refl _ _⟩
  case round =>
    obtain ⟨k, hk, rfl, rfl, hB⟩ := hrel
    by_cases hlt : k < n
    · obtain ⟨g, c, he, _, hg1, hc1, _⟩ := HA.out k _ (marksI_at n k hlt)
      injection he with he _ hec
      subst he hec
      have d1 : wr.cell? ⟨g, k, none⟩ = some (.int .i64 ((k : Int) + 1)) := (hB.cell (p := ⟨g, k, none⟩) hg1).trans hc1
      have hsz := hB.size
      clear hc1 HA
      go_wp2_with fail
      exact ⟨⟨k + 1, by omega, by go_num, by go_num, hB⟩, by simp [intOf]; omega⟩
    · obtain rfl : k = n := by omega
      go_wp2_with fail
      go_ret
      exact ⟨rfl, hB⟩
end Go.Proofs.YtfjpkihebfdmpaaGreatDoor
