/- The program's names of a tally, in order. -/
import Derived.Test.YtjeaadgfjnmfcaaBy
import Derived.Laws.IdiomStrings
namespace Go.Proofs.Ytjeaadgfjnmfcaa
open Go.RowKit
open Ff
set_option linter.unusedVariables false

theorem Try.info8 : (Try.prog.info? 5).map (fun i => (i.zero, i.size, i.bytes)) = some (some (.int .u8 0), 1, 1) := by kernel_rfl
/-- A string out of a slice of bytes that the call owns. -/
theorem str_own {W : World} {B n : Nat} {v : Value} {s : Text} (h : W.ownsRow B 5 1 v n (s.map bv)) : (convert 22 9 v).run Try.prog W = .ok (.string ⟨s.toArray⟩) W := by
  have hl := h.1
  rw [List.length_map, Nat.mul_one] at hl
  have hc := fun g hg => h.cells (g := g) hg
  rcases h.2 with ⟨rfl, rfl⟩ | ⟨g, cap, cur, rfl, _⟩
  · obtain rfl : s = [] := List.length_eq_zero_iff.1 hl
    rw [run_convert_bytes_string W _ _ 5 none 0 0 Try.underlying22 Try.underlying5 Try.underlying9]
    rfl
  · rw [← hl]
    refine run_convert_bytes_back W _ _ 5 ⟨g, 0, none⟩ cap s Try.underlying22 Try.underlying5 Try.underlying9 (fun j hj => ?_)
    exact hc g rfl j _ (by simp [List.getElem?_eq_getElem hj])
/-- The names of a tally among the first k letters. -/
def ordTo (m : UInt8 → Nat) (k : Nat) : Text := (letters.take k).filter (fun c => decide (m c ≠ 0))
theorem ord_succ (m : UInt8 → Nat) (k : Nat) (c : UInt8) (h : letters[k]? = some c) : ordTo m (k + 1) = ordTo m k ++ (if m c ≠ 0 then [c] else []) := by
  unfold ordTo
  rw [List.take_add_one, h]
  simp only [Option.toList_some, List.filter_append, List.append_cancel_left_eq]
  by_cases h2 : m c = 0 <;> simp [h2]
theorem ord_len (m : UInt8 → Nat) (k : Nat) : (ordTo m k).length ≤ k := Nat.le_trans (List.length_filter_le _ _) (by simp; omega)

set_option maxRecDepth 100000 in
set_option maxHeartbeats 2000000 in
theorem inOrder_c (b n : Nat) (m : UInt8 → Nat) (w : World) (hb : Tally w b n m) :
    Calls Try.prog 42 #[.map (some b)] w fun e w' => e = .returned (.string ⟨(namesIn m).toArray⟩) ∧ Below w.heap.size w w' := by
  have hbl := hb.lt
  obtain ⟨i0, hi, hz0, hz1, hz2⟩ := info_parts Try.info8
  go_enter Try.func42, Try.ntmps42
  go_wp2_with fail
  go_loopw [3, 4] (fun v i wr => ∃ k : Nat, k ≤ 16 ∧ i = .int .u8 (97 + k : Nat) ∧ wr.ownsRow w.heap.size 5 1 v (ordTo m k).length ((ordTo m k).map bv) ∧ Below w.heap.size w wr) (fun _ i _ => 113 - (intOf i).toNat)
  case atStart => exact ⟨0, Nat.zero_le _, rfl, World.ownsRow_nil _ _ _ _, Below.refl _ _⟩
  case round =>
    obtain ⟨k, hk, rfl, hown, hB⟩ := hrel
    have ht := hb.below hB
    by_cases hlt : k < 16
    · obtain ⟨c, hc, hcn⟩ := letters_at k hlt
      have hcn2 : (97 + (k : Int)) = (c.toNat : Int) := by rw [hcn]; simp
      have HN := Lib.hid hcn2
      have HM := Lib.hid hcn
      clear hcn2 hcn
      have hsucc := ord_succ m k c hc
      have hlen := ord_len m k
      have HS := Lib.hid hsucc
      clear hsucc hc
      by_cases h0 : m c = 0
      · go_wp2_with (first | (at_lookup; refine wpList_lookup_tally rfl _ _ rfl rfl ht c (by show Value.int .u8 (97 + (k : Int)) = _; rw [HN.out]) ?_; rw [h0]))
        refine ⟨⟨k + 1, by omega, by go_num, ?_, hB⟩, by simp [intOf]; omega⟩
        rw [HS.out, if_neg (by simp [h0]), List.append_nil]
        exact hown
      · have hpos : 0 < (m c : Int) := by omega
        go_wp2_with (first
          | (at_lookup; refine wpList_lookup_tally rfl _ _ rfl rfl ht c (by show Value.int .u8 (97 + (k : Int)) = _; rw [HN.out]) ?_)
          | (at_builtin; refine wpList_append_own_at _ rfl _ _ 22 rfl w.heap.size 5 i0 _ 1 1 Try.underlying22 hi hz0 hz1 hz2 rfl (by decide) _ _ _ rfl (hown.alloc _) ⟨wr.heap.size, 0, none⟩ 1 1 [bv c] rfl rfl (by rw [HN.out]; exact cell_one_new _ _ _) (by simp [bv, Value.oneCell']) (by unfold maxLen; omega) (by omega) (by have := hB.size; simp; omega) ?_; intro v' w2 hown' hgrow hnil hwhere)
          )
        have hg' : (wr.alloc (.cells #[.int .u8 (97 + (k : Int))] 5)).grownBy w2 u3.ownBlock := hgrow
        refine ⟨⟨k + 1, by omega, by go_num, ?_, (hB.alloc hB.size _).grown hg' (by have := hB.size; simp; omega) (fun j hj => (hown.lt j hj).1)⟩, by simp [intOf]; omega⟩
        rw [HS.out, if_pos h0, List.length_append, List.map_append]
        exact hown'
    · obtain rfl : k = 16 := by omega
      have k1 := str_own hown
      go_wp2_with fail
      go_ret
      exact ⟨rfl, hB⟩
end Go.Proofs.Ytjeaadgfjnmfcaa
