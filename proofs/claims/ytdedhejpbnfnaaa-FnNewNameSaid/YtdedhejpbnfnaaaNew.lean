/- NewName: the model's and the program's. -/
import Derived.Test.YtdedhejpbnfnaaaUnt
import Derived.Test.YtdedhejpbnfnaaaTxA
namespace Go.Proofs.Ytdedhejpbnfnaaa
open Go.RowKit
open Ff
set_option linter.unusedVariables false

set_option maxRecDepth 100000 in
set_option maxHeartbeats 1000000 in
theorem find_big (s : Text) (c : UInt8) (w : World) (hl : s.length ≤ 2000000) :
    Calls Try.prog 15 #[.string ⟨s.toArray⟩, .int .u8 (c.toNat : Int)] w fun e w' => e = .returned (.int .i64 (findI c s)) ∧ w' = w := by
  go_enter Try.func15, Try.ntmps15
  go_wp2_with fail
  go_loopw [5] (fun i wr => ∃ k : Nat, k ≤ s.length ∧ i = .int .i64 k ∧ c ∉ s.take k ∧ wr = w) (fun i _ => s.length - (intOf i).toNat)
  case atStart => exact ⟨0, Nat.zero_le _, rfl, by simp, rfl⟩
  case round =>
    obtain ⟨k, hk, rfl, hn, rfl⟩ := hrel
    have HN := Lib.hid hn
    clear hn
    by_cases hlt : k < s.length
    · obtain ⟨d, hd⟩ : ∃ d, s[k]? = some d := ⟨_, List.getElem?_eq_getElem hlt⟩
      go_wp2_with fail
      · rename_i hc
        rw [byte_eq s k c d hd (by rw [size_data]; exact hlt), decide_eq_true_iff] at hc
        subst hc
        go_ret
        exact ⟨by rw [findI_at hd HN.out]; rfl, rfl⟩
      · rename_i hc
        rw [byte_eq s k c d hd (by rw [size_data]; exact hlt), decide_eq_false_iff_not] at hc
        refine ⟨⟨k + 1, by omega, by go_num, ?_, trivial⟩, by simp [intOf]; omega⟩
        rw [List.take_add_one, hd]
        simp only [Option.toList_some, List.mem_append, List.mem_singleton, not_or]
        exact ⟨HN.out, fun e => hc e.symm⟩
    · have hk2 : s.take k = s := List.take_of_length_le (by omega)
      rw [hk2] at HN
      go_wp2_with fail
      go_ret
      exact ⟨by rw [findI_none HN.out]; rfl, rfl⟩

/-- The first letter that is not in a text. -/
def newO (s : Text) : Option UInt8 := letters.find? (fun c => decide (c ∉ s))
def newT (s : Text) : Text := match newO s with | some c => [c] | none => []
theorem find_at {s : Text} {k : Nat} {c : UInt8} (hc : letters[k]? = some c) (h : ∀ d ∈ letters.take k, d ∈ s) (hm : c ∉ s) : newO s = some c := by
  unfold newO
  obtain ⟨h1, h2⟩ := List.getElem?_eq_some_iff.1 hc
  rw [← List.take_append_drop k letters, List.find?_append, List.find?_eq_none.2 (fun d hd => by simpa using h d hd), List.drop_eq_getElem_cons h1, h2]
  simp [hm]
theorem find_none {s : Text} (h : ∀ d ∈ letters, d ∈ s) : newO s = none := by
  unfold newO
  rw [List.find?_eq_none]
  intro d hd
  simpa using h d hd
set_option maxRecDepth 100000 in
set_option maxHeartbeats 1000000 in
theorem sl2New_c (s : Text) (w : World) (hl : s.length ≤ 2000000) :
    Calls Try.prog 12 #[.string ⟨s.toArray⟩] w fun e w' => e = .returned (.string ⟨(newT s).toArray⟩) ∧ Below w.heap.size w w' := by
  go_enter Try.func12, Try.ntmps12
  go_wp2_with fail
  go_loopw [3] (fun i wr => ∃ k : Nat, k ≤ 16 ∧ i = .int .u8 (97 + k : Nat) ∧ (∀ d ∈ letters.take k, d ∈ s) ∧ wr = w) (fun i _ => 113 - (intOf i).toNat)
  case atStart => exact ⟨0, Nat.zero_le _, rfl, by simp, rfl⟩
  case round =>
    obtain ⟨k, hk, rfl, hall, rfl⟩ := hrel
    have HA := Lib.hid hall
    clear hall
    by_cases hlt : k < 16
    · obtain ⟨c, hc, hcn⟩ := letters_at k hlt
      have F := find_big s c wr hl
      rw [hcn] at F
      have hcn2 : (97 + (k : Int)) = (c.toNat : Int) := by rw [hcn]; simp
      have k1 : (convert 22 9 (.slice (some ⟨wr.heap.size, 0, none⟩) 1 1)).run Try.prog (wr.alloc (.cells #[.int .u8 (97 + (k : Int))] 5)) = .ok (.string ⟨[c].toArray⟩) (wr.alloc (.cells #[.int .u8 (97 + (k : Int))] 5)) := by
        rw [hcn2]
        exact str1 _ c _ (cell_new_at _ _ _ _ rfl)
      have HC := Lib.hid hc
      clear hcn2 hcn hc
      go_wp2_with (go_at_call 15; refine F.mono ?_; clear F; rintro e w1 ⟨rfl, rfl⟩)
      · rename_i hf
        have hm : c ∉ s := (findI_mem c s).1 (by omega)
        go_ret
        refine ⟨?_, (Below.refl _ w1).alloc (Nat.le_refl _) _⟩
        unfold newT
        rw [find_at HC.out HA.out hm]
        rfl
      · rename_i hf
        have hm : c ∈ s := by
          apply Classical.byContradiction
          intro h
          have := (findI_mem c s).2 h
          omega
        refine ⟨⟨k + 1, by omega, by go_num, fun d hd => ?_, trivial⟩, by simp [intOf]; omega⟩
        rw [List.take_add_one, HC.out] at hd
        simp only [Option.toList_some, List.mem_append, List.mem_singleton] at hd
        rcases hd with hd | rfl
        · exact HA.out d hd
        · exact hm
    · obtain rfl : k = 16 := by omega
      go_wp2_with fail
      go_ret
      refine ⟨?_, Below.refl _ _⟩
      unfold newT
      rw [find_none HA.out]
      rfl
/-- What NewName tells. -/
def newV (s : Text) : Value := match newO s with
  | some c => .tuple #[.string ⟨#[c]⟩, .bool true]
  | none => .tuple #[.string ⟨#[]⟩, .bool false]
theorem newV_shape (s : Text) : ∃ (x : ByteArray) (b : Bool), newV s = .tuple #[.string x, .bool b] := by
  unfold newV
  split <;> exact ⟨_, _, rfl⟩
set_option maxRecDepth 100000 in
set_option maxHeartbeats 1000000 in
theorem sNewName_c (s : Text) (w : World) (hl : s.length ≤ 2000000) :
    Calls Try.prog 6 #[.string ⟨s.toArray⟩] w fun e w' => e = .returned (newV s) ∧ Below w.heap.size w w' := by
  have C := sl2New_c s w hl
  unfold newT at C
  unfold newV
  rcases hO : newO s with _ | c <;> rw [hO] at C <;> clear hO
  · go_enter Try.func6, Try.ntmps6
    go_wp2_with (go_at_call 12; refine C.mono ?_; clear C; rintro e w1 ⟨rfl, hb1⟩)
    go_ret2
    exact ⟨rfl, hb1⟩
  · go_enter Try.func6, Try.ntmps6
    go_wp2_with (go_at_call 12; refine C.mono ?_; clear C; rintro e w1 ⟨rfl, hb1⟩)
    go_ret2
    exact ⟨rfl, hb1⟩
theorem but_new (s : Text) : (butTo (fun c => s.count c) 16).head? = newO s := by
  unfold butTo newO
  rw [List.take_of_length_le (by decide), ← List.head?_filter]
  congr 1
  refine List.filter_congr fun c _ => ?_
  have : s.count c = 0 ↔ c ∉ s := List.count_eq_zero
  simp [this]
set_option maxRecDepth 100000 in
set_option maxHeartbeats 2000000 in
theorem iNewName_c (s : Text) (w : World) (hl : s.length ≤ 2000000) :
    Calls Try.prog 5 #[.string ⟨s.toArray⟩] w fun e w' => e = .returned (newV s) ∧ Below w.heap.size w w' := by
  have hmm := @run_makeMap Try.prog
  go_enter Try.func5, Try.ntmps5
  go_wp2_with fail
  go_loopw [11] (fun i wr => ∃ k : Nat, k ≤ s.length ∧ i = .int .i64 k ∧ Tally wr w.heap.size k (fun c => (s.take k).count c) ∧ Below w.heap.size w wr) (fun i _ => s.length - (intOf i).toNat)
  case atStart => exact ⟨0, Nat.zero_le _, rfl, (tally_made w).congr (fun c => by simp), (Below.refl _ w).alloc (Nat.le_refl _) _⟩
  case round =>
    obtain ⟨k, hk, rfl, hT, hB⟩ := hrel
    by_cases hlt : k < s.length
    · obtain ⟨d, hd⟩ : ∃ d, s[k]? = some d := ⟨_, List.getElem?_eq_getElem hlt⟩
      have hix := index_byte s k d hd (by rw [size_data]; exact hlt)
      have hct : (s.take k).count d ≤ 2000000 := Nat.le_trans List.count_le_length (by simp; omega)
      have HH := Lib.hid (fun y => count_take s k d y hd)
      clear hd
      go_wp2_with (first
        | (at_lookup; refine wpList_lookup_tally rfl _ _ rfl rfl hT d rfl ?_)
        | (at_mapUpdate; refine wpList_update_tally rfl _ _ _ rfl rfl hT d rfl ((s.take k).count d + 1) (by go_num) (by unfold maxLen; omega) (by omega) (by omega) ?_; intro w4 hT4 hg4; go_frame))
      refine ⟨⟨k + 1, by omega, by go_num, hT4.congr (fun y => ?_), hB.grown hg4 hB.size (fun j hj => by cases hj; exact Nat.le_refl _)⟩, by simp [intOf]; omega⟩
      rw [HH.out y]
      by_cases e : y = d
      · subst e; simp [upd]
      · simp [upd, e]
    · obtain rfl : k = s.length := by omega
      rw [List.take_length] at hT
      have U := untaken_c w.heap.size s.length (fun c => s.count c) wr hT
      unfold untV at U
      rw [but_new s] at U
      rcases hO : newO s with _ | c
      · rw [hO] at U
        have HO := Lib.hid hO
        clear hO
        go_wp2_with (go_at_call 11; refine U.mono ?_; clear U; rintro e w1 ⟨rfl, hb1⟩)
        go_ret2
        exact ⟨by unfold newV; rw [HO.out]; rfl, hB.trans (hb1.mono hB.size)⟩
      · rw [hO] at U
        have hcl : c ∈ letters := List.mem_of_find?_eq_some hO
        have hv := fun w' => conv_c (.inl hcl) w'
        have HO := Lib.hid hO
        clear hO
        go_wp2_with (go_at_call 11; refine U.mono ?_; clear U; rintro e w1 ⟨rfl, hb1⟩)
        go_ret2
        exact ⟨by unfold newV; rw [HO.out]; rfl, hB.trans (hb1.mono hB.size)⟩
end Go.Proofs.Ytdedhejpbnfnaaa
