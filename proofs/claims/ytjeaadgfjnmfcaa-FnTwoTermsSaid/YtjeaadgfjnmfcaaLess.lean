/- The specification's functions on texts of names: l1Less, l1Free. -/
import Derived.Test.YtjeaadgfjnmfcaaStr
import Derived.Test.YtjeaadgfjnmfcaaDep
namespace Go.Proofs.Ytjeaadgfjnmfcaa
open Go.RowKit
open Ff
set_option linter.unusedVariables false

/-- The names of a text that are not in another one. -/
def lessN (s names : Text) : Text := s.filter (fun c => decide (c ∉ names))

theorem extract_one (s : Text) (k : Nat) (d : UInt8) (hd : s[k]? = some d) : (⟨s.toArray⟩ : ByteArray).extract k (k + 1) = ⟨#[d]⟩ := by
  apply ba_ext
  obtain ⟨h1, h2⟩ := List.getElem?_eq_some_iff.1 hd
  have e : (s.drop k).take 1 = [d] := by rw [List.drop_eq_getElem_cons h1, h2]; rfl
  simp [ByteArray.data_extract, e]
theorem less_take (s names : Text) (k : Nat) (c : UInt8) (h : s[k]? = some c) : (s.take (k + 1)).filter (fun c => decide (c ∉ names)) = (s.take k).filter (fun c => decide (c ∉ names)) ++ (if c ∈ names then [] else [c]) := by
  rw [List.take_add_one, h]
  simp [List.filter_append]
  by_cases h2 : c ∈ names <;> simp [h2]

set_option maxRecDepth 100000 in
set_option maxHeartbeats 1000000 in
theorem less_c (s names : Text) (w : World) (hl : s.length ≤ 100000) (hl2 : names.length ≤ 100000) :
    Calls Try.prog 62 #[.string ⟨s.toArray⟩, .string ⟨names.toArray⟩] w fun e w' => e = .returned (.string ⟨(lessN s names).toArray⟩) ∧ w' = w := by
  go_enter Try.func62, Try.ntmps62
  go_wp2_with fail
  go_loopw [5, 9] (fun o i wr => ∃ (k : Nat) (out : Text), k ≤ s.length ∧ i = .int .i64 k ∧ o = .string ⟨out.toArray⟩ ∧ out = (s.take k).filter (fun c => decide (c ∉ names)) ∧ out.length ≤ k ∧ wr = w) (fun _ i _ => s.length - (intOf i).toNat)
  case atStart => exact ⟨0, [], Nat.zero_le _, rfl, rfl, rfl, Nat.le_refl _, rfl⟩
  case round =>
    obtain ⟨k, out, hk, rfl, rfl, ho, hol, rfl⟩ := hrel
    have HO := Lib.hid ho
    clear ho
    by_cases hlt : k < s.length
    · obtain ⟨d, hd⟩ : ∃ d, s[k]? = some d := ⟨_, List.getElem?_eq_getElem hlt⟩
      have hix := index_byte s k d hd (by rw [size_data]; exact hlt)
      have F := find_c names d wr hl2
      go_wp2_with (go_at_call 79; refine F.mono ?_; clear F; rintro e w1 ⟨rfl, rfl⟩)
      · rename_i hf
        have hm : d ∉ names := (findI_mem d names).1 (by omega)
        refine ⟨⟨k + 1, out ++ [d], by omega, by go_num, by rw [extract_one s k d hd, str_app], ?_, by simp; omega, trivial⟩, by simp [intOf]; omega⟩
        rw [less_take s names k d hd, if_neg hm, HO.out]
      · rename_i hf
        have hm : d ∈ names := by
          apply Classical.byContradiction
          intro h
          have := (findI_mem d names).2 h
          omega
        refine ⟨⟨k + 1, out, by omega, by go_num, rfl, ?_, by omega, trivial⟩, by simp [intOf]; omega⟩
        rw [less_take s names k d hd, if_pos hm, HO.out, List.append_nil]
    · obtain rfl : k = s.length := by omega
      have hk2 : s.take s.length = s := List.take_of_length_le (Nat.le_refl _)
      rw [hk2] at HO
      go_wp2_with fail
      go_ret
      exact ⟨by rw [HO.out]; rfl, rfl⟩
end Go.Proofs.Ytjeaadgfjnmfcaa
