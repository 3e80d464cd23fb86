/- The model's drawn inputs: the known terms. -/
import Derived.Test.YtjeaadgfjnmfcaaDrA
import Derived.Test.YtjeaadgfjnmfcaaLess
namespace Go.Proofs.Ytjeaadgfjnmfcaa
open Go.RowKit
open Ff
set_option linter.unusedVariables false

/-- A text without its spaces. -/
def strip (s : Text) : Text := s.filter (fun c => !(((c.toNat : Int)) == 32))
theorem strip_take (s : Text) (k : Nat) (c : UInt8) (h : s[k]? = some c) : strip (s.take (k + 1)) = strip (s.take k) ++ (if ((c.toNat : Int) == 32) then [] else [c]) := by
  unfold strip
  rw [List.take_add_one, h]
  simp only [Option.toList_some, List.filter_append]
  cases h2 : ((c.toNat : Int) == 32) <;> simp [h2]
theorem known_at : ∀ (k : Nat) (h : k < 15), ∃ s : Text, ([.string ⟨#[40, 92, 106, 43, 106, 49, 32, 51, 41]⟩, .string ⟨#[40, 40, 92, 97, 92, 98, 43, 97, 98, 32, 50, 41, 51, 41]⟩, .string ⟨#[40, 64, 102, 110, 63, 110, 49, 42, 110, 40, 102, 45, 110, 49, 41, 53, 41]⟩, .string ⟨#[61, 97, 50, 61, 102, 92, 106, 43, 106, 97, 40, 102, 51, 41]⟩, .string ⟨#[40, 92, 102, 40, 102, 49, 41, 92, 103, 43, 103, 50, 41]⟩, .string ⟨#[40, 92, 102, 40, 102, 40, 102, 49, 41, 41, 92, 106, 42, 106, 50, 41]⟩, .string ⟨#[61, 99, 92, 103, 92, 104, 92, 110, 40, 103, 40, 104, 110, 41, 41, 40, 40, 40, 99, 92, 97, 43, 97, 49, 41, 92, 98, 42, 98, 51, 41, 52, 41]⟩, .string ⟨#[40, 49, 32, 50, 41]⟩, .string ⟨#[43, 49, 92, 97, 97]⟩, .string ⟨#[40, 92, 97, 40, 97, 97, 41, 92, 97, 40, 97, 97, 41, 41]⟩, .string ⟨#[40, 40, 92, 97, 92, 98, 98, 32, 49, 41, 50, 41]⟩, .string ⟨#[61, 107, 92, 97, 92, 98, 97, 40, 40, 107, 55, 41, 40, 64, 102, 103, 57, 32, 49, 41, 41]⟩, .string ⟨#[63, 48, 32, 51, 32, 52]⟩, .string ⟨#[61, 97, 49, 61, 97, 43, 97, 49, 61, 97, 43, 97, 49, 32, 97]⟩, .string ⟨#[40, 40, 64, 109, 97, 92, 98, 63, 97, 98, 43, 49, 40, 40, 109, 45, 97, 49, 41, 98, 41, 51, 41, 52, 41]⟩] : List Value)[k] = .string ⟨s.toArray⟩ ∧ s.length ≤ 40 ∧ 0 < (strip s).length
  | 0, _ => ⟨[40, 92, 106, 43, 106, 49, 32, 51, 41], rfl, by decide, by decide⟩
  | 1, _ => ⟨[40, 40, 92, 97, 92, 98, 43, 97, 98, 32, 50, 41, 51, 41], rfl, by decide, by decide⟩
  | 2, _ => ⟨[40, 64, 102, 110, 63, 110, 49, 42, 110, 40, 102, 45, 110, 49, 41, 53, 41], rfl, by decide, by decide⟩
  | 3, _ => ⟨[61, 97, 50, 61, 102, 92, 106, 43, 106, 97, 40, 102, 51, 41], rfl, by decide, by decide⟩
  | 4, _ => ⟨[40, 92, 102, 40, 102, 49, 41, 92, 103, 43, 103, 50, 41], rfl, by decide, by decide⟩
  | 5, _ => ⟨[40, 92, 102, 40, 102, 40, 102, 49, 41, 41, 92, 106, 42, 106, 50, 41], rfl, by decide, by decide⟩
  | 6, _ => ⟨[61, 99, 92, 103, 92, 104, 92, 110, 40, 103, 40, 104, 110, 41, 41, 40, 40, 40, 99, 92, 97, 43, 97, 49, 41, 92, 98, 42, 98, 51, 41, 52, 41], rfl, by decide, by decide⟩
  | 7, _ => ⟨[40, 49, 32, 50, 41], rfl, by decide, by decide⟩
  | 8, _ => ⟨[43, 49, 92, 97, 97], rfl, by decide, by decide⟩
  | 9, _ => ⟨[40, 92, 97, 40, 97, 97, 41, 92, 97, 40, 97, 97, 41, 41], rfl, by decide, by decide⟩
  | 10, _ => ⟨[40, 40, 92, 97, 92, 98, 98, 32, 49, 41, 50, 41], rfl, by decide, by decide⟩
  | 11, _ => ⟨[61, 107, 92, 97, 92, 98, 97, 40, 40, 107, 55, 41, 40, 64, 102, 103, 57, 32, 49, 41, 41], rfl, by decide, by decide⟩
  | 12, _ => ⟨[63, 48, 32, 51, 32, 52], rfl, by decide, by decide⟩
  | 13, _ => ⟨[61, 97, 49, 61, 97, 43, 97, 49, 61, 97, 43, 97, 49, 32, 97], rfl, by decide, by decide⟩
  | 14, _ => ⟨[40, 40, 64, 109, 97, 92, 98, 63, 97, 98, 43, 49, 40, 40, 109, 45, 97, 49, 41, 98, 41, 51, 41, 52, 41], rfl, by decide, by decide⟩

set_option maxRecDepth 100000 in
set_option maxHeartbeats 1000000 in
theorem known_c (k : Nat) (w : World) (hk : k < 15) :
    Calls Try.prog 66 #[.int .i64 k] w fun e w' => ∃ s : Text, e = .returned (.string ⟨s.toArray⟩) ∧ 0 < s.length ∧ s.length ≤ 40 ∧ Below w.heap.size w w' := by
  have h1 : (k : Int) % 15 = k := by omega
  have h2 : (k : Int).tmod 15 = k := by rw [Int.tmod_eq_emod_of_nonneg (by omega)]; omega
  obtain ⟨s, hs, hl, hp⟩ := known_at k hk
  have HP := Lib.hid hp
  clear hp
  go_enter Try.func66, Try.ntmps66
  go_wp2_with fail
  have hsz := size_data s
  clear hs
  obtain ⟨W1, hW1, hB⟩ : ∃ W1, w.alloc (.cells #[.string ⟨#[40, 92, 106, 43, 106, 49, 32, 51, 41]⟩, .string ⟨#[40, 40, 92, 97, 92, 98, 43, 97, 98, 32, 50, 41, 51, 41]⟩, .string ⟨#[40, 64, 102, 110, 63, 110, 49, 42, 110, 40, 102, 45, 110, 49, 41, 53, 41]⟩, .string ⟨#[61, 97, 50, 61, 102, 92, 106, 43, 106, 97, 40, 102, 51, 41]⟩, .string ⟨#[40, 92, 102, 40, 102, 49, 41, 92, 103, 43, 103, 50, 41]⟩, .string ⟨#[40, 92, 102, 40, 102, 40, 102, 49, 41, 41, 92, 106, 42, 106, 50, 41]⟩, .string ⟨#[61, 99, 92, 103, 92, 104, 92, 110, 40, 103, 40, 104, 110, 41, 41, 40, 40, 40, 99, 92, 97, 43, 97, 49, 41, 92, 98, 42, 98, 51, 41, 52, 41]⟩, .string ⟨#[40, 49, 32, 50, 41]⟩, .string ⟨#[43, 49, 92, 97, 97]⟩, .string ⟨#[40, 92, 97, 40, 97, 97, 41, 92, 97, 40, 97, 97, 41, 41]⟩, .string ⟨#[40, 40, 92, 97, 92, 98, 98, 32, 49, 41, 50, 41]⟩, .string ⟨#[61, 107, 92, 97, 92, 98, 97, 40, 40, 107, 55, 41, 40, 64, 102, 103, 57, 32, 49, 41, 41]⟩, .string ⟨#[63, 48, 32, 51, 32, 52]⟩, .string ⟨#[61, 97, 49, 61, 97, 43, 97, 49, 61, 97, 43, 97, 49, 32, 97]⟩, .string ⟨#[40, 40, 64, 109, 97, 92, 98, 63, 97, 98, 43, 49, 40, 40, 109, 45, 97, 49, 41, 98, 41, 51, 41, 52, 41]⟩] 9) = W1 ∧ Below w.heap.size w W1 := ⟨_, rfl, (Below.refl _ w).alloc (Nat.le_refl _) _⟩
  rw [hW1]
  clear hW1
  go_loopw [5, 17] (fun o i wr => ∃ (k : Nat) (out : Text), k ≤ s.length ∧ i = .int .i64 k ∧ o = .string ⟨out.toArray⟩ ∧ out = strip (s.take k) ∧ out.length ≤ k ∧ wr = W1) (fun _ i _ => s.length - (intOf i).toNat)
  case atStart => exact ⟨0, [], Nat.zero_le _, rfl, rfl, rfl, Nat.le_refl _, rfl⟩
  case round =>
    obtain ⟨k, out, hk, rfl, rfl, ho, hol, rfl⟩ := hrel
    have HO := Lib.hid ho
    clear ho
    by_cases hlt : k < s.length
    · obtain ⟨d, hd⟩ : ∃ d, s[k]? = some d := ⟨_, List.getElem?_eq_getElem hlt⟩
      have hix := index_byte s k d hd (by rw [size_data]; exact hlt)
      cases h3 : ((d.toNat : Int) == 32) with
      | true =>
        have HD := Lib.hid hd
        have H3 := Lib.hid h3
        go_wp2_with fail
        exact ⟨⟨k + 1, out, by omega, by go_num, rfl, by rw [strip_take s k d HD.out, H3.out, HO.out]; simp, by omega, trivial⟩, by simp [intOf]; omega⟩
      | false =>
        have HD := Lib.hid hd
        have H3 := Lib.hid h3
        go_wp2_with fail
        exact ⟨⟨k + 1, out ++ [d], by omega, by go_num, by rw [extract_one s k d HD.out, str_app], by rw [strip_take s k d HD.out, H3.out, HO.out]; simp, by simp; omega, trivial⟩, by simp [intOf]; omega⟩
    · obtain rfl : k = s.length := by omega
      have hk2 : s.take s.length = s := List.take_of_length_le (Nat.le_refl _)
      rw [hk2] at HO
      go_wp2_with fail
      go_ret
      exact ⟨out, rfl, by rw [HO.out]; exact HP.out, by omega, hB⟩
end Go.Proofs.Ytjeaadgfjnmfcaa
