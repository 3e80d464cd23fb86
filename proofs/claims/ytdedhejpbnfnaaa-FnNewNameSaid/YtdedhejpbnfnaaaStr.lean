/- The specification's functions on texts of names: l14Find. -/
import Derived.Test.YtdedhejpbnfnaaaSpB
import Derived.Outline
namespace Go.Proofs.Ytdedhejpbnfnaaa
open Go.RowKit
open Ff
set_option linter.unusedVariables false

/-- Where a byte stands first in a text. -/
def findI (c : UInt8) : Text → Int
  | [] => -1
  | a :: s => if a = c then 0 else (if findI c s < 0 then -1 else findI c s + 1)
theorem findI_mem (c : UInt8) (s : Text) : findI c s < 0 ↔ c ∉ s := by
  induction s with
  | nil => simp [findI]
  | cons a s ih =>
    unfold findI
    by_cases h : a = c
    · simp [h]
    · rw [if_neg h]
      by_cases h2 : findI c s < 0
      · rw [if_pos h2]; simp only [List.mem_cons, not_or]; exact ⟨fun _ => ⟨fun e => h e.symm, ih.1 h2⟩, fun _ => by decide⟩
      · rw [if_neg h2]; simp only [List.mem_cons, not_or]; exact ⟨fun h3 => by omega, fun h3 => absurd (ih.2 h3.2) h2⟩
theorem findI_at {c : UInt8} {s : Text} {k : Nat} (hk : s[k]? = some c) (hn : c ∉ s.take k) : findI c s = k := by
  induction s generalizing k with
  | nil => simp at hk
  | cons a s ih =>
    unfold findI
    cases k with
    | zero => simp at hk; simp [hk]
    | succ k =>
      simp only [List.getElem?_cons_succ] at hk
      simp only [List.take_succ_cons, List.mem_cons, not_or] at hn
      rw [if_neg (fun e => hn.1 e.symm), ih hk hn.2, if_neg (by omega)]
      omega
theorem findI_none {c : UInt8} {s : Text} (h : c ∉ s) : findI c s = -1 := by
  induction s with
  | nil => rfl
  | cons a s ih =>
    simp only [List.mem_cons, not_or] at h
    unfold findI
    rw [if_neg (fun e => h.1 e.symm), ih h.2]
    rfl

theorem byte_eq (s : Text) (k : Nat) (c d : UInt8) (hd : s[k]? = some d) (h2 : k < (⟨s.toArray⟩ : ByteArray).size) : (((((⟨s.toArray⟩ : ByteArray)[k]'h2).toNat : Nat) : Int) == ((c.toNat : Nat) : Int)) = decide (d = c) := by
  rw [index_byte s k d hd h2]
  by_cases h : d = c
  · simp [h]
  · have h3 : d.toNat ≠ c.toNat := fun e => h (UInt8.toNat_inj.1 e)
    simp [h]
    omega
theorem size_data (s : Text) : (⟨s.toArray⟩ : ByteArray).size = s.length := by simp [ByteArray.size]

set_option maxHeartbeats 1000000 in
theorem find_c (s : Text) (c : UInt8) (w : World) (hl : s.length ≤ 100000) :
    Calls Try.prog 15 #[.string ⟨s.toArray⟩, .int .u8 (c.toNat : Int)] w fun e w' => e = .returned (.int .i64 (findI c s)) ∧ w' = w := by
  go_enter Try.func15, Try.ntmps15
  go_wp2_with fail
  go_loopw [5] (fun i wr => ∃ k : Nat, k ≤ s.length ∧ i = .int .i64 k ∧ c ∉ s.take k ∧ wr = w) (fun i _ => s.length - (intOf i).toNat)
  case atStart => exact ⟨0, Nat.zero_le _, rfl, by simp, rfl⟩
  case round =>
    obtain ⟨k, hk, rfl, hn, rfl⟩ := hrel
    have HN := Lib.hid hn
    clear hn
    by_cases hlt : k < s.length
    · obtain ⟨d, hd⟩ : ∃ d, s[k]? = some d := ⟨_, List.getElem?_eq_getElem hlt⟩
      go_wp2_with fail
      · rename_i hc
        rw [byte_eq s k c d hd (by rw [size_data]; exact hlt), decide_eq_true_iff] at hc
        subst hc
        go_ret
        exact ⟨by rw [findI_at hd HN.out]; rfl, rfl⟩
      · rename_i hc
        rw [byte_eq s k c d hd (by rw [size_data]; exact hlt), decide_eq_false_iff_not] at hc
        refine ⟨⟨k + 1, by omega, by go_num, ?_, trivial⟩, by simp [intOf]; omega⟩
        rw [List.take_add_one, hd]
        simp only [Option.toList_some, List.mem_append, List.mem_singleton, not_or]
        exact ⟨HN.out, fun e => hc e.symm⟩
    · have hk2 : s.take k = s := List.take_of_length_le (by omega)
      rw [hk2] at HN
      go_wp2_with fail
      go_ret
      exact ⟨by rw [findI_none HN.out]; rfl, rfl⟩

/-- The sixteen names. -/
def letters : Text := [97, 98, 99, 100, 101, 102, 103, 104, 105, 106, 107, 108, 109, 110, 111, 112]
/-- The names of a text in order, each once. -/
def sortN (s : Text) : Text := letters.filter (fun c => decide (c ∈ s))
theorem letters_fin : ∀ k : Fin 16, letters[k.1]? = some (UInt8.ofNat (97 + k.1)) ∧ (UInt8.ofNat (97 + k.1)).toNat = 97 + k.1 := by decide
theorem letters_at (k : Nat) (h : k < 16) : ∃ c : UInt8, letters[k]? = some c ∧ c.toNat = 97 + k := ⟨_, letters_fin ⟨k, h⟩⟩
theorem filter_take (s : Text) (k : Nat) (c : UInt8) (h : letters[k]? = some c) : (letters.take (k + 1)).filter (fun c => decide (c ∈ s)) = (letters.take k).filter (fun c => decide (c ∈ s)) ++ (if c ∈ s then [c] else []) := by
  rw [List.take_add_one, h]
  simp [List.filter_append]
  by_cases h2 : c ∈ s <;> simp [h2]

end Go.Proofs.Ytdedhejpbnfnaaa
