/- The model's reader of a text: what stands behind the first byte of a term: a long number, a name, and what is none. -/
import Derived.Test.YtdedhejpbnfnaaaWiA
namespace Go.Proofs.Ytdedhejpbnfnaaa
open Go.RowKit
open Ff
set_option linter.unusedVariables false

theorem long_bad {T : Text} {a a1 a2 : Nat} {x y : UInt8} {bad1 : Bool} (h1 : (T[a]? = some x ∧ a1 = a + 1 ∧ bad1 = false) ∨ (a = T.length ∧ x = 0 ∧ a1 = a ∧ bad1 = true)) (h2 : (T[a1]? = some y ∧ a2 = a1 + 1 ∧ true = bad1) ∨ (a1 = T.length ∧ y = 0 ∧ a2 = a1 ∧ true = true)) : pLong (T.drop a) = none := by
  rcases h1 with ⟨hx, rfl, rfl⟩ | ⟨rfl, _, _, _⟩
  · rcases h2 with ⟨_, _, h⟩ | ⟨he, _, _, _⟩
    · cases h
    · rw [drop_head hx, he]; simp [pLong, next1]
  · simp [pLong, next1]
theorem long_good {T : Text} {a a1 a2 : Nat} {x y : UInt8} {bad1 : Bool} (h1 : (T[a]? = some x ∧ a1 = a + 1 ∧ bad1 = false) ∨ (a = T.length ∧ x = 0 ∧ a1 = a ∧ bad1 = true)) (h2 : (T[a1]? = some y ∧ a2 = a1 + 1 ∧ false = bad1) ∨ (a1 = T.length ∧ y = 0 ∧ a2 = a1 ∧ false = true)) :
    True ∧ pLong (T.drop a) = (if isDig x = true ∧ isDig y = true ∧ x.toNat ≠ 48 then some (Tm.num (10 * (x.toNat - 48) + (y.toNat - 48)), T.drop a2) else none) ∧ bad1 = false := by
  rcases h2 with ⟨hy, rfl, h⟩ | ⟨_, _, _, h⟩
  · rcases h1 with ⟨hx, rfl, rfl⟩ | ⟨_, _, _, hb⟩
    · refine ⟨trivial, ?_, rfl⟩
      rw [drop_head hx, drop_head hy]
      simp only [pLong, next1, Option.bind_some]
    · rw [hb] at h; cases h
  · cases h
theorem long_first {x : UInt8} (h : isDig x = true) (h2 : x.toNat ≠ 48) : (decide (49 ≤ (x.toNat : Int)) && decide ((x.toNat : Int) ≤ 57)) = true := by
  obtain ⟨h3, h4⟩ := dig_bd h
  rw [Bool.and_eq_true]
  constructor <;> apply decide_eq_true <;> omega
theorem long_first2 {x : UInt8} (h : (decide (49 ≤ (x.toNat : Int)) && decide ((x.toNat : Int) ≤ 57)) = true) : isDig x = true ∧ 49 ≤ (x.toNat : Int) ∧ (x.toNat : Int) ≤ 57 ∧ x.toNat ≠ 48 := by
  rw [Bool.and_eq_true] at h
  have h1 := of_decide_eq_true h.1
  have h2 := of_decide_eq_true h.2
  refine ⟨?_, h1, h2, by omega⟩
  simp only [isDig, Bool.and_eq_true, decide_eq_true_eq]
  omega
end Go.Proofs.Ytdedhejpbnfnaaa
