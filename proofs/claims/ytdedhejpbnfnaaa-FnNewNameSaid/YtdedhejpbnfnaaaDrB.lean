/- The model's drawn inputs: the known terms. -/
import Derived.Test.YtdedhejpbnfnaaaDrA
import Derived.Test.YtdedhejpbnfnaaaLess
namespace Go.Proofs.Ytdedhejpbnfnaaa
open Go.RowKit
open Ff
set_option linter.unusedVariables false

/-- A text without its spaces. -/
def strip (s : Text) : Text := s.filter (fun c => !(((c.toNat : Int)) == 32))
theorem strip_take (s : Text) (k : Nat) (c : UInt8) (h : s[k]? = some c) : strip (s.take (k + 1)) = strip (s.take k) ++ (if ((c.toNat : Int) == 32) then [] else [c]) := by
  unfold strip
  rw [List.take_add_one, h]
  simp only [Option.toList_some, List.filter_append]
  cases h2 : ((c.toNat : Int) == 32) <;> simp [h2]
theorem known_at : ∀ (k : Nat) (h : k < 15), ∃ s : Text, ([.string ⟨#[40, 92, 106, 43, 106, 49, 32, 51, 41]⟩, .string ⟨#[40, 40, 92, 97, 92, 98, 43, 97, 98, 32, 50, 41, 51, 41]⟩, .string ⟨#[40, 64, 102, 110, 63, 110, 49, 42, 110, 40, 102, 45, 110, 49, 41, 53, 41]⟩, .string ⟨#[61, 97, 50, 61, 102, 92, 106, 43, 106, 97, 40, 102, 51, 41]⟩, .string ⟨#[40, 92, 102, 40, 102, 49, 41, 92, 103, 43, 103, 50, 41]⟩, .string ⟨#[40, 92, 102, 40, 102, 40, 102, 49, 41, 41, 92, 106, 42, 106, 50, 41]⟩, .string ⟨#[61, 99, 92, 103, 92, 104, 92, 110, 40, 103, 40, 104, 110, 41, 41, 40, 40, 40, 99, 92, 97, 43, 97, 49, 41, 92, 98, 42, 98, 51, 41, 52, 41]⟩, .string ⟨#[40, 49, 32, 50, 41]⟩, .string ⟨#[43, 49, 92, 97, 97]⟩, .string ⟨#[40, 92, 97, 40, 97, 97, 41, 92, 97, 40, 97, 97, 41, 41]⟩, .string ⟨#[40, 40, 92, 97, 92, 98, 98, 32, 49, 41, 50, 41]⟩, .string ⟨#[61, 107, 92, 97, 92, 98, 97, 40, 40, 107, 55, 41, 40, 64, 102, 103, 57, 32, 49, 41, 41]⟩, .string ⟨#[63, 48, 32, 51, 32, 52]⟩, .string ⟨#[61, 97, 49, 61, 97, 43, 97, 49, 61, 97, 43, 97, 49, 32, 97]⟩, .string ⟨#[40, 40, 64, 109, 97, 92, 98, 63, 97, 98, 43, 49, 40, 40, 109, 45, 97, 49, 41, 98, 41, 51, 41, 52, 41]⟩] : List Value)[k] = .string ⟨s.toArray⟩ ∧ s.length ≤ 40 ∧ 0 < (strip s).length
  | 0, _ => ⟨[40, 92, 106, 43, 106, 49, 32, 51, 41], rfl, by decide, by decide⟩
  | 1, _ => ⟨[40, 40, 92, 97, 92, 98, 43, 97, 98, 32, 50, 41, 51, 41], rfl, by decide, by decide⟩
  | 2, _ => ⟨[40, 64, 102, 110, 63, 110, 49, 42, 110, 40, 102, 45, 110, 49, 41, 53, 41], rfl, by decide, by decide⟩
  | 3, _ => ⟨[61, 97, 50, 61, 102, 92, 106, 43, 106, 97, 40, 102, 51, 41], rfl, by decide, by decide⟩
  | 4, _ => ⟨[40, 92, 102, 40, 102, 49, 41, 92, 103, 43, 103, 50, 41], rfl, by decide, by decide⟩
  | 5, _ => ⟨[40, 92, 102, 40, 102, 40, 102, 49, 41, 41, 92, 106, 42, 106, 50, 41], rfl, by decide, by decide⟩
  | 6, _ => ⟨[61, 99, 92, 103, 92, 104, 92, 110, 40, 103, 40, 104, 110, 41, 41, 40, 40, 40, 99, 92, 97, 43, 97, 49, 41, 92, 98, 42, 98, 51, 41, 52, 41], rfl, by decide, by decide⟩
  | 7, _ => ⟨[40, 49, 32, 50, 41], rfl, by decide, by decide⟩
  | 8, _ => ⟨[43, 49, 92, 97, 97], rfl, by decide, by decide⟩
  | 9, _ => ⟨[40, 92, 97, 40, 97, 97, 41, 92, 97, 40, 97, 97, 41, 41], rfl, by decide, by decide⟩
  | 10, _ => ⟨[40, 40, 92, 97, 92, 98, 98, 32, 49, 41, 50, 41], rfl, by decide, by decide⟩
  | 11, _ => ⟨[61, 107, 92, 97, 92, 98, 97, 40, 40, 107, 55, 41, 40, 64, 102, 103, 57, 32, 49, 41, 41], rfl, by decide, by decide⟩
  | 12, _ => ⟨[63, 48, 32, 51, 32, 52], rfl, by decide, by decide⟩
  | 13, _ => ⟨[61, 97, 49, 61, 97, 43, 97, 49, 61, 97, 43, 97, 49, 32, 97], rfl, by decide, by decide⟩
  | 14, _ => ⟨[40, 40, 64, 109, 97, 92, 98, 63, 97, 98, 43, 49, 40, 40, 109, 45, 97, 49, 41, 98, 41, 51, 41, 52, 41], rfl, by decide, by decide⟩

end Go.Proofs.Ytdedhejpbnfnaaa
