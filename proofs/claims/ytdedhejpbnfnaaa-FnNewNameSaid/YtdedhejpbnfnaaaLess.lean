/- The specification's functions on texts of names: l1Less, l1Free. -/
import Derived.Test.YtdedhejpbnfnaaaStr
import Derived.Test.YtdedhejpbnfnaaaDep
namespace Go.Proofs.Ytdedhejpbnfnaaa
open Go.RowKit
open Ff
set_option linter.unusedVariables false

/-- The names of a text that are not in another one. -/
def lessN (s names : Text) : Text := s.filter (fun c => decide (c ∉ names))

theorem extract_one (s : Text) (k : Nat) (d : UInt8) (hd : s[k]? = some d) : (⟨s.toArray⟩ : ByteArray).extract k (k + 1) = ⟨#[d]⟩ := by
  apply ba_ext
  obtain ⟨h1, h2⟩ := List.getElem?_eq_some_iff.1 hd
  have e : (s.drop k).take 1 = [d] := by rw [List.drop_eq_getElem_cons h1, h2]; rfl
  simp [ByteArray.data_extract, e]
theorem less_take (s names : Text) (k : Nat) (c : UInt8) (h : s[k]? = some c) : (s.take (k + 1)).filter (fun c => decide (c ∉ names)) = (s.take k).filter (fun c => decide (c ∉ names)) ++ (if c ∈ names then [] else [c]) := by
  rw [List.take_add_one, h]
  simp [List.filter_append]
  by_cases h2 : c ∈ names <;> simp [h2]

end Go.Proofs.Ytdedhejpbnfnaaa
