import Derived.Test.YtencgkhofjmdhaaLaT
import Derived.Test.YtencgkhofjmdhaaMPf
/- Laws over drawn terms: FnFunctions. -/
namespace Go.Proofs.Ytencgkhofjmdhaa
open Go.RowKit Go.Shelf
open Ff
set_option linter.unusedVariables false
attribute [local irreducible] Calls

theorem cell_lt {W : World} {p : Addr} {v : Value} (h : W.cell? p = some v) : p.block < W.heap.size := by
  obtain ⟨o, ho, _⟩ := cells_of_cell h
  exact (Array.getElem?_eq_some_iff.1 ho).1
theorem filter_at {α : Type} (f : α → Bool) (l : List α) (k : Nat) (p : α) (h : l[k]? = some p) (hf : f p = true) : (l.filter f)[((l.take k).filter f).length]? = some p := by
  have e : l = l.take k ++ p :: l.drop (k + 1) := by
    have hk : k < l.length := (List.getElem?_eq_some_iff.1 h).1
    have h2 := (List.getElem?_eq_some_iff.1 h).2
    rw [← h2, ← List.drop_eq_getElem_cons hk, List.take_append_drop]
  have e2 : l.filter f = (l.take k).filter f ++ (p :: (l.drop (k + 1)).filter f) := by
    conv => lhs; rw [e]
    rw [List.filter_append, List.filter_cons, if_pos hf]
  rw [e2, List.getElem?_append_right (Nat.le_refl _)]
  simp
theorem filter_next {α : Type} (f : α → Bool) (l : List α) (k : Nat) (p : α) (h : l[k]? = some p) : ((l.take (k + 1)).filter f).length = ((l.take k).filter f).length + (if f p then 1 else 0) := by
  rw [List.take_add_one, h]
  simp only [Option.toList_some, List.filter_append, List.length_append, List.filter_cons, List.filter_nil]
  split <;> simp
/-- What a part's text begins with. -/
theorem part_head {p : Tm} (hg : p.good) : ∃ c r, textN p = c :: r ∧ ((isFun p = true ∧ c.toNat = 92) ∨ (isFun p = true ∧ c.toNat = 64) ∨ (isFun p = false ∧ c.toNat ≠ 92 ∧ c.toNat ≠ 64)) := by
  cases p with
  | num n =>
    by_cases h : n < 10
    · exact ⟨_, _, by simp only [textN, numN, decN, if_pos h]; rfl, .inr (.inr ⟨rfl, by rw [dig_toN h]; omega, by rw [dig_toN h]; omega⟩)⟩
    · exact ⟨_, _, by simp only [textN, numN, if_neg h]; rfl, .inr (.inr ⟨rfl, by decide, by decide⟩)⟩
  | var c =>
    have h : 97 ≤ c.toNat ∧ c.toNat ≤ 112 := by simpa [Tm.good, isNam] using hg
    exact ⟨c, [], rfl, .inr (.inr ⟨rfl, by omega, by omega⟩)⟩
  | fn c b => exact ⟨_, _, rfl, .inl ⟨rfl, rfl⟩⟩
  | fix f c b => exact ⟨_, _, rfl, .inr (.inl ⟨rfl, rfl⟩)⟩
  | app f a => exact ⟨_, _, rfl, .inr (.inr ⟨rfl, by decide, by decide⟩)⟩
  | bind c v b => exact ⟨_, _, rfl, .inr (.inr ⟨rfl, by decide, by decide⟩)⟩
  | op s l r =>
    have h : s.toNat = 43 ∨ s.toNat = 45 ∨ s.toNat = 42 := by rcases hg.1 with e | e | e <;> subst e <;> decide
    exact ⟨s, _, rfl, .inr (.inr ⟨rfl, by omega, by omega⟩)⟩
  | sel a b c => exact ⟨_, _, rfl, .inr (.inr ⟨rfl, by decide, by decide⟩)⟩
theorem fun_val {p : Tm} (h : isFun p = true) : p.isVal = true := by cases p <;> first | rfl | cases h
theorem kFunsI (s : Text) (hs : s.length ≤ 100000) (w : World) : Calls Try.prog 9 #[.string ⟨s.toArray⟩] w fun e w' => ∃ v, e = .returned (.tuple #[v, .bool (readS s).isSome]) ∧ Strs w' w.heap.size v (funsO (readS s)) ∧ Below w.heap.size w w' := by rw [readS_eq]; exact iFunctionsIn_c s w (by omega)
end Go.Proofs.Ytencgkhofjmdhaa
