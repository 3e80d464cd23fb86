/- The model's l1Each: all parts of a term, each ahead of those within it. -/
import Derived.Test.YtdedhejpbnfnaaaDep
import Derived.Maps.AppendAt
namespace Go.Proofs.Ytdedhejpbnfnaaa
open Go.RowKit
open Ff
set_option linter.unusedVariables false

/-- All parts, each ahead of those within it. -/
def parts : Tm → List Tm
  | .num n => [.num n]
  | .var c => [.var c]
  | .fn c b => .fn c b :: parts b
  | .fix f c b => .fix f c b :: parts b
  | .app f a => .app f a :: (parts f ++ parts a)
  | .bind c v b => .bind c v b :: (parts v ++ parts b)
  | .op s l r => .op s l r :: (parts l ++ parts r)
  | .sel a b c => .sel a b c :: (parts a ++ (parts b ++ parts c))
theorem parts_kids (t : Tm) : parts t = t :: t.kids.flatMap parts := by cases t <;> simp [parts, Tm.kids]
/-- The parts of the first k kids, behind the term itself. -/
def before (t : Tm) (k : Nat) : List Tm := t :: (t.kids.take k).flatMap parts
theorem before_succ (t : Tm) (k : Nat) (s : Tm) (h : t.kids[k]? = some s) : before t (k + 1) = before t k ++ parts s := by
  unfold before
  rw [List.take_add_one, h]
  simp
theorem before_all (t : Tm) : before t t.kids.length = parts t := by rw [parts_kids]; simp [before]
theorem before_le (t : Tm) (k : Nat) : (before t k).length ≤ (parts t).length := by
  have e : parts t = before t k ++ (t.kids.drop k).flatMap parts := by
    rw [parts_kids]
    unfold before
    rw [List.cons_append, ← List.flatMap_append, List.take_append_drop]
  rw [e]
  simp
theorem parts_kid_le {t s : Tm} (h : s ∈ t.kids) : (parts s).length ≤ (parts t).length := by
  rw [parts_kids t]
  obtain ⟨a, b, e⟩ := List.append_of_mem h
  rw [e]
  simp
  omega
/-- The cells of terms are one cell each. -/
theorem cells_one {xs : List Value} {l : List Tm} (hl : xs.length = l.length * 4) (h : ∀ i p, l[i]? = some p → Junk (four (fun j => (xs[j]?).getD undef) i)) : ∀ u ∈ xs, u.oneCell' = true := by
  intro u hu
  obtain ⟨j, hj, rfl⟩ := List.getElem_of_mem hu
  have hi : j / 4 < l.length := by omega
  obtain ⟨k, n, st, a, ll, c, e⟩ := h (j / 4) _ (List.getElem?_eq_getElem hi)
  simp only [four, Value.agg.injEq, Array.mk.injEq, List.cons.injEq, and_true] at e
  obtain ⟨e0, e1, e2, e3⟩ := e
  have hx : xs[j]? = some xs[j] := List.getElem?_eq_getElem hj
  have h4 : j = 4 * (j / 4) ∨ j = 4 * (j / 4) + 1 ∨ j = 4 * (j / 4) + 2 ∨ j = 4 * (j / 4) + 3 := by omega
  have key : ∀ v : Value, (xs[j]?).getD undef = v → xs[j] = v := fun v hv => by rw [hx] at hv; exact hv
  rcases h4 with h4 | h4 | h4 | h4
  · rw [← h4] at e0; rw [key _ e0]; rfl
  · rw [← h4] at e1; rw [key _ e1]; rfl
  · rw [← h4] at e2; rw [key _ e2]; rfl
  · rw [← h4] at e3; rw [key _ e3]; rfl
theorem own_shape {W : World} {base : Nat} {e : TypeId} {size : Nat} {v : Value} {n : Nat} {xs : List Value} (h : W.ownsRow base e size v n xs) (hv : v ≠ .slice none 0 0) : ∃ g cap, v = .slice (some ⟨g, 0, none⟩) n cap := by
  obtain ⟨_, ⟨h1, _⟩ | ⟨g, cap, cur, h1, _⟩⟩ := h
  · exact absurd h1 hv
  · exact ⟨g, cap, h1⟩
end Go.Proofs.Ytdedhejpbnfnaaa
