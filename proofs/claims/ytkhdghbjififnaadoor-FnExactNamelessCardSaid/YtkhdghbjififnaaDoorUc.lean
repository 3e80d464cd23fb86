import Derived.Test.YtkhdghbjififnaaDoorUb
/- Unique: the program's visit of the kids, where visitors take names. -/
namespace Go.Proofs.YtkhdghbjififnaaDoor
open Go.RowKit
open Ff
set_option linter.unusedVariables false
attribute [local go_sem] Oper.semAt_some

theorem row_keepB {W W' : World} {base b : Nat} {e : TypeId} {size n g cap : Nat} {xs : List Value} (h : W.ownsRow base e size (.slice (some ⟨g, 0, none⟩) n cap) n xs) (hb : W.grownBy W' (some b)) (hg : g ≠ b) : W'.ownsRow base e size (.slice (some ⟨g, 0, none⟩) n cap) n xs :=
  World.ownsRow.kept (row := some b) h hb (.inr (by simp [Value.ownBlock, hg]))
/-- Cells of a row, kept. -/
def RowG (w : World) (a : Option Addr) (b r : Nat) (l : List Value) : Prop := ∀ i x, l[i]? = some x → ∃ g, a = some ⟨g, 0, none⟩ ∧ g ≠ b ∧ g ≠ r ∧ w.cell? ⟨g, i, none⟩ = some x
theorem RowG.kept {w w' : World} {a : Option Addr} {b r : Nat} {l : List Value} (h : RowG w a b r l) (hg : w.grownBy w' (some b)) : RowG w' a b r l := fun i x hx => by
  obtain ⟨g, h1, h2, h3, h4⟩ := h i x hx
  exact ⟨g, h1, h2, h3, hg.cell h4 (by simpa using h2)⟩
theorem RowG.set {w : World} {a : Option Addr} {b r : Nat} {l : List Value} (h : RowG w a b r l) (k : Nat) (v : Value) : RowG (w.setCell ⟨r, k, none⟩ v) a b r l := fun i x hx => by
  obtain ⟨g, h1, h2, h3, h4⟩ := h i x hx
  exact ⟨g, h1, h2, h3, by rw [World.cell?_setCell_other _ _ _ _ (by simp)]; exact h4⟩
theorem Took.set {w : World} {b : Nat} {u : Text} (h : Took w b u) {a : Addr} (ha : b ≠ a.block) (v : Value) : Took (w.setCell a v) b u := by
  obtain ⟨n, m, h1, h2⟩ := h
  exact ⟨n, m, h1.setCell ha v, h2⟩

end Go.Proofs.YtkhdghbjififnaaDoor
