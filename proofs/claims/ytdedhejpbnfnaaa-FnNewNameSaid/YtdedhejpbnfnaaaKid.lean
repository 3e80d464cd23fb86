/- The model's reader of a text: the terms behind a sign. -/
import Derived.Test.YtdedhejpbnfnaaaRep
import Derived.Maps.AppendAt
import Derived.Deep.DeepMust
namespace Go.Proofs.Ytdedhejpbnfnaaa
open Go.RowKit
open Ff
set_option linter.unusedVariables false

theorem four_new (w : World) (c0 c1 c2 c3 : Value) (t : TypeId) : ∀ j u, [c0, c1, c2, c3][j]? = some u → (w.alloc (.cells #[c0, c1, c2, c3] t)).cell? ((⟨w.heap.size, 0, none⟩ : Addr).add j) = some u := by
  intro j u hj
  have h : (w.alloc (.cells [c0, c1, c2, c3].toArray t)).cell? ⟨w.heap.size, j, none⟩ = [c0, c1, c2, c3][j]? := by
    show (match (w.heap.push _)[w.heap.size]? with | some (.cells c _ _) => if (none : Option Nat).isSome then none else c[j]? | _ => none) = _
    simp
  have e : ((⟨w.heap.size, 0, none⟩ : Addr).add j) = ⟨w.heap.size, j, none⟩ := by
    unfold Addr.add
    split
    · rename_i h0; subst h0; rfl
    · simp
  rw [e, h, hj]

theorem Start.lt {b : Nat} {T : Text} {s : Option Text} {d : Int} {w : World} (h : Start b T d w s) : b < w.heap.size := by
  match s, h with
  | some s, ⟨a, ha, hd, hs⟩ => exact hs.lt
  | none, ⟨a, d, ha, hs⟩ => exact hs.lt
theorem own_ne {W : World} {base : Nat} {e : TypeId} {size : Nat} {v : Value} {n b : Nat} {xs : List Value} (h : W.ownsRow base e size v n xs) (hb : b < base) : v.ownBlock = none ∨ v.ownBlock ≠ some b :=
  .inr fun e => by have := (h.lt b e).1; omega
theorem own_ne_nil {W : World} {base : Nat} {e : TypeId} {size : Nat} {v : Value} {n : Nat} {xs : List Value} (h : W.ownsRow base e size v n xs) (hb : v ≠ .slice none 0 0) : ∃ g, v.ownBlock = some g ∧ base ≤ g ∧ g < W.heap.size := by
  obtain ⟨_, ⟨h1, _⟩ | ⟨g, cap, cur, rfl, h1, h2, _⟩⟩ := h
  · exact absurd h1 hb
  · exact ⟨g, rfl, h1, (Array.getElem?_eq_some_iff.1 h2).1⟩
theorem grown_row {w W1 W2 : World} {b : Nat} {o : Obj} {row : Option Nat} (h : w.grownBy W1 (some b)) (hg : (W1.alloc o).grownBy W2 row) (hrow : ∀ g, row = some g → w.heap.size ≤ g) : w.grownBy W2 (some b) := by
  have h1 := grownBy_alloc h o
  exact ⟨hg.os.trans h1.os, hg.tape.trans h1.tape, hg.output.trans h1.output, Nat.le_trans h1.size hg.size, fun k hk hn => (hg.block k (Nat.lt_of_lt_of_le hk h1.size) (fun e => by have := hrow k e.symm; omega)).trans (h1.block k hk hn)⟩
end Go.Proofs.Ytdedhejpbnfnaaa
