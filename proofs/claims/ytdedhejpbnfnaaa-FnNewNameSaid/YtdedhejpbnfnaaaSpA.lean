/- The model's reader of a text: what it holds in memory, and its smallest functions. -/
import Derived.Test.YtdedhejpbnfnaaaRows
import Derived.Test.YtdedhejpbnfnaaaTm
import Derived.Test.YtdedhejpbnfnaaaRdA
import Derived.BigQuiet
import Derived.Deep.QuietTactic
import Derived.Deep.AppendLies
import Derived.Outline
namespace Go.Proofs.Ytdedhejpbnfnaaa
open Go.RowKit
open Ff
set_option linter.unusedVariables false

theorem byte_lt (c : UInt8) : (c.toNat : Int) < 256 := by have := c.toNat_lt; omega
theorem nam_eq (c : UInt8) : isNam c = (decide (97 ≤ (c.toNat : Int)) && decide ((c.toNat : Int) ≤ 112)) := by simp only [isNam]; congr 1 <;> apply decide_eq_decide.2 <;> omega
theorem dig_eq (c : UInt8) : isDig c = (decide (48 ≤ (c.toNat : Int)) && decide ((c.toNat : Int) ≤ 57)) := by simp only [isDig]; congr 1 <;> apply decide_eq_decide.2 <;> omega
/-- The reader of the model in block b: the whole text, where it stands, whether it is bad, how deep it is. -/
structure SR (b : Nat) (T : Text) (at_ : Int) (bad : Bool) (deep : Int) (w : World) : Prop where
  c0 : w.cell? ⟨b, 0, none⟩ = some (.string ⟨T.toArray⟩)
  c1 : w.cell? ⟨b, 1, none⟩ = some (.int .i64 at_)
  c2 : w.cell? ⟨b, 2, none⟩ = some (.bool bad)
  c3 : w.cell? ⟨b, 3, none⟩ = some (.int .i64 deep)
  c4 : w.cell? ⟨b, 4, none⟩ = some (.bool false)
  c5 : w.cell? ⟨b, 5, none⟩ = some (.bool false)
  f1 : w.frozen? ⟨b, 1, none⟩ = false
  f2 : w.frozen? ⟨b, 2, none⟩ = false
  f3 : w.frozen? ⟨b, 3, none⟩ = false
theorem SR.lt {b : Nat} {T : Text} {at_ : Int} {bad : Bool} {deep : Int} {w : World} (h : SR b T at_ bad deep w) : b < w.heap.size := by
  have := h.c0
  simp only [World.cell?] at this
  rcases Nat.lt_or_ge b w.heap.size with h1 | h1
  · exact h1
  · simp [Array.getElem?_eq_none h1] at this
/-- It has moved on; nothing else that was there has turned. -/
structure SP (b : Nat) (T : Text) (at_ : Int) (bad : Bool) (deep : Int) (w w' : World) : Prop where
  sr : SR b T at_ bad deep w'
  rest : w.grownBy w' (some b)
theorem SP.then {b : Nat} {T : Text} {a1 a2 : Int} {b1 b2 : Bool} {d1 d2 : Int} {w w1 w2 : World} (h : SP b T a1 b1 d1 w w1) (k : SP b T a2 b2 d2 w1 w2) : SP b T a2 b2 d2 w w2 := ⟨k.sr, grownBy_trans h.rest k.rest⟩
theorem grownBy_drewN {w w' : World} {row : Option Nat} (h : w.grownBy w' row) (n : Nat) : w.grownBy (w'.drewN n) row := ⟨h.os, h.tape, h.output, h.size, h.block⟩

theorem SR.drewN {b : Nat} {T : Text} {a : Int} {bad : Bool} {d : Int} {w : World} (h : SR b T a bad d w) (n : Nat) : SR b T a bad d (w.drewN n) := ⟨h.c0, h.c1, h.c2, h.c3, h.c4, h.c5, h.f1, h.f2, h.f3⟩
theorem SR.setAt {b : Nat} {T : Text} {a : Int} {bad : Bool} {d : Int} {w : World} (h : SR b T a bad d w) (a' : Int) : SR b T a' bad d (w.setCell ⟨b, 1, none⟩ (.int .i64 a')) := by
  constructor <;> first | (rw [World.frozen?_setCell]; first | exact h.f1 | exact h.f2 | exact h.f3) | exact World.cell?_setCell_same _ _ _ h.c1 | (rw [World.cell?_setCell_other _ _ _ _ (by simp)]; first | exact h.c0 | exact h.c2 | exact h.c3 | exact h.c4 | exact h.c5)
theorem SR.setBad {b : Nat} {T : Text} {a : Int} {bad : Bool} {d : Int} {w : World} (h : SR b T a bad d w) (bad' : Bool) : SR b T a bad' d (w.setCell ⟨b, 2, none⟩ (.bool bad')) := by
  constructor <;> first | (rw [World.frozen?_setCell]; first | exact h.f1 | exact h.f2 | exact h.f3) | exact World.cell?_setCell_same _ _ _ h.c2 | (rw [World.cell?_setCell_other _ _ _ _ (by simp)]; first | exact h.c0 | exact h.c1 | exact h.c3 | exact h.c4 | exact h.c5)
theorem SR.setDeep {b : Nat} {T : Text} {a : Int} {bad : Bool} {d : Int} {w : World} (h : SR b T a bad d w) (d' : Int) : SR b T a bad d' (w.setCell ⟨b, 3, none⟩ (.int .i64 d')) := by
  constructor <;> first | (rw [World.frozen?_setCell]; first | exact h.f1 | exact h.f2 | exact h.f3) | exact World.cell?_setCell_same _ _ _ h.c3 | (rw [World.cell?_setCell_other _ _ _ _ (by simp)]; first | exact h.c0 | exact h.c1 | exact h.c2 | exact h.c4 | exact h.c5)
theorem index_byte (T : Text) (i : Nat) (c : UInt8) (h : T[i]? = some c) (h2 : i < (⟨T.toArray⟩ : ByteArray).size) : (⟨T.toArray⟩ : ByteArray)[i] = c := by
  obtain ⟨h3, h4⟩ := List.getElem?_eq_some_iff.1 h
  simpa [ByteArray.getElem_eq_getElem_data] using h4

/-- What a read of a byte comes to, whatever the reader's state. -/
def NextPost (b : Nat) (T : Text) (a : Nat) (bad : Bool) (deep : Int) (w : World) (e : Ending) (w' : World) : Prop :=
  ∃ (c : UInt8) (a' : Nat) (bad' : Bool), e = .returned (.int .u8 (c.toNat : Int)) ∧ SP b T (a' : Int) bad' deep w w' ∧ a' ≤ T.length ∧ ((T[a]? = some c ∧ a' = a + 1 ∧ bad' = bad) ∨ (a = T.length ∧ c = 0 ∧ a' = a ∧ bad' = true))
end Go.Proofs.Ytdedhejpbnfnaaa
