import Derived.Test.YtjfhncfbejephaaGreatDoorMPt
import Derived.Test.YtjfhncfbejephaaGreatDoorMUq
import Derived.Lib.AppendIntMem
/- The program's small functions of putting: rows of names and kids, a part that is made anew. -/
namespace Go.Proofs.YtjfhncfbejephaaGreatDoor
open Go.RowKit
open Ff
set_option linter.unusedVariables false
attribute [local go_sem] Oper.semAt_some

/-- A slice whose first cells hold the values l. -/
def RowAt (w : World) (a : Option Addr) (l : List Value) : Prop := ∀ i x, l[i]? = some x → ∃ g, a = some ⟨g, 0, none⟩ ∧ g < w.heap.size ∧ w.cell? ⟨g, i, none⟩ = some x
theorem SliceOf.row {B : Nat} {w : World} {v : Value} {l : List Value} (h : SliceOf B w v l) : ∃ a, v = .slice a l.length l.length ∧ RowAt w a l := by
  obtain ⟨a, e, h⟩ := h.uni
  exact ⟨a, e, fun i x hx => by obtain ⟨g, h1, h2, h3, h4⟩ := h i x hx; exact ⟨g, h1, h3, h4⟩⟩
theorem RowAt.keep {w w' : World} {a : Option Addr} {l : List Value} (h : RowAt w a l) (hb : Below w.heap.size w w') : RowAt w' a l := fun i x hx => by
  obtain ⟨g, h1, h2, h3⟩ := h i x hx
  exact ⟨g, h1, by have := hb.size; omega, (hb.cell (p := ⟨g, i, none⟩) h2).trans h3⟩
theorem bv_eq (c d : UInt8) : ((c.toNat : Int) == (d.toNat : Int)) = decide (c = d) := by
  by_cases h : c = d
  · subst h; simp
  · have : (c.toNat : Int) ≠ d.toNat := fun e => h (UInt8.toNat_inj.1 (by omega))
    simp [h, this]
theorem findI_take {s : Text} {c : UInt8} (h : c ∉ s) : findI c s = -1 := findI_none h

/-- The last of the kids. -/
def lastK (t : Tm) : Tm := (t.kids.getLast?).getD t
end Go.Proofs.YtjfhncfbejephaaGreatDoor
