import Derived.Test.YtojbffiffcfblaaPuG
import Derived.Deep.RegionHeld3
/- The program's putting: into a term. Written by genPh.py. -/
namespace Go.Proofs.Ytojbffiffcfblaa
open Go.RowKit
open Ff
set_option linter.unusedVariables false
attribute [local go_sem] Oper.semAt_some

/-- Where a box of a putting lies, and what is below. -/
abbrev BoxS (w W1 : World) (x : UInt8) (un : TypeId) (uv : Value) (b : Nat) (w' : World) : Prop := w'.cell? ⟨w.heap.size, 0, none⟩ = some (bv x) ∧ w'.cell? ⟨w.heap.size, 1, none⟩ = some (.iface un uv) ∧ w'.cell? ⟨w.heap.size, 2, none⟩ = some (.map (some b)) ∧ Below W1.heap.size W1 w'
theorem BoxS.keep {w W1 : World} {x : UInt8} {un : TypeId} {uv : Value} {b : Nat} {W W' : World} (h : BoxS w W1 x un uv b W) (hl : w.heap.size < W1.heap.size) (hb : Below W.heap.size W W') : BoxS w W1 x un uv b W' := by
  obtain ⟨h0, h1, h2, h3⟩ := h
  have hw : w.heap.size < W.heap.size := by have := h3.size; omega
  exact ⟨(hb.cell (p := ⟨w.heap.size, 0, none⟩) hw).trans h0, (hb.cell (p := ⟨w.heap.size, 1, none⟩) hw).trans h1, (hb.cell (p := ⟨w.heap.size, 2, none⟩) hw).trans h2, h3.trans (hb.mono h3.size)⟩
theorem var_shape (t : Tm) : ∃ z : Int, varV t = .agg #[.int .u8 z] := by
  cases t <;> exact ⟨_, rfl⟩
/-- The kids of a part that binds the name itself. -/
def rsB (n : Nat) (x : UInt8) (u t : Tm) : List (Tm × Bool) := t.kids.dropLast.map (subS n x u) ++ [(lastK t, true)]
theorem rsB_len (n : Nat) (x : UInt8) (u t : Tm) (h : t.kids ≠ []) : (rsB n x u t).length = t.kids.length := by
  have := List.length_pos_iff.2 h
  simp [rsB]; omega
theorem rsB_at (n : Nat) (x : UInt8) (u t : Tm) (h : t.kids ≠ []) {k : Nat} {s : Tm} {q : Tm × Bool} (hs : t.kids[k]? = some s) (hq : (rsB n x u t)[k]? = some q) : (k + 1 = t.kids.length ∧ q = (s, true)) ∨ (k + 1 ≠ t.kids.length ∧ q = subS n x u s) := by
  have hl := List.length_pos_iff.2 h
  have hk := (List.getElem?_eq_some_iff.1 hs).1
  unfold rsB at hq
  by_cases e : k + 1 = t.kids.length
  · refine .inl ⟨e, ?_⟩
    rw [List.getElem?_append_right (by simp; omega)] at hq
    simp only [List.length_map, List.length_dropLast, show k - (t.kids.length - 1) = 0 by omega, List.getElem?_cons_zero, Option.some.injEq] at hq
    rw [← hq]
    unfold lastK
    rw [List.getLast?_eq_getElem?, show t.kids.length - 1 = k by omega, hs]; rfl
  · refine .inr ⟨e, ?_⟩
    rw [List.getElem?_append_left (by simp; omega)] at hq
    simp only [List.getElem?_map, List.getElem?_dropLast] at hq
    rw [if_pos (by omega), hs] at hq
    simpa using hq.symm
end Go.Proofs.Ytojbffiffcfblaa
