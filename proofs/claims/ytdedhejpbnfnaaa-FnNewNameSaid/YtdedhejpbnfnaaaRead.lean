/- The program's readTerm: what a text is as a term, or none. -/
import Derived.Test.YtdedhejpbnfnaaaRdC
import Derived.Test.YtdedhejpbnfnaaaDpB
import Derived.Recover
import Derived.Outline
namespace Go.Proofs.Ytdedhejpbnfnaaa
open Go.RowKit
open Ff

theorem below_of_grown {a b : World} {g B : Nat} (h : a.grownBy b (some g)) (hB : B ≤ g) (hs : B ≤ a.heap.size) : Below B a b :=
  ⟨h.os, h.tape, h.output, h.size, fun k hk => h.block k (by omega) (fun e => by injection e; omega)⟩
theorem after_depth {w w1 w2 : World} {n : TypeId} {v : Value} (c1 : w1.cell? ⟨w.heap.size, 0, none⟩ = some .nilIface) (f1 : w1.frozen? ⟨w.heap.size, 0, none⟩ = false) (c2 : w1.cell? ⟨w.heap.size + 1, 0, none⟩ = some (.bool false)) (f2 : w1.frozen? ⟨w.heap.size + 1, 0, none⟩ = false)
    (hlt : w.heap.size + 1 + 1 ≤ w1.heap.size) (hb : Below w.heap.size w w1) (hb2 : Below (w1.setCell ⟨w.heap.size, 0, none⟩ (.iface n v)).heap.size (w1.setCell ⟨w.heap.size, 0, none⟩ (.iface n v)) w2) :
    w2.cell? ⟨w.heap.size, 0, none⟩ = some (.iface n v) ∧ w2.frozen? ⟨w.heap.size, 0, none⟩ = false ∧ w2.cell? ⟨w.heap.size + 1, 0, none⟩ = some (.bool false) ∧ w2.frozen? ⟨w.heap.size + 1, 0, none⟩ = false ∧ Below w.heap.size w w2 := by
  have hz : (w1.setCell ⟨w.heap.size, 0, none⟩ (.iface n v)).heap.size = w1.heap.size := by simp [World.setCell]
  rw [hz] at hb2
  refine ⟨(hb2.cell (by show w.heap.size < _; omega)).trans (World.cell?_setCell_same _ _ _ c1), (hb2.frozen (by show w.heap.size < _; omega)).trans ?_, (hb2.cell (by show w.heap.size + 1 < _; omega)).trans ?_, (hb2.frozen (by show w.heap.size + 1 < _; omega)).trans ?_, ?_⟩
  · rw [World.frozen?_setCell]; exact f1
  · rw [World.cell?_setCell_other _ _ _ _ (by simp)]; exact c2
  · rw [World.frozen?_setCell]; exact f2
  · exact (hb.setCell (p := ⟨w.heap.size, 0, none⟩) (Nat.le_refl _) _).trans (hb2.mono (by omega))

/-- What a text is as a term. -/
def readT (s : Text) : Option Tm := if s.length ≤ 120 then (parse (s.length + 1) s).bind fun x => if x.2 = [] ∧ x.1.depth ≤ 24 then some x.1 else none else none
theorem parse_depth : ∀ (k : Nat) (s r : Text) (t : Tm), parse k s = some (t, r) → t.depth ≤ k := by
  intro k
  induction k with
  | zero => intro s r t h; simp [parse] at h
  | succ k ih =>
    intro s r t h
    simp only [parse, Option.bind_eq_some_iff, Prod.exists] at h
    obtain ⟨c, s1, h1, h⟩ := h
    unfold pBehind at h
    split at h
    · simp only [pLong, Option.bind_eq_some_iff, Prod.exists] at h
      obtain ⟨a, r1, ha, b, r2, hb, h⟩ := h
      split at h
      · simp only [Option.some.injEq, Prod.mk.injEq] at h; rw [← h.1]; simp [Tm.depth]
      · simp at h
    split at h
    · simp only [pFn, Option.bind_eq_some_iff, Prod.exists, Option.some.injEq, Prod.mk.injEq] at h
      obtain ⟨a, r1, ha, b, r2, hb, rfl, _⟩ := h
      have := ih _ _ _ hb; simp only [Tm.depth]; omega
    split at h
    · simp only [pFix, Option.bind_eq_some_iff, Prod.exists] at h
      obtain ⟨a, r1, ha, b, r2, hb, h⟩ := h
      split at h
      · simp at h
      · simp only [Option.bind_eq_some_iff, Prod.exists, Option.some.injEq, Prod.mk.injEq] at h
        obtain ⟨c, r3, hc, rfl, _⟩ := h
        have := ih _ _ _ hc; simp only [Tm.depth]; omega
    split at h
    · simp only [pApp, Option.bind_eq_some_iff, Prod.exists] at h
      obtain ⟨a, r1, ha, b, r2, hb, z, r3, hz, h⟩ := h
      have := ih _ _ _ ha; have := ih _ _ _ hb
      split at h
      · simp only [Option.some.injEq, Prod.mk.injEq] at h; rw [← h.1]; simp only [Tm.depth]; omega
      · simp at h
    split at h
    · simp only [pBind, Option.bind_eq_some_iff, Prod.exists, Option.some.injEq, Prod.mk.injEq] at h
      obtain ⟨a, r1, ha, b, r2, hb, c, r3, hc, rfl, _⟩ := h
      have := ih _ _ _ hb; have := ih _ _ _ hc; simp only [Tm.depth]; omega
    split at h
    · simp only [pOp, Option.bind_eq_some_iff, Prod.exists, Option.some.injEq, Prod.mk.injEq] at h
      obtain ⟨a, r1, ha, b, r2, hb, rfl, _⟩ := h
      have := ih _ _ _ ha; have := ih _ _ _ hb; simp only [Tm.depth]; omega
    split at h
    · simp only [pSel, Option.bind_eq_some_iff, Prod.exists, Option.some.injEq, Prod.mk.injEq] at h
      obtain ⟨a, r1, ha, b, r2, hb, c, r3, hc, rfl, _⟩ := h
      have := ih _ _ _ ha; have := ih _ _ _ hb; have := ih _ _ _ hc; simp only [Tm.depth]; omega
    split at h
    · simp only [Option.some.injEq, Prod.mk.injEq] at h; rw [← h.1]; simp [Tm.depth]
    split at h
    · simp only [Option.some.injEq, Prod.mk.injEq] at h; rw [← h.1]; simp [Tm.depth]
    · simp at h

end Go.Proofs.Ytdedhejpbnfnaaa
