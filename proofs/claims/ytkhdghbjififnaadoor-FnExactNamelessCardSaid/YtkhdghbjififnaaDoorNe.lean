import Derived.Test.YtkhdghbjififnaaDoorNd
import Derived.Test.YtkhdghbjififnaaDoorPuW
/- SameTerm: the program's. -/
namespace Go.Proofs.YtkhdghbjififnaaDoor
open Go.RowKit
open Ff
set_option linter.unusedVariables false

theorem knot_cells {B : Nat} {w : World} {c : Nat → Value} {i g n : Nat} {x : Knot} (hi : i < n) (hc : ∀ k, k < 3 * n → w.cell? ⟨g, k, none⟩ = some (c k)) (hr : KRep (fun g => g < B) w x (three c i)) (hgw : g < w.heap.size) :
    ∃ (y0 y1 : Int) (y2 : Option Addr) (y3 y4 : Nat), KRep (fun g => g < B) w x (.agg #[.int .u8 y0, .int .i64 y1, .slice y2 y3 y4]) ∧ ∀ W, Below w.heap.size w W → W.cell? ⟨g, i * 3, none⟩ = some (.int .u8 y0) ∧ W.cell? ⟨g, i * 3 + 1, none⟩ = some (.int .i64 y1) ∧ W.cell? ⟨g, i * 3 + 2, none⟩ = some (.slice y2 y3 y4) := by
  obtain ⟨y0, y1, y2, y3, y4, he⟩ := hr.junk
  have h2 : KRep (fun g => g < B) w x (.agg #[.int .u8 y0, .int .i64 y1, .slice y2 y3 y4]) := by rw [← he]; exact hr
  unfold three at he
  simp only [Value.agg.injEq, Array.mk.injEq, List.cons.injEq, and_true] at he
  obtain ⟨i0, i1, i2⟩ := he
  refine ⟨y0, y1, y2, y3, y4, h2, fun W hW => ?_⟩
  have hcells : ∀ j, j < 3 → W.cell? ⟨g, 3 * i + j, none⟩ = some (c (3 * i + j)) := fun j hj => (hW.cell (p := ⟨g, 3 * i + j, none⟩) hgw).trans (hc (3 * i + j) (by omega))
  refine ⟨?_, ?_, ?_⟩
  · rw [← i0]; have := hcells 0 (by omega); rwa [Nat.mul_comm i 3]
  · rw [← i1]; have := hcells 1 (by omega); rwa [Nat.mul_comm i 3]
  · rw [← i2]; have := hcells 2 (by omega); rwa [Nat.mul_comm i 3]
/-- What SameTerm comes to. -/
def sameO (s s2 : Text) : Bool := match readS s, readS s2 with
  | some t, some u => decide (nlT 24 noF t = nlT 24 noF u)
  | _, _ => false
end Go.Proofs.YtkhdghbjififnaaDoor
