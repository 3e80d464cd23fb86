/- The program's iterator over all parts of a term: yieldParts, partsOf. -/
import Derived.RangeFuncNested
import Derived.RangeFuncBound
import Derived.RangeFuncCalls
import Derived.RangeFuncLeaves
import Derived.Shelf.Abstract
import Derived.Shelf.RegionOpen
import Derived.WalkKit
import Derived.OwnWalkIn
import Derived.TacticsInMore
import Derived.LoopNIn
import Derived.LoopIn
import Derived.Test.YtdedhejpbnfnaaaEach
namespace Go.Proofs.Ytdedhejpbnfnaaa
open Go.RowKit Go.Shelf
open Ff
set_option linter.unusedVariables false
attribute [local go_sem] Oper.semAt_some

/-- A method called through the interface, within a fence. -/
theorem wpListIn_invoke {n : Nat} {P : Program} {ops : Array Oper} {rest : List Oper} {o : Oper} {a : Act} {Q : Exit → Act → World → Prop} {w : World} (hgd : o.guard = none) (r : Operand) (m : String) (t : TypeId) (v : Value)
    (ho : o.op = .call { callee := .invoke r m, args := #[], argTypes := #[] }) (hr : a.eval r = .iface t v) (f : FuncId) (hm : (method (P.types.size + 100) t v m).run P w = .ok (f, v) w)
    (hf : (callFunc f #[v]).run P w = .ok (.enter f #[v]) w) (S : Value → World → Prop) (hC : Calls P f #[v] w fun e w' => ∃ x, e = .returned x ∧ S x w')
    (h : ∀ x w', S x w' → wpListIn Fence.wide n P ops Q rest (a.put o.dst x) w') : wpListIn Fence.wide n P ops Q (o :: rest) a w := by
  refine wpListIn_plain hgd fun K hK => ?_
  have hrun : (execOp a.eval o).run P w = .ok (.enter f #[v]) w := by
    unfold execOp
    simp only [ho, resolve, invoke, callMethod, Sem.run_bind, Sem.run_pure, Result.andThen_ok, List.map_toArray, List.map_nil, hr]
    simp [hm, hf, Sem.run_bind, go_sem]
  unfold Oper.wpIn
  refine ⟨fun _ _ => trivial, ?_⟩
  have hs : o.semAt Fence.wide.round a.eval = execOp a.eval o := by simp [Oper.semAt, Fence.wide]
  rw [hs, hrun, Oper.uponIn_enter]
  refine ⟨fun h => (by cases h), ?_⟩
  refine callsIn_wide.2 (hC.mono ?_)
  rintro e w' ⟨x, rfl, hS⟩
  exact hK _ _ (h x w' hS)

/-- What lay in cells lies as it lay, but for the blocks that T tells. -/
def KeepT (T : World → Nat → Prop) (A B : World) : Prop :=
  A.heap.size ≤ B.heap.size ∧ (∀ (j : Nat) (o : Obj), A.heap[j]? = some o → o.isCells = true → ¬ T A j → B.heap[j]? = some o) ∧ ∀ j, T B j → T A j ∨ A.heap.size ≤ j
theorem KeepT.trans {T : World → Nat → Prop} {A B C : World} (h : KeepT T A B) (k : KeepT T B C) : KeepT T A C := by
  refine ⟨Nat.le_trans h.1 k.1, fun j o hj ho ht => k.2.1 j o (h.2.1 j o hj ho ht) ho (fun hb => ?_), fun j hj => ?_⟩
  · have hlt : j < A.heap.size := (Array.getElem?_eq_some_iff.1 hj).1
    rcases h.2.2 j hb with h1 | h1
    · exact ht h1
    · omega
  · rcases k.2.2 j hj with h1 | h1
    · exact h.2.2 j h1
    · exact .inr (Nat.le_trans h.1 h1)
theorem cells_of_cell {A : World} {p : Addr} {v : Value} (h : A.cell? p = some v) : ∃ o : Obj, A.heap[p.block]? = some o ∧ o.isCells = true := by
  unfold World.cell? at h
  split at h
  · rename_i hh; exact ⟨_, hh, rfl⟩
  · cases h
theorem KeepT.cell {T : World → Nat → Prop} {A B : World} {p : Addr} {v : Value} (h : KeepT T A B) (hp : A.cell? p = some v) (ht : ¬ T A p.block) : B.cell? p = some v := by
  obtain ⟨o, ho, hc⟩ := cells_of_cell hp
  rw [World.cell?_of_block (w := A) ((h.2.1 _ o ho hc ht).trans ho.symm)]
  exact hp
theorem grown_none {A B : World} (h : Below A.heap.size A B) : A.grownBy B none := ⟨h.os, h.tape, h.output, h.size, fun j hj _ => h.block j hj⟩
/-- What is asked of T: growth alone tells no block of it. -/
def Told (n₀ : Nat) (T : World → Nat → Prop) : Prop := (∀ A B, n₀ ≤ A.heap.size → Below A.heap.size A B → ∀ j, T B j → T A j) ∧ ∀ A, n₀ ≤ A.heap.size → ∀ j, T A j → j < A.heap.size
theorem KeepT.still {n₀ : Nat} {T : World → Nat → Prop} (hT : Told n₀ T) {A B : World} (hn : n₀ ≤ A.heap.size) (h : Below A.heap.size A B) : KeepT T A B :=
  ⟨h.size, fun j o hj _ _ => (h.block j (Array.getElem?_eq_some_iff.1 hj).1).trans hj, fun j hj => .inl (hT.1 A B hn h j hj)⟩
theorem parts_pos (t : Tm) : 1 ≤ (parts t).length := by rw [parts_kids]; simp

theorem YieldAt.any {F : Fence} (hd : F.depth = none) {m : Nat} (m' : Nat) {P : Program} {l : Nat} {args : Array Value} {W : World} {R : Ending → World → Prop} (h : YieldAt F m P l args W R) : YieldAt F m' P l args W R := by
  obtain ⟨fn, tmps, assign, body, hy, hR⟩ := h
  exact ⟨fn, tmps, assign, body, hy, ⟨hR.1, fun c cs _ => hR.2 c cs (fun d h => by rw [hd] at h; cases h)⟩⟩

end Go.Proofs.Ytdedhejpbnfnaaa
