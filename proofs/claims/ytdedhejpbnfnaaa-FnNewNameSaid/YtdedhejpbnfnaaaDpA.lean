/- The program's depth of a term: the parts right within a term, by the interface. -/
import Derived.Test.YtdedhejpbnfnaaaRdA
import Derived.Outline
namespace Go.Proofs.Ytdedhejpbnfnaaa
open Go.RowKit
open Ff

/-- A method called through the interface: the law. -/
theorem wpList_invoke {P : Program} {ops : Array Oper} {rest : List Oper} {o : Oper} {a : Act} {Q : Exit → Act → World → Prop} {w : World} (hgd : o.guard = none) (r : Operand) (m : String) (t : TypeId) (v : Value)
    (ho : o.op = .call { callee := .invoke r m, args := #[], argTypes := #[] }) (hr : a.eval r = .iface t v) (f : FuncId) (hm : (method (P.types.size + 100) t v m).run P w = .ok (f, v) w)
    (hf : (callFunc f #[v]).run P w = .ok (.enter f #[v]) w) (S : Value → World → Prop) (hC : Calls P f #[v] w fun e w' => ∃ x, e = .returned x ∧ S x w')
    (h : ∀ x w', S x w' → wpList P ops Q rest (a.put o.dst x) w') : wpList P ops Q (o :: rest) a w := by
  refine wpList_plain hgd fun K hK => ?_
  unfold Oper.wp execOp
  simp only [ho, resolve, invoke, callMethod, Sem.run_bind, Sem.run_pure, Result.andThen_ok, List.map_toArray, List.map_nil, hr]
  simp [hm, hf, Sem.run_bind, go_sem]
  refine hC.mono ?_
  rintro e w' ⟨x, rfl, hS⟩
  exact hK _ _ (h x w' hS)

/-- The slice v of the world w lists the values l; it lies in a block beyond B. -/
def SliceOf (B : Nat) (w : World) (v : Value) (l : List Value) : Prop :=
  (l = [] ∧ v = .slice none 0 0) ∨ (l ≠ [] ∧ ∃ g, v = .slice (some ⟨g, 0, none⟩) l.length l.length ∧ B ≤ g ∧ g < w.heap.size ∧ ∀ i x, l[i]? = some x → w.cell? ⟨g, i, none⟩ = some x)
theorem cell_new (w : World) (l : List Value) (t : TypeId) (i : Nat) : (w.alloc (.cells l.toArray t)).cell? ⟨w.heap.size, i, none⟩ = l[i]? := by
  show (match (w.heap.push _)[w.heap.size]? with | some (.cells c _ _) => if (none : Option Nat).isSome then none else c[i]? | _ => none) = _
  simp
theorem slice_new (w : World) (o : Obj) (l : List Value) (t : TypeId) (hl : l ≠ []) :
    SliceOf w.heap.size ((w.alloc o).alloc (.cells l.toArray t)) (.slice (some ⟨w.heap.size + 1, 0, none⟩) l.length l.length) l := by
  refine .inr ⟨hl, w.heap.size + 1, rfl, Nat.le_succ _, by simp, fun i x hx => ?_⟩
  have h := cell_new (w.alloc o) l t i
  simp only [World.size_alloc] at h
  rw [h, hx]
theorem below_two (w : World) (o p : Obj) : Below w.heap.size w ((w.alloc o).alloc p) := ((Below.refl _ w).alloc (Nat.le_refl _) _).alloc (by simp) _

end Go.Proofs.Ytdedhejpbnfnaaa
