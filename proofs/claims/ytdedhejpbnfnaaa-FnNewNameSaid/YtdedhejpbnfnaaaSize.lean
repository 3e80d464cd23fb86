/- SizeOf: the model's and the program's. -/
import Derived.Test.YtdedhejpbnfnaaaYi
namespace Ff

/-- A term has no more parts than its text has bytes. -/
theorem parse_parts : ∀ (k : Nat) (s r : Text) (t : Tm), parse k s = some (t, r) → (Go.Proofs.Ytdedhejpbnfnaaa.parts t).length + r.length ≤ s.length := by
  intro k
  induction k with
  | zero => intro s r t h; simp [parse] at h
  | succ k ih =>
    intro s r t h
    simp only [parse, Option.bind_eq_some_iff, Prod.exists] at h
    obtain ⟨c, s1, h1, h⟩ := h
    have l1 := next1_len h1
    have key : (Go.Proofs.Ytdedhejpbnfnaaa.parts t).length + r.length ≤ s1.length + 1 := by
      unfold pBehind at h
      split at h
      · simp only [pLong, Option.bind_eq_some_iff, Prod.exists] at h
        obtain ⟨a, r1, ha, b, r2, hb, h⟩ := h
        have := next1_len ha; have := next1_len hb
        split at h
        · simp only [Option.some.injEq, Prod.mk.injEq] at h; obtain ⟨rfl, rfl⟩ := h; simp only [Go.Proofs.Ytdedhejpbnfnaaa.parts, List.length_cons, List.length_nil]; omega
        · simp at h
      split at h
      · simp only [pFn, Option.bind_eq_some_iff, Prod.exists, Option.some.injEq, Prod.mk.injEq] at h
        obtain ⟨a, r1, ha, b, r2, hb, rfl, rfl⟩ := h
        have := name1_len ha; have := ih _ _ _ hb; simp only [Go.Proofs.Ytdedhejpbnfnaaa.parts, List.length_cons]; omega
      split at h
      · simp only [pFix, Option.bind_eq_some_iff, Prod.exists] at h
        obtain ⟨a, r1, ha, b, r2, hb, h⟩ := h
        have := name1_len ha; have := name1_len hb
        split at h
        · simp at h
        · simp only [Option.bind_eq_some_iff, Prod.exists, Option.some.injEq, Prod.mk.injEq] at h
          obtain ⟨c, r3, hc, rfl, rfl⟩ := h
          have := ih _ _ _ hc; simp only [Go.Proofs.Ytdedhejpbnfnaaa.parts, List.length_cons]; omega
      split at h
      · simp only [pApp, Option.bind_eq_some_iff, Prod.exists] at h
        obtain ⟨a, r1, ha, b, r2, hb, z, r3, hz, h⟩ := h
        have := ih _ _ _ ha; have := ih _ _ _ hb; have := next1_len hz
        split at h
        · simp only [Option.some.injEq, Prod.mk.injEq] at h; obtain ⟨rfl, rfl⟩ := h; simp only [Go.Proofs.Ytdedhejpbnfnaaa.parts, List.length_cons, List.length_append]; omega
        · simp at h
      split at h
      · simp only [pBind, Option.bind_eq_some_iff, Prod.exists, Option.some.injEq, Prod.mk.injEq] at h
        obtain ⟨a, r1, ha, b, r2, hb, c, r3, hc, rfl, rfl⟩ := h
        have := name1_len ha; have := ih _ _ _ hb; have := ih _ _ _ hc; simp only [Go.Proofs.Ytdedhejpbnfnaaa.parts, List.length_cons, List.length_append]; omega
      split at h
      · simp only [pOp, Option.bind_eq_some_iff, Prod.exists, Option.some.injEq, Prod.mk.injEq] at h
        obtain ⟨a, r1, ha, b, r2, hb, rfl, rfl⟩ := h
        have := ih _ _ _ ha; have := ih _ _ _ hb; simp only [Go.Proofs.Ytdedhejpbnfnaaa.parts, List.length_cons, List.length_append]; omega
      split at h
      · simp only [pSel, Option.bind_eq_some_iff, Prod.exists, Option.some.injEq, Prod.mk.injEq] at h
        obtain ⟨a, r1, ha, b, r2, hb, c, r3, hc, rfl, rfl⟩ := h
        have := ih _ _ _ ha; have := ih _ _ _ hb; have := ih _ _ _ hc; simp only [Go.Proofs.Ytdedhejpbnfnaaa.parts, List.length_cons, List.length_append]; omega
      split at h
      · simp only [Option.some.injEq, Prod.mk.injEq] at h; obtain ⟨rfl, rfl⟩ := h; simp only [Go.Proofs.Ytdedhejpbnfnaaa.parts, List.length_cons, List.length_nil]; omega
      split at h
      · simp only [Option.some.injEq, Prod.mk.injEq] at h; obtain ⟨rfl, rfl⟩ := h; simp only [Go.Proofs.Ytdedhejpbnfnaaa.parts, List.length_cons, List.length_nil]; omega
      · simp at h
    omega
theorem readS_parts {s : Text} {t : Tm} (h : readS s = some t) : (Go.Proofs.Ytdedhejpbnfnaaa.parts t).length ≤ 120 := by
  obtain ⟨r, h1, h2, h3⟩ := readS_some h
  have := parse_parts _ _ _ _ h1
  omega
end Ff
namespace Go.Proofs.Ytdedhejpbnfnaaa
open Go.RowKit Go.Shelf
open Ff
set_option linter.unusedVariables false
attribute [local go_sem] Oper.semAt_some

/-- What a text's size is told as. -/
def sizeI (o : Option Tm) : Int := match o with | some t => ((parts t).length : Nat) | none => -1
theorem cell_at_v {W : World} {B : Nat} {v : Value} {t : TypeId} (h : W.heap[B]? = some (.cells #[v] t (0, 0))) : W.cell? ⟨B, 0, none⟩ = some v ∧ W.frozen? ⟨B, 0, none⟩ = false := by
  constructor <;> simp [World.cell?, World.frozen?, h]
theorem cell_new_v (W : World) (v : Value) (t : TypeId) : (W.alloc (.cells #[v] t)).cell? ⟨W.heap.size, 0, none⟩ = some v ∧ (W.alloc (.cells #[v] t)).frozen? ⟨W.heap.size, 0, none⟩ = false := cell_at_v (World.alloc_heap_new W _)
/-- All blocks but one. -/
theorem told_one (b n₀ : Nat) (h : b < n₀) : Told n₀ (fun _ j => j = b) := ⟨fun _ _ _ _ _ h => h, fun A hn j hj => by subst hj; omega⟩
theorem keep_putObj (b : Nat) (W : World) (l : Nat) (o o' : Obj) (h : W.heap[l]? = some o) (ho : o.isCells = false) : KeepT (fun _ j => j = b) W (W.putObj l o') := by
  have hg := grownBy_putObj' W l o'
  refine ⟨hg.size, fun j oj hj hc _ => ?_, fun j hj => .inl hj⟩
  have hlt : j < W.heap.size := (Array.getElem?_eq_some_iff.1 hj).1
  refine (hg.block j hlt (fun e => ?_)).trans hj
  injection e with e
  subst e
  rw [h] at hj
  injection hj with hj
  subst hj
  rw [ho] at hc
  cases hc
theorem keep_setCell (b i : Nat) (W : World) (v : Value) : KeepT (fun _ j => j = b) W (W.setCell ⟨b, i, none⟩ v) :=
  ⟨(KeepsOthers.setCell W _ v).size, fun j o hj _ hne => (Below.heap_setCell W ⟨b, i, none⟩ v j hne).trans hj, fun j hj => .inl hj⟩
end Go.Proofs.Ytdedhejpbnfnaaa
