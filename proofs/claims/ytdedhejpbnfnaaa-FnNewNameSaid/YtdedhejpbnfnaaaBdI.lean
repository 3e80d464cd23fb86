/- The program's boundIn: how often each name is bound. -/
import Derived.Test.YtdedhejpbnfnaaaFrI
import Derived.Test.YtdedhejpbnfnaaaSize
import Derived.RangeFuncWrites
namespace Go.Proofs.Ytdedhejpbnfnaaa
open Go.RowKit Go.Shelf
open Ff
set_option linter.unusedVariables false
attribute [local go_sem] Oper.semAt_some

/-- No block of cells. -/
abbrev NoT : World → Nat → Prop := fun _ _ => False
theorem told_no (n₀ : Nat) : Told n₀ NoT := ⟨fun _ _ _ _ _ h => h, fun _ _ _ h => h.elim⟩
theorem Tally.notCells {W : World} {b n : Nat} {m : UInt8 → Nat} (h : Tally W b n m) : ∀ o : Obj, W.heap[b]? = some o → o.isCells = false := by
  obtain ⟨D, ⟨es, clock, hb, _⟩, _⟩ := h
  intro o ho
  rw [hb] at ho
  injection ho with ho
  subst ho
  rfl
theorem Tally.keepT {W W' : World} {b n : Nat} {m : UInt8 → Nat} (h : Tally W b n m) (hg : W.grownBy W' (some b)) : KeepT NoT W W' := by
  refine ⟨hg.size, fun j o ho hc _ => ?_, fun _ h => h.elim⟩
  refine (hg.block j (Array.getElem?_eq_some_iff.1 ho).1 (fun e => ?_)).trans ho
  injection e with e
  subst e
  rw [h.notCells o ho] at hc
  cases hc
theorem keepT_putObj (W : World) (l : Nat) (o o' : Obj) (h : W.heap[l]? = some o) (ho : o.isCells = false) : KeepT NoT W (W.putObj l o') := by
  have hg := grownBy_putObj' W l o'
  refine ⟨hg.size, fun j oj hj hc _ => ?_, fun _ h => h.elim⟩
  refine (hg.block j (Array.getElem?_eq_some_iff.1 hj).1 (fun e => ?_)).trans hj
  injection e with e
  subst e
  rw [h] at hj
  injection hj with hj
  subst hj
  rw [ho] at hc
  cases hc
/-- How often in a list's first j. -/
theorem count_take (l : Text) (j : Nat) (c x : UInt8) (h : l[j]? = some c) : (l.take (j + 1)).count x = (l.take j).count x + (if x = c then 1 else 0) := by
  rw [List.take_add_one, h]
  simp only [Option.toList_some, List.count_append, List.count_singleton]
  by_cases e : x = c
  · subst e; simp
  · have : ¬ c = x := fun h => e h.symm
    simp [e, this]

/-- The names that the program takes a term to bind, whatever its names are. -/
def bindsP : Tm → Text
  | .fix f c _ => if f = 0 then [c] else [f, c]
  | t => bindsOf t
theorem bindsP_good {t : Tm} (h : t.good) : bindsP t = bindsOf t := by
  cases t with
  | fix f c b =>
    have hf : f ≠ 0 := by
      have := h.1
      simp only [isNam, Bool.and_eq_true, decide_eq_true_eq] at this
      intro e
      subst e
      exact absurd this.1 (by decide)
    simp [bindsP, bindsOf, hf]
  | _ => rfl
theorem bindsP_len (t : Tm) : (bindsP t).length ≤ 2 := by
  cases t with
  | fix f c b => simp only [bindsP]; split <;> simp
  | _ => simp [bindsP, bindsOf]
/-- How often a name is bound in a list of terms, as the program counts. -/
def cntP (l : List Tm) (x : UInt8) : Nat := (l.flatMap bindsP).count x
theorem cntP_snoc (l : List Tm) (s : Tm) (x : UInt8) : cntP (l ++ [s]) x = cntP l x + (bindsP s).count x := by
  simp [cntP, List.count_append]
theorem cntP_le (l : List Tm) (x : UInt8) : cntP l x ≤ 2 * l.length := by
  refine Nat.le_trans List.count_le_length ?_
  induction l with
  | nil => simp
  | cons a r ih => have := bindsP_len a; simp only [List.flatMap_cons, List.length_append, List.length_cons]; omega
theorem cntP_good {l : List Tm} (h : ∀ s ∈ l, s.good) (x : UInt8) : cntP l x = cntB l x := by
  have e : l.flatMap bindsP = l.flatMap bindsOf := by
    induction l with
    | nil => rfl
    | cons a r ih => rw [List.flatMap_cons, List.flatMap_cons, bindsP_good (h a (by simp)), ih (fun s hs => h s (by simp [hs]))]
  unfold cntP cntB
  rw [e]

end Go.Proofs.Ytdedhejpbnfnaaa
