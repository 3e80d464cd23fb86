import Derived.Test.YtjfhncfbejephaaGreatDoorMCt
import Derived.Deep.RegionHeld3
import Derived.Test.YtjfhncfbejephaaGreatDoorMYi
import Derived.RangeFuncWrites
/- The specification's l1Count: how often a name stands free. -/
namespace Go.Proofs.YtjfhncfbejephaaGreatDoor
open Go.RowKit
open Ff
set_option linter.unusedVariables false

theorem binds_names (t : Tm) (h : kindOf t ≠ 118) : bindsOf t = namesOf t := by
  cases t with
  | var c => simp [kindOf] at h
  | _ => rfl
theorem cntTo_le0 (t : Tm) (x : UInt8) : ∀ k, cntTo t k x + 1 ≤ (before t k).length
  | 0 => by simp [cntTo, before]
  | k + 1 => by
    have ih := cntTo_le0 t x k
    rcases h : t.kids[k]? with _ | s
    · have e1 : cntTo t (k + 1) x = cntTo t k x := by simp [cntTo, h]
      have e2 : before t (k + 1) = before t k := by unfold before; rw [List.take_add_one, h]; simp
      rw [e1, e2]; exact ih
    · rw [cntTo_succ t k s h, before_succ t k s h, List.length_append]
      have := cnt_le s x
      split <;> omega
theorem names_len (t : Tm) : (namesOf t).length ≤ 2 := by cases t <;> simp [namesOf]

end Go.Proofs.YtjfhncfbejephaaGreatDoor

/- CountFree: the model's and the program's. -/
namespace Go.Proofs.YtjfhncfbejephaaGreatDoor
open Go.RowKit
open Ff
set_option linter.unusedVariables false

/-- A name, alone. -/
def nameOf : Text → Option UInt8
  | [c] => if isNam c = true then some c else none
  | _ => none
theorem name_some {s : Text} {c : UInt8} (h : nameOf s = some c) : s = [c] ∧ isNam c = true := by
  unfold nameOf at h
  split at h
  · split at h
    · rename_i h2; injection h with h; subst h; exact ⟨rfl, h2⟩
    · cases h
  · cases h
theorem name_one (c : UInt8) : (nameOf [c]).isSome = isNam c := by
  simp only [nameOf]
  cases isNam c <;> simp
theorem name_long {s : Text} (h : s.length ≠ 1) : (nameOf s).isSome = false := by
  unfold nameOf
  split
  · simp at h
  · rfl
/-- What the two texts are told as. -/
def cntI (o : Option Tm) (m : Option UInt8) : Int := match o, m with
  | some t, some c => (cntF t c : Int)
  | _, _ => -1
theorem cntI_none (m : Option UInt8) : cntI none m = -1 := by cases m <;> rfl
theorem cntI_none2 (o : Option Tm) : cntI o none = -1 := by cases o <;> rfl
end Go.Proofs.YtjfhncfbejephaaGreatDoor

/- The specification's l1Bound. -/
namespace Go.Proofs.YtjfhncfbejephaaGreatDoor
open Go.RowKit
open Ff
set_option linter.unusedVariables false

theorem binds_var (t : Tm) (h : kindOf t = 118) : bindsOf t = [] := by
  cases t with
  | var c => rfl
  | op s l r => rfl
  | _ => simp [kindOf] at h
end Go.Proofs.YtjfhncfbejephaaGreatDoor

/- The program's boundIn: how often each name is bound. -/
namespace Go.Proofs.YtjfhncfbejephaaGreatDoor
open Go.RowKit Go.Shelf
open Ff
set_option linter.unusedVariables false
attribute [local go_sem] Oper.semAt_some

/-- No block of cells. -/
abbrev NoT : World → Nat → Prop := fun _ _ => False
theorem told_no (n₀ : Nat) : Told n₀ NoT := ⟨fun _ _ _ _ _ h => h, fun _ _ _ h => h.elim⟩
theorem Tally.notCells {W : World} {b n : Nat} {m : UInt8 → Nat} (h : Tally W b n m) : ∀ o : Obj, W.heap[b]? = some o → o.isCells = false := by
  obtain ⟨D, ⟨es, clock, hb, _⟩, _⟩ := h
  intro o ho
  rw [hb] at ho
  injection ho with ho
  subst ho
  rfl
theorem Tally.keepT {W W' : World} {b n : Nat} {m : UInt8 → Nat} (h : Tally W b n m) (hg : W.grownBy W' (some b)) : KeepT NoT W W' := by
  refine ⟨hg.size, fun j o ho hc _ => ?_, fun _ h => h.elim⟩
  refine (hg.block j (Array.getElem?_eq_some_iff.1 ho).1 (fun e => ?_)).trans ho
  injection e with e
  subst e
  rw [h.notCells o ho] at hc
  cases hc
theorem keepT_putObj (W : World) (l : Nat) (o o' : Obj) (h : W.heap[l]? = some o) (ho : o.isCells = false) : KeepT NoT W (W.putObj l o') := by
  have hg := grownBy_putObj' W l o'
  refine ⟨hg.size, fun j oj hj hc _ => ?_, fun _ h => h.elim⟩
  refine (hg.block j (Array.getElem?_eq_some_iff.1 hj).1 (fun e => ?_)).trans hj
  injection e with e
  subst e
  rw [h] at hj
  injection hj with hj
  subst hj
  rw [ho] at hc
  cases hc
/-- How often in a list's first j. -/
theorem count_take (l : Text) (j : Nat) (c x : UInt8) (h : l[j]? = some c) : (l.take (j + 1)).count x = (l.take j).count x + (if x = c then 1 else 0) := by
  rw [List.take_add_one, h]
  simp only [Option.toList_some, List.count_append, List.count_singleton]
  by_cases e : x = c
  · subst e; simp
  · have : ¬ c = x := fun h => e h.symm
    simp [e, this]

/-- The names that the program takes a term to bind, whatever its names are. -/
def bindsP : Tm → Text
  | .fix f c _ => if f = 0 then [c] else [f, c]
  | t => bindsOf t
theorem bindsP_good {t : Tm} (h : t.good) : bindsP t = bindsOf t := by
  cases t with
  | fix f c b =>
    have hf : f ≠ 0 := by
      have := h.1
      simp only [isNam, Bool.and_eq_true, decide_eq_true_eq] at this
      intro e
      subst e
      exact absurd this.1 (by decide)
    simp [bindsP, bindsOf, hf]
  | _ => rfl
theorem bindsP_len (t : Tm) : (bindsP t).length ≤ 2 := by
  cases t with
  | fix f c b => simp only [bindsP]; split <;> simp
  | _ => simp [bindsP, bindsOf]
theorem boundByP_c (t : Tm) (w : World) :
    Calls Tryz.prog 53 #[enc t] w fun e w' => ∃ v, e = .returned v ∧ SliceOf w.heap.size w' v ((bindsP t).map bv) ∧ Below w.heap.size w w' := by
  have none : ∀ s : Tm, isFun s = false → isLet s = false → bindsP s = [] → Calls Tryz.prog 53 #[enc s] w fun e w' => ∃ v, e = .returned v ∧ SliceOf w.heap.size w' v ((bindsP s).map bv) ∧ Below w.heap.size w w' := fun s h1 h2 h3 =>
    (boundBy_none s h1 h2 w).mono (by rintro e w' ⟨rfl, rfl⟩; exact ⟨_, rfl, .inl ⟨by rw [h3]; rfl, rfl⟩, Below.refl _ _⟩)
  cases t with
  | fn c b => exact (boundBy_fn c b w).mono (by rintro e w' ⟨o, rfl, rfl⟩; exact ⟨_, rfl, slice_new w o [bv c] _ (by simp), below_two w _ _⟩)
  | fix f c b =>
    by_cases h : f = 0
    · subst h
      exact (boundBy_fn c b w).mono (by rintro e w' ⟨o, rfl, rfl⟩; exact ⟨_, rfl, slice_new w o [bv c] _ (by simp), below_two w _ _⟩)
    · have hf : f.toNat ≠ 0 := fun e => h (by apply UInt8.toNat_inj.1; simpa using e)
      have hb : bindsP (.fix f c b) = [f, c] := by simp [bindsP, h]
      rw [hb]
      exact (boundBy_fix f c b hf w).mono (by rintro e w' ⟨o, rfl, rfl⟩; exact ⟨_, rfl, slice_new w o [bv f, bv c] _ (by simp), below_two w _ _⟩)
  | bind c x b => exact (boundBy_bind c x b w).mono (by rintro e w' ⟨o, rfl, rfl⟩; exact ⟨_, rfl, slice_new w o [bv c] _ (by simp), below_two w _ _⟩)
  | _ => exact none _ rfl rfl rfl
/-- How often a name is bound in a list of terms, as the program counts. -/
def cntPB (l : List Tm) (x : UInt8) : Nat := (l.flatMap bindsP).count x
theorem cntP_snoc (l : List Tm) (s : Tm) (x : UInt8) : cntPB (l ++ [s]) x = cntPB l x + (bindsP s).count x := by
  simp [cntPB, List.count_append]
theorem cntP_le (l : List Tm) (x : UInt8) : cntPB l x ≤ 2 * l.length := by
  refine Nat.le_trans List.count_le_length ?_
  induction l with
  | nil => simp
  | cons a r ih => have := bindsP_len a; simp only [List.flatMap_cons, List.length_append, List.length_cons]; omega
theorem cntP_good {l : List Tm} (h : ∀ s ∈ l, s.good) (x : UInt8) : cntPB l x = cntB l x := by
  have e : l.flatMap bindsP = l.flatMap bindsOf := by
    induction l with
    | nil => rfl
    | cons a r ih => rw [List.flatMap_cons, List.flatMap_cons, bindsP_good (h a (by simp)), ih (fun s hs => h s (by simp [hs]))]
  unfold cntPB cntB
  rw [e]

end Go.Proofs.YtjfhncfbejephaaGreatDoor

/- BoundOf: the model's and the program's. -/
namespace Go.Proofs.YtjfhncfbejephaaGreatDoor
open Go.RowKit
open Ff
set_option linter.unusedVariables false

theorem readS_parts' {s : Text} {t : Tm} (h : readS s = some t) : (parts t).length ≤ 120 := readS_parts h
theorem parts_good {t s : Tm} (h : t.good) (hs : s ∈ parts t) : s.good := by
  induction t with
  | num n => simp only [parts, List.mem_singleton] at hs; subst hs; exact h
  | var c => simp only [parts, List.mem_singleton] at hs; subst hs; exact h
  | fn c b ih => simp only [parts, List.mem_cons] at hs; rcases hs with rfl | hs; exact h; exact ih h.2 hs
  | fix f c b ih => simp only [parts, List.mem_cons] at hs; rcases hs with rfl | hs; exact h; exact ih h.2.2.2 hs
  | app f a h1 h2 => simp only [parts, List.mem_cons, List.mem_append] at hs; rcases hs with rfl | hs | hs; exact h; exact h1 h.1 hs; exact h2 h.2 hs
  | bind c f a h1 h2 => simp only [parts, List.mem_cons, List.mem_append] at hs; rcases hs with rfl | hs | hs; exact h; exact h1 h.2.1 hs; exact h2 h.2.2 hs
  | op c f a h1 h2 => simp only [parts, List.mem_cons, List.mem_append] at hs; rcases hs with rfl | hs | hs; exact h; exact h1 h.2.1 hs; exact h2 h.2.2 hs
  | sel a b c h1 h2 h3 => simp only [parts, List.mem_cons, List.mem_append] at hs; rcases hs with rfl | hs | hs | hs; exact h; exact h1 h.1 hs; exact h2 h.2.1 hs; exact h3 h.2.2 hs

end Go.Proofs.YtjfhncfbejephaaGreatDoor
