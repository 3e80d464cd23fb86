import Derived.Test.YtojbffiffcfblaaPuC
/- The program's putting: a new one; a name that is not taken; the names that are. -/
namespace Go.Proofs.Ytojbffiffcfblaa
open Go.RowKit
open Ff
set_option linter.unusedVariables false
attribute [local go_sem] Oper.semAt_some

/-- A putting as the program holds it. -/
abbrev putV (x : UInt8) (u : Tm) (b : Nat) : Value := .agg #[bv x, enc u, .map (some b)]
theorem three_of {w : World} {b : Nat} {z0 z1 z2 : Value} {t : TypeId} (h : w.heap[b]? = some (.cells #[z0, z1, z2] t (0, 0))) : w.cell? ⟨b, 0, none⟩ = some z0 ∧ w.cell? ⟨b, 1, none⟩ = some z1 ∧ w.cell? ⟨b, 2, none⟩ = some z2 ∧ ∀ k, w.frozen? ⟨b, k, none⟩ = false := by
  refine ⟨?_, ?_, ?_, fun k => ?_⟩ <;> simp [World.cell?, World.frozen?, h]
/-- How often a name stands free in a part's body and in what is put. -/
def baseM (u t : Tm) : UInt8 → Nat := fun c => cntF (lastK t) c + cntF u c
/-- How often a name is taken for a part. -/
def takeM (x : UInt8) (u t : Tm) (k : Nat) : UInt8 → Nat := fun c => cntF (lastK t) c + cntF u c + (if c = x then 1 else 0) + ((bindsOf t).take k).count c
theorem take_zero (x : UInt8) (u t : Tm) (c : UInt8) : upd (baseM u t) x (baseM u t x + 1) c = takeM x u t 0 c := by
  unfold upd takeM baseM
  by_cases e : c = x
  · subst e; simp
  · simp [e]
theorem take_succ (x : UInt8) (u t : Tm) (k : Nat) (c : UInt8) (hc : (bindsOf t)[k]? = some c) (y : UInt8) : upd (takeM x u t k) c (takeM x u t k c + 1) y = takeM x u t (k + 1) y := by
  unfold upd takeM
  rw [List.take_add_one, hc]
  simp only [Option.toList_some, List.count_append, List.count_singleton]
  by_cases e : y = c
  · subst e; simp; omega
  · have e2 : ¬ c = y := fun h => e h.symm
    simp [e, e2]
theorem take_le (x : UInt8) (u t : Tm) (c : UInt8) (k : Nat) (hu : (parts u).length ≤ 4000) (hp : (parts (lastK t)).length ≤ 4000) : takeM x u t k c ≤ 9000 := by
  have h1 := cnt_le (lastK t) c
  have h2 := cnt_le u c
  have h3 : ((bindsOf t).take k).count c ≤ 2 := Nat.le_trans List.count_le_length (Nat.le_trans (by rw [List.length_take]; omega) (binds_len t))
  unfold takeM
  split <;> omega
/-- The first name that is not taken. -/
theorem take_new (x : UInt8) (u t : Tm) (hu : u.good) (ht : (lastK t).good) : (butTo (takeM x u t (bindsOf t).length) 16).head? = newO (sfree u ++ sfree (lastK t) ++ bindsOf t ++ [x]) := by
  have h0 : ∀ (p q : UInt8 → Bool) (l : Text), (∀ c, p c = q c) → (l.filter p).head? = l.find? q := by
    intro p q l h
    induction l with
    | nil => rfl
    | cons c l ih => simp only [List.filter_cons, List.find?_cons, ← h c]; cases p c <;> simp [ih]
  unfold newO butTo
  rw [show letters.take 16 = letters from rfl]
  refine h0 _ _ _ fun c => ?_
  have h1 := mem_free hu c
  have h2 := mem_free ht c
  rw [decide_eq_decide]
  simp only [takeM, List.take_length, List.mem_append, List.mem_singleton, h1, h2]
  by_cases e : c = x
  · simp [e]
  · simp only [e, if_false]
    have h3 : (bindsOf t).count c = 0 ↔ c ∉ bindsOf t := List.count_eq_zero
    constructor
    · intro h
      have := h3.1 (by omega)
      simp [this]; omega
    · intro h
      simp only [not_or, Classical.not_not, or_false] at h
      have := h3.2 h.2
      omega
end Go.Proofs.Ytojbffiffcfblaa
