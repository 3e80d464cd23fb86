/- The program's freeIn: how often each name stands free. -/
import Derived.Test.YtdedhejpbnfnaaaBy
namespace Go.Proofs.Ytdedhejpbnfnaaa
open Go.RowKit
open Ff
set_option linter.unusedVariables false

def isVar : Tm → Bool
  | .var _ => true | _ => false
/-- What of a kid's number counts for the term. -/
def share (t : Tm) (k : Nat) (s : Tm) (j : Nat) : UInt8 → Nat := fun x => if k + 1 = t.kids.length ∧ x ∈ (bindsOf t).take j then 0 else cntF s x
theorem share_zero (t : Tm) (k : Nat) (s : Tm) (x : UInt8) : share t k s 0 x = cntF s x := by simp [share]
theorem share_not (t : Tm) (k : Nat) (s : Tm) (h : k + 1 ≠ t.kids.length) (j : Nat) (x : UInt8) : share t k s j x = cntF s x := by simp [share, h]
theorem share_all (t : Tm) (k : Nat) (s : Tm) (h : t.kids[k]? = some s) (x : UInt8) : cntTo t k x + share t k s (bindsOf t).length x = cntTo t (k + 1) x := by
  rw [cntTo_succ t k s h, share, List.take_length]
theorem share_succ (t : Tm) (k : Nat) (s : Tm) (hk : k + 1 = t.kids.length) (j : Nat) (c : UInt8) (hc : (bindsOf t)[j]? = some c) (x : UInt8) : upd (share t k s j) c 0 x = share t k s (j + 1) x := by
  unfold share upd
  rw [List.take_add_one, hc]
  by_cases e : x = c
  · subst e; simp [hk]
  · simp [hk, e]
theorem share_le (t : Tm) (k : Nat) (s : Tm) (j : Nat) (x : UInt8) : share t k s j x ≤ cntF s x := by
  unfold share; split <;> omega
theorem cntTo_le (t : Tm) (x : UInt8) : ∀ k, cntTo t k x + 1 ≤ (before t k).length
  | 0 => by simp [cntTo, before]
  | k + 1 => by
    have ih := cntTo_le t x k
    rcases h : t.kids[k]? with _ | s
    · have e1 : cntTo t (k + 1) x = cntTo t k x := by simp [cntTo, h]
      have e2 : before t (k + 1) = before t k := by unfold before; rw [List.take_add_one, h]; simp
      rw [e1, e2]; exact ih
    · rw [cntTo_succ t k s h, before_succ t k s h, List.length_append]
      have := cnt_le s x
      split <;> omega
theorem below_grown {A B : World} (h : Below A.heap.size A B) : A.grownBy B none := ⟨h.os, h.tape, h.output, h.size, fun j hj _ => h.block j hj⟩
end Go.Proofs.Ytdedhejpbnfnaaa
