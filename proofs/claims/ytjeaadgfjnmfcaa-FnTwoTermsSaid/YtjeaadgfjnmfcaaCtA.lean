/- The specification's l1Count: how often a name stands free. -/
import Derived.Test.YtjeaadgfjnmfcaaCnt
import Derived.Deep.RegionHeld3
namespace Go.Proofs.Ytjeaadgfjnmfcaa
open Go.RowKit
open Ff
set_option linter.unusedVariables false

theorem binds_names (t : Tm) (h : kindOf t ≠ 118) : bindsOf t = namesOf t := by
  cases t with
  | var c => simp [kindOf] at h
  | _ => rfl
theorem cntTo_le0 (t : Tm) (x : UInt8) : ∀ k, cntTo t k x + 1 ≤ (before t k).length
  | 0 => by simp [cntTo, before]
  | k + 1 => by
    have ih := cntTo_le0 t x k
    rcases h : t.kids[k]? with _ | s
    · have e1 : cntTo t (k + 1) x = cntTo t k x := by simp [cntTo, h]
      have e2 : before t (k + 1) = before t k := by unfold before; rw [List.take_add_one, h]; simp
      rw [e1, e2]; exact ih
    · rw [cntTo_succ t k s h, before_succ t k s h, List.length_append]
      have := cnt_le s x
      split <;> omega
theorem names_len (t : Tm) : (namesOf t).length ≤ 2 := by cases t <;> simp [namesOf]

end Go.Proofs.Ytjeaadgfjnmfcaa
