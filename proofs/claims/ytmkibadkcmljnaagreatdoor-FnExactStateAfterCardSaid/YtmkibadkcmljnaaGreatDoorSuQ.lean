import Derived.Test.YtmkibadkcmljnaaGreatDoorSuP
/- Runs by putting, as plain data: the state after so many steps; the states of a run. No program in sight. -/
namespace Go.Proofs.YtmkibadkcmljnaaGreatDoor
open Ff
set_option linter.unusedVariables false

/-- The state after so many steps at most, and how many there were. -/
def goT (t : Tm) : Nat → Tm × Nat
  | 0 => (t, 0)
  | k + 1 => if (goT t k).2 = k then (match stepT (goT t k).1 with | some r => (r.1, k + 1) | none => ((goT t k).1, k)) else goT t k
theorem goT_zero (t : Tm) : (goT t 0).2 = 0 := rfl
theorem goT_zero' (t : Tm) : (goT t 0).1 = t := rfl
theorem goT_le (t : Tm) : ∀ k, (goT t k).2 ≤ k
  | 0 => Nat.le_refl _
  | k + 1 => by
    have := goT_le t k
    unfold goT
    split
    · split
      · exact Nat.le_refl _
      · exact Nat.le_succ _
    · omega
theorem goT_step {t : Tm} {k : Nat} {r : Tm × Text} (hk : (goT t k).2 = k) (hr : stepT (goT t k).1 = some r) : goT t (k + 1) = (r.1, k + 1) := by
  rw [goT, if_pos hk, hr]
theorem goT_stop {t : Tm} {k : Nat} (hk : (goT t k).2 = k) (hr : stepT (goT t k).1 = none) : ∀ j, goT t (k + j) = ((goT t k).1, k)
  | 0 => by
    rw [Nat.add_zero]
    exact Prod.ext rfl hk
  | j + 1 => by
    have I := goT_stop hk hr j
    rw [← Nat.add_assoc, goT, I]
    simp only
    split
    · rename_i e
      rw [hr]
      simp only
      rw [← e]
    · rfl
theorem goT_ok {t : Tm} (h : StateOk t) : ∀ k, StateOk (goT t k).1
  | 0 => h
  | k + 1 => by
    have I := goT_ok h k
    unfold goT
    split
    · split
      · rename_i r hr
        exact step_ok' I hr
      · exact I
    · exact I
theorem goT_reach (t : Tm) {i : Nat} (hi : (goT t i).2 = i) : ∀ j, i ≤ (goT t (i + j)).2
  | 0 => by rw [Nat.add_zero, hi]; exact Nat.le_refl _
  | j + 1 => by
    have I := goT_reach t hi j
    rw [← Nat.add_assoc, goT]
    split
    · split
      · show i ≤ i + j + 1; omega
      · show i ≤ i + j; omega
    · exact I
theorem goT_back {t : Tm} {k : Nat} (h : (goT t (k + 1)).2 = k + 1) : (goT t k).2 = k := by
  have hl := goT_le t k
  rw [goT] at h
  split at h
  · assumption
  · omega
/-- A state of a run, with how many steps have led to it. -/
abbrev RunX : Type := {x : Nat × Tm // StateOk x.2}
def stX (t : Tm) (h : StateOk t) (i : Nat) : RunX := ⟨(i, (goT t i).1), goT_ok h i⟩
/-- The states of a run. -/
def runN (N : Nat) (t : Tm) (h : StateOk t) : List RunX := (List.range ((goT t N).2 + 1)).map (stX t h)
theorem runN_len (N : Nat) (t : Tm) (h : StateOk t) : (runN N t h).length = (goT t N).2 + 1 := by simp [runN]
theorem runN_at (N : Nat) (t : Tm) (h : StateOk t) {i : Nat} (hi : i < (runN N t h).length) : (runN N t h)[i]? = some (stX t h i) := by
  rw [runN_len] at hi
  simp [runN, hi]
theorem runN_take (N : Nat) (t : Tm) (h : StateOk t) {i : Nat} (hi : i < (runN N t h).length) : (runN N t h).take i ++ [stX t h i] = (runN N t h).take (i + 1) := by
  rw [List.take_add_one, runN_at N t h hi]
  rfl
theorem runN_pre (N : Nat) (t : Tm) (h : StateOk t) {i : Nat} (hi : i < (runN N t h).length) : (runN N t h).take i ++ [stX t h i] <+: runN N t h := by
  rw [runN_take N t h hi]
  exact List.take_prefix _ _
theorem goT_same (N : Nat) (t : Tm) {k : Nat} (hk : k ≤ (goT t N).2) : (goT t k).2 = k := by
  have h3 := goT_le t N
  apply Classical.byContradiction
  intro hne
  have hlt : (goT t k).2 < k := by have := goT_le t k; omega
  have stuck : ∀ j, (goT t (k + j)).2 < k := by
    intro j
    induction j with
    | zero => exact hlt
    | succ j ih =>
      rw [← Nat.add_assoc, goT, if_neg (by omega)]
      exact ih
  have := stuck (N - k)
  rw [Nat.add_sub_cancel' (by omega)] at this
  omega
theorem runN_last (N : Nat) (t : Tm) (h : StateOk t) : (runN N t h).getLast? = some ⟨((goT t N).2, (goT t N).1), goT_ok h N⟩ := by
  have e : (goT t (goT t N).2).1 = (goT t N).1 := by
    have h3 := goT_le t N
    have hs := goT_same N t (Nat.le_refl (goT t N).2)
    by_cases hq : (goT t N).2 = N
    · rw [hq]
    · rcases hr : stepT (goT t (goT t N).2).1 with _ | r
      · have := goT_stop hs hr (N - (goT t N).2)
        rw [Nat.add_sub_cancel' h3] at this
        rw [this]
      · have h1 := goT_step hs hr
        have h2 := goT_reach t (i := (goT t N).2 + 1) (by rw [h1]) (N - (goT t N).2 - 1)
        rw [show (goT t N).2 + 1 + (N - (goT t N).2 - 1) = N by omega] at h2
        omega
  unfold runN
  rw [List.range_succ, List.map_append, List.map_singleton, List.getLast?_append]
  simp only [List.getLast?_singleton, Option.some_or]
  refine congrArg some (Subtype.ext ?_)
  exact Prod.ext rfl e
/-- The states of a run. -/
abbrev runL (t : Tm) (h : StateOk t) : List RunX := runN 300 t h
end Go.Proofs.YtmkibadkcmljnaaGreatDoor
