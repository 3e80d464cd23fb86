import Derived.Test.YtefmmgccdpfnaaaGreatDoorMCt
import Derived.Test.YtefmmgccdpfnaaaGreatDoorMPt
/- Stepping, as plain data: which part is next, and what lies at a path. No program in sight. -/
namespace Go.Proofs.YtefmmgccdpfnaaaGreatDoor
open Ff
set_option linter.unusedVariables false

/-- The kids that are evaluated ahead of a part. -/
def evalK : Tm → List Tm
  | .app f a => [f, a]
  | .op _ l r => [l, r]
  | .bind _ v _ => [v]
  | .sel a _ _ => [a]
  | _ => []
/-- The path to the part that is next. -/
def redexP : Tm → List Nat
  | .app f a => if f.isVal = true then (if a.isVal = true then [] else 1 :: redexP a) else 0 :: redexP f
  | .op _ l r => if l.isVal = true then (if r.isVal = true then [] else 1 :: redexP r) else 0 :: redexP l
  | .bind _ v _ => if v.isVal = true then [] else 0 :: redexP v
  | .sel a _ _ => if a.isVal = true then [] else 0 :: redexP a
  | _ => []
/-- The part at a path. -/
def partAt : Tm → List Nat → Tm
  | t, [] => t
  | t, i :: p => match t.kids[i]? with
    | some s => partAt s p
    | none => t
/-- A term with another part at a path. -/
def withAt : Tm → List Nat → Tm → Tm
  | _, [], x => x
  | t, i :: p, x => match t.kids[i]? with
    | some s => reTm t (bindsOf t) (t.kids.set i (withAt s p x))
    | none => t
theorem evalK_kid {t s : Tm} {k : Nat} (h : (evalK t)[k]? = some s) : t.kids[k]? = some s := by
  cases t <;> simp_all [evalK, Tm.kids]
  all_goals
    rcases k with _ | k
    · simpa using h
    · simp at h
theorem evalK_closed {t s : Tm} {k : Nat} (h : (evalK t)[k]? = some s) (hc : ∀ x, cntF t x = 0) (x : UInt8) : cntF s x = 0 := by
  have := hc x
  cases t with
  | app f a => rcases k with _ | _ | k <;> simp [evalK] at h <;> subst h <;> simp only [cntF] at this <;> omega
  | op o f a => rcases k with _ | _ | k <;> simp [evalK] at h <;> subst h <;> simp only [cntF] at this <;> omega
  | bind c v b => rcases k with _ | k <;> simp [evalK] at h; subst h; simp only [cntF] at this; omega
  | sel a b c => rcases k with _ | k <;> simp [evalK] at h; subst h; simp only [cntF] at this; omega
  | _ => simp [evalK] at h
theorem redexP_none {t : Tm} (h : ∀ (k : Nat) (s : Tm), (evalK t)[k]? = some s → s.isVal = true) : redexP t = [] := by
  cases t with
  | app f a => simp [redexP, h 0 f rfl, h 1 a rfl]
  | op o f a => simp [redexP, h 0 f rfl, h 1 a rfl]
  | bind c v b => simp [redexP, h 0 v rfl]
  | sel a b c => simp [redexP, h 0 a rfl]
  | _ => rfl
theorem redexP_some {t s : Tm} {k : Nat} (h : (evalK t)[k]? = some s) (hv : s.isVal = false) (hl : ∀ (j : Nat) (r : Tm), j < k → (evalK t)[j]? = some r → r.isVal = true) : redexP t = k :: redexP s := by
  cases t with
  | app f a =>
    rcases k with _ | _ | k <;> simp [evalK] at h <;> subst h
    · simp [redexP, hv]
    · simp [redexP, hv, hl 0 f (by omega) rfl]
  | op o f a =>
    rcases k with _ | _ | k <;> simp [evalK] at h <;> subst h
    · simp [redexP, hv]
    · simp [redexP, hv, hl 0 f (by omega) rfl]
  | bind c v b => rcases k with _ | k <;> simp [evalK] at h; subst h; simp [redexP, hv]
  | sel a b c => rcases k with _ | k <;> simp [evalK] at h; subst h; simp [redexP, hv]
  | _ => simp [evalK] at h
theorem redexP_val {t : Tm} (h : t.isVal = true) : redexP t = [] := by cases t <;> simp [Tm.isVal] at h <;> rfl
theorem redexP_len : ∀ t : Tm, (redexP t).length + 1 ≤ t.depth
  | .num _ => by simp [redexP, Tm.depth]
  | .var _ => by simp [redexP, Tm.depth]
  | .fn _ _ => by simp [redexP, Tm.depth]
  | .fix _ _ _ => by simp [redexP, Tm.depth]
  | .app f a => by
    have h1 := redexP_len f
    have h2 := redexP_len a
    simp only [redexP, Tm.depth]
    split
    · split <;> simp <;> omega
    · simp; omega
  | .op _ f a => by
    have h1 := redexP_len f
    have h2 := redexP_len a
    simp only [redexP, Tm.depth]
    split
    · split <;> simp <;> omega
    · simp; omega
  | .bind _ v b => by
    have h1 := redexP_len v
    simp only [redexP, Tm.depth]
    split <;> simp <;> omega
  | .sel a b c => by
    have h1 := redexP_len a
    simp only [redexP, Tm.depth]
    split <;> simp <;> omega
theorem evalK_len (t : Tm) : (evalK t).length ≤ 2 := by cases t <;> simp [evalK]
end Go.Proofs.YtefmmgccdpfnaaaGreatDoor
