import Derived.Test.YtefmmgccdpfnaaaGreatDoorStU
import Derived.Test.YtefmmgccdpfnaaaGreatDoorPtC
/- A step, as plain data: how large it grows, and that closed states stay closed. -/
namespace Go.Proofs.YtefmmgccdpfnaaaGreatDoor
open Ff
set_option linter.unusedVariables false

theorem depth_le (t : Tm) : t.depth ≤ (parts t).length := by
  induction t with
  | num k => simp [Tm.depth, parts]
  | var c => simp [Tm.depth, parts]
  | fn c b ih => simp only [Tm.depth, parts, List.length_cons]; omega
  | fix f c b ih => simp only [Tm.depth, parts, List.length_cons]; omega
  | app f a h1 h2 => simp only [Tm.depth, parts, List.length_cons, List.length_append]; omega
  | bind c v b h1 h2 => simp only [Tm.depth, parts, List.length_cons, List.length_append]; omega
  | op o l r h1 h2 => simp only [Tm.depth, parts, List.length_cons, List.length_append]; omega
  | sel a b c h1 h2 h3 => simp only [Tm.depth, parts, List.length_cons, List.length_append]; omega
theorem cntF_le (t : Tm) (x : UInt8) : cntF t x ≤ (parts t).length := by
  induction t with
  | num k => simp [cntF]
  | var c => simp only [cntF, parts, List.length_cons, List.length_nil]; split <;> omega
  | fn c b ih => simp only [cntF, parts, List.length_cons]; split <;> omega
  | fix f c b ih => simp only [cntF, parts, List.length_cons]; split <;> omega
  | app f a h1 h2 => simp only [cntF, parts, List.length_cons, List.length_append]; omega
  | bind c v b h1 h2 => simp only [cntF, parts, List.length_cons, List.length_append]; split <;> omega
  | op o l r h1 h2 => simp only [cntF, parts, List.length_cons, List.length_append]; omega
  | sel a b c h1 h2 h3 => simp only [cntF, parts, List.length_cons, List.length_append]; omega
theorem kid_size {t s : Tm} {i : Nat} (h : t.kids[i]? = some s) : (parts s).length + 1 ≤ (parts t).length := by
  cases t with
  | num k => simp [Tm.kids] at h
  | var c => simp [Tm.kids] at h
  | fn c b => rcases i with _ | i <;> simp [Tm.kids] at h; subst h; simp [parts]
  | fix f c b => rcases i with _ | i <;> simp [Tm.kids] at h; subst h; simp [parts]
  | app f a => rcases i with _ | _ | i <;> simp [Tm.kids] at h <;> subst h <;> simp [parts] <;> omega
  | bind c v b => rcases i with _ | _ | i <;> simp [Tm.kids] at h <;> subst h <;> simp [parts] <;> omega
  | op o l r => rcases i with _ | _ | i <;> simp [Tm.kids] at h <;> subst h <;> simp [parts] <;> omega
  | sel a b c => rcases i with _ | _ | _ | i <;> simp [Tm.kids] at h <;> subst h <;> simp [parts] <;> omega
theorem part_size : ∀ (p : List Nat) (t : Tm), PathOk t p → p.length + (parts (partAt t p)).length ≤ (parts t).length
  | [], t, _ => by simp [partAt]
  | i :: p, t, h => by
    obtain ⟨s, hs, hp⟩ := h
    have e1 : partAt t (i :: p) = partAt s p := by simp [partAt, hs]
    have I := part_size p s hp
    have := kid_size hs
    rw [e1, List.length_cons]
    omega
/-- What a rule makes. -/
structure RuleSize (q r : Tm) : Prop where
  deep : r.depth ≤ 2 * (parts q).length
  many : (parts r).length ≤ 9000000
  closed : Closed r
theorem sub_size {x : UInt8} {u t : Tm} (hg : t.good) (hu : u.good) (hc : Closed u) :
    (∀ y, cntF (subS t.depth x u t).1 y = if y = x then 0 else cntF t y) ∧ (parts (subS t.depth x u t).1).length ≤ (parts t).length + cntF t x * (parts u).length ∧ (subS t.depth x u t).1.good ∧ (subS t.depth x u t).1.depth ≤ t.depth + u.depth := by
  have ho := subS_closed t.depth x u t ((free_nil hu).2 hc)
  have C := (cnt_ok t.depth).cnt x u t (Nat.le_refl _) hg hu ho
  have P := (cnt_ok t.depth).parts x u t (Nat.le_refl _) hg hu ho
  have G := subS_grown hu t.depth x t
  exact ⟨fun y => by rw [C y, hc y]; simp, by omega, G.good hg, G.deep⟩
theorem rule_size {q : Tm} (hg : q.good) (h : NextOk q) (hp : (parts q).length ≤ 1500) {r : Tm × Text} (hr : ruleT q = some r) : RuleSize q r.1 := by
  obtain ⟨hv, hc, hk⟩ := h
  have K := fun s (hs : s ∈ q.kids) => Tm.kid_good hg hs
  cases q with
  | bind c v b =>
    simp only [ruleT, Option.some.injEq] at hr
    subst hr
    have cv : Closed v := evalK_closed (k := 0) (t := .bind c v b) rfl hc
    obtain ⟨h1, h2, h3, h4⟩ := sub_size (x := c) (K b (by simp [Tm.kids])) (K v (by simp [Tm.kids])) cv
    have a1 := cntF_le b c
    have a2 := depth_le b
    have a3 := depth_le v
    simp only [parts, List.length_cons, List.length_append] at hp
    have a4 : cntF b c * (parts v).length ≤ 1500 * 1500 := Nat.mul_le_mul (by omega) (by omega)
    refine ⟨by simp only [parts, List.length_cons, List.length_append]; show (subS b.depth c v b).1.depth ≤ _; omega, by show (parts (subS b.depth c v b).1).length ≤ _; omega, fun y => ?_⟩
    show cntF (subS b.depth c v b).1 y = 0
    rw [h1]
    split
    · rfl
    · rename_i hy
      have := hc y
      simp only [cntF, List.mem_singleton] at this
      rw [if_neg hy] at this
      omega
  | app f a =>
    have ga := K a (by simp [Tm.kids])
    have gf := K f (by simp [Tm.kids])
    have ca : Closed a := evalK_closed (k := 1) (t := .app f a) rfl hc
    have cf : Closed f := evalK_closed (k := 0) (t := .app f a) rfl hc
    cases f with
    | fn c b =>
      simp only [ruleT, Option.some.injEq] at hr
      subst hr
      obtain ⟨h1, h2, h3, h4⟩ := sub_size (x := c) gf.2 ga ca
      have a1 := cntF_le b c
      have a2 := depth_le b
      have a3 := depth_le a
      simp only [parts, List.length_cons, List.length_append] at hp
      have a4 : cntF b c * (parts a).length ≤ 1500 * 1500 := Nat.mul_le_mul (by omega) (by omega)
      refine ⟨by simp only [parts, List.length_cons, List.length_append]; show (subS b.depth c a b).1.depth ≤ _; omega, by show (parts (subS b.depth c a b).1).length ≤ _; omega, fun y => ?_⟩
      show cntF (subS b.depth c a b).1 y = 0
      rw [h1]
      split
      · rfl
      · rename_i hy
        have := cf y
        simp only [cntF, List.mem_singleton] at this
        rw [if_neg hy] at this
        omega
    | fix f c b =>
      simp only [ruleT, Option.some.injEq] at hr
      subst hr
      have gb : b.good := gf.2.2.2
      obtain ⟨h1, h2, h3, h4⟩ := sub_size (x := f) gb gf cf
      generalize (subS b.depth f (.fix f c b) b).1 = r1 at *
      obtain ⟨k1, k2, k3, k4⟩ := sub_size (x := c) h3 ga ca
      have a1 := cntF_le b f
      have a5 := cntF_le b c
      have a2 := depth_le b
      have a3 := depth_le a
      have a6 : cntF r1 c ≤ cntF b c := by rw [h1]; split <;> omega
      simp only [parts, List.length_cons, List.length_append] at hp h2
      have a4 : cntF b f * ((parts b).length + 1) ≤ 1500 * 1500 := Nat.mul_le_mul (by omega) (by omega)
      have a7 : cntF r1 c * (parts a).length ≤ 1500 * 1500 := Nat.mul_le_mul (by omega) (by omega)
      simp only [Tm.depth] at h4
      refine ⟨by simp only [parts, List.length_cons, List.length_append]; show (subS r1.depth c a r1).1.depth ≤ _; omega, by show (parts (subS r1.depth c a r1).1).length ≤ _; omega, fun y => ?_⟩
      show cntF (subS r1.depth c a r1).1 y = 0
      rw [k1]
      split
      · rfl
      · rename_i hy
        rw [h1]
        split
        · rfl
        · rename_i hy2
          have := cf y
          simp only [cntF, List.mem_cons, List.not_mem_nil, or_false] at this
          rw [if_neg (by simp [hy, hy2])] at this
          omega
    | _ => cases hr
  | sel a y z =>
    cases a with
    | num k =>
      have e : r.1 = y ∨ r.1 = z := by
        simp only [ruleT] at hr
        split at hr <;> (injection hr with hr; subst hr; simp)
      have d1 := depth_le y
      have d2 := depth_le z
      have cy : ∀ x, cntF y x = 0 ∧ cntF z x = 0 := fun x => by have := hc x; simp only [cntF] at this; omega
      simp only [parts, List.length_cons, List.length_append, List.length_nil] at hp
      rcases e with e | e <;> rw [e] <;> refine ⟨by simp only [parts, List.length_cons, List.length_append]; omega, by omega, fun x => by have := cy x; simp [this.1, this.2]⟩
    | _ => cases hr
  | op o l r2 =>
    cases l with
    | num a =>
      cases r2 with
      | num b =>
        simp only [ruleT, Option.some.injEq] at hr
        subst hr
        exact ⟨by simp [Tm.depth, parts], by simp [parts], fun y => by simp [cntF]⟩
      | _ => cases hr
    | _ => cases hr
  | _ => cases hr
theorem with_closed : ∀ (t x : Tm), Closed t → Closed x → Closed (withAt t (redexP t) x)
  | .num _, x, _, hx => by simpa [redexP, withAt] using hx
  | .var _, x, _, hx => by simpa [redexP, withAt] using hx
  | .fn _ _, x, _, hx => by simpa [redexP, withAt] using hx
  | .fix _ _ _, x, _, hx => by simpa [redexP, withAt] using hx
  | .app f a, x, ht, hx => by
    have cf : Closed f := evalK_closed (k := 0) (t := .app f a) rfl ht
    have ca : Closed a := evalK_closed (k := 1) (t := .app f a) rfl ht
    have h1 := with_closed f x cf hx
    have h2 := with_closed a x ca hx
    simp only [redexP]
    split
    · split
      · simpa [withAt] using hx
      · intro y; simp [withAt, Tm.kids, reTm, cntF, h2 y, cf y]
    · intro y; simp [withAt, Tm.kids, reTm, cntF, h1 y, ca y]
  | .op o f a, x, ht, hx => by
    have cf : Closed f := evalK_closed (k := 0) (t := .op o f a) rfl ht
    have ca : Closed a := evalK_closed (k := 1) (t := .op o f a) rfl ht
    have h1 := with_closed f x cf hx
    have h2 := with_closed a x ca hx
    simp only [redexP]
    split
    · split
      · simpa [withAt] using hx
      · intro y; simp [withAt, Tm.kids, reTm, cntF, h2 y, cf y]
    · intro y; simp [withAt, Tm.kids, reTm, cntF, h1 y, ca y]
  | .bind c v b, x, ht, hx => by
    have cv : Closed v := evalK_closed (k := 0) (t := .bind c v b) rfl ht
    have h1 := with_closed v x cv hx
    simp only [redexP]
    split
    · simpa [withAt] using hx
    · intro y
      have := ht y
      simp only [cntF, cv y] at this
      simp only [withAt, Tm.kids, reTm, bindsOf, List.getElem?_cons_zero, List.set_cons_zero, List.headD_cons, List.drop_succ_cons, List.drop_zero, cntF, h1 y]
      exact this
  | .sel a b c, x, ht, hx => by
    have ca : Closed a := evalK_closed (k := 0) (t := .sel a b c) rfl ht
    have h1 := with_closed a x ca hx
    simp only [redexP]
    split
    · simpa [withAt] using hx
    · intro y
      have := ht y
      simp only [cntF, ca y] at this
      simp only [withAt, Tm.kids, reTm, List.getElem?_cons_zero, List.set_cons_zero, List.headD_cons, List.drop_succ_cons, List.drop_zero, cntF, h1 y]
      omega
/-- What a step makes, ahead of the test of its length. -/
structure MadeOk (t R : Tm) : Prop where
  good : R.good
  deep : R.depth ≤ 3000
  many : (parts R).length ≤ 9001500
  closed : Closed R
theorem made_ok {t : Tm} (hg : t.good) (hp : (parts t).length ≤ 1500) (hc : Closed t) (hv : t.isVal = false) {r : Tm × Text} (hr : ruleT (partAt t (redexP t)) = some r) : MadeOk t (withAt t (redexP t) r.1) := by
  have hN := next_ok t.depth t (Nat.le_refl _) hv hc
  obtain ⟨pg, pd, pp⟩ := part_at_facts t (redexP t) (redexP_ok t)
  have ps := part_size (redexP t) t (redexP_ok t)
  have hq := rule_good (pg hg) hr
  have S := rule_size (pg hg) hN (by omega) hr
  have W := with_ok (redexP t) t r.1 (redexP_ok t)
  have d0 := depth_le t
  have s1 := S.deep
  have s2 := S.many
  have w1 := W.deep
  have w2 := W.many
  exact ⟨W.good hg hq, by omega, by omega, with_closed t r.1 hc S.closed⟩
/-- A state that a step makes. -/
structure StateOk (t : Tm) : Prop where
  good : t.good
  many : (parts t).length ≤ 1500
  closed : Closed t
theorem StateOk.deep {t : Tm} (h : StateOk t) : t.depth ≤ 1500 := by have := depth_le t; have := h.many; omega
theorem step_ok' {t : Tm} (h : StateOk t) {r : Tm × Text} (hr : stepT t = some r) : StateOk r.1 := by
  unfold stepT at hr
  cases hv : t.isVal
  · rw [hv] at hr
    simp only [Bool.false_eq_true, if_false] at hr
    rcases hq : ruleT (partAt t (redexP t)) with _ | q
    · rw [hq] at hr; cases hr
    · rw [hq] at hr
      simp only [Option.bind_some] at hr
      split at hr
      · rename_i hl
        injection hr with hr
        subst hr
        have M := made_ok h.good h.many h.closed hv hq
        have hm := own_many (parts (withAt t (redexP t) q.1))
        rw [own_sum] at hm
        exact ⟨M.good, by show (parts (withAt t (redexP t) q.1)).length ≤ 1500; omega, M.closed⟩
      · cases hr
  · rw [hv] at hr; cases hr
end Go.Proofs.YtefmmgccdpfnaaaGreatDoor

/- Runs by putting, as plain data: the state after so many steps; the states of a run. No program in sight. -/
namespace Go.Proofs.YtefmmgccdpfnaaaGreatDoor
open Ff
set_option linter.unusedVariables false

/-- The state after so many steps at most, and how many there were. -/
def goT (t : Tm) : Nat → Tm × Nat
  | 0 => (t, 0)
  | k + 1 => if (goT t k).2 = k then (match stepT (goT t k).1 with | some r => (r.1, k + 1) | none => ((goT t k).1, k)) else goT t k
theorem goT_zero (t : Tm) : (goT t 0).2 = 0 := rfl
theorem goT_zero' (t : Tm) : (goT t 0).1 = t := rfl
theorem goT_le (t : Tm) : ∀ k, (goT t k).2 ≤ k
  | 0 => Nat.le_refl _
  | k + 1 => by
    have := goT_le t k
    unfold goT
    split
    · split
      · exact Nat.le_refl _
      · exact Nat.le_succ _
    · omega
theorem goT_step {t : Tm} {k : Nat} {r : Tm × Text} (hk : (goT t k).2 = k) (hr : stepT (goT t k).1 = some r) : goT t (k + 1) = (r.1, k + 1) := by
  rw [goT, if_pos hk, hr]
theorem goT_stop {t : Tm} {k : Nat} (hk : (goT t k).2 = k) (hr : stepT (goT t k).1 = none) : ∀ j, goT t (k + j) = ((goT t k).1, k)
  | 0 => by
    rw [Nat.add_zero]
    exact Prod.ext rfl hk
  | j + 1 => by
    have I := goT_stop hk hr j
    rw [← Nat.add_assoc, goT, I]
    simp only
    split
    · rename_i e
      rw [hr]
      simp only
      rw [← e]
    · rfl
theorem goT_ok {t : Tm} (h : StateOk t) : ∀ k, StateOk (goT t k).1
  | 0 => h
  | k + 1 => by
    have I := goT_ok h k
    unfold goT
    split
    · split
      · rename_i r hr
        exact step_ok' I hr
      · exact I
    · exact I
theorem goT_reach (t : Tm) {i : Nat} (hi : (goT t i).2 = i) : ∀ j, i ≤ (goT t (i + j)).2
  | 0 => by rw [Nat.add_zero, hi]; exact Nat.le_refl _
  | j + 1 => by
    have I := goT_reach t hi j
    rw [← Nat.add_assoc, goT]
    split
    · split
      · show i ≤ i + j + 1; omega
      · show i ≤ i + j; omega
    · exact I
theorem goT_back {t : Tm} {k : Nat} (h : (goT t (k + 1)).2 = k + 1) : (goT t k).2 = k := by
  have hl := goT_le t k
  rw [goT] at h
  split at h
  · assumption
  · omega
/-- A state of a run, with how many steps have led to it. -/
abbrev RunX : Type := {x : Nat × Tm // StateOk x.2}
def stX (t : Tm) (h : StateOk t) (i : Nat) : RunX := ⟨(i, (goT t i).1), goT_ok h i⟩
/-- The states of a run. -/
def runN (N : Nat) (t : Tm) (h : StateOk t) : List RunX := (List.range ((goT t N).2 + 1)).map (stX t h)
theorem runN_len (N : Nat) (t : Tm) (h : StateOk t) : (runN N t h).length = (goT t N).2 + 1 := by simp [runN]
theorem runN_at (N : Nat) (t : Tm) (h : StateOk t) {i : Nat} (hi : i < (runN N t h).length) : (runN N t h)[i]? = some (stX t h i) := by
  rw [runN_len] at hi
  simp [runN, hi]
theorem runN_take (N : Nat) (t : Tm) (h : StateOk t) {i : Nat} (hi : i < (runN N t h).length) : (runN N t h).take i ++ [stX t h i] = (runN N t h).take (i + 1) := by
  rw [List.take_add_one, runN_at N t h hi]
  rfl
theorem runN_pre (N : Nat) (t : Tm) (h : StateOk t) {i : Nat} (hi : i < (runN N t h).length) : (runN N t h).take i ++ [stX t h i] <+: runN N t h := by
  rw [runN_take N t h hi]
  exact List.take_prefix _ _
theorem goT_same (N : Nat) (t : Tm) {k : Nat} (hk : k ≤ (goT t N).2) : (goT t k).2 = k := by
  have h3 := goT_le t N
  apply Classical.byContradiction
  intro hne
  have hlt : (goT t k).2 < k := by have := goT_le t k; omega
  have stuck : ∀ j, (goT t (k + j)).2 < k := by
    intro j
    induction j with
    | zero => exact hlt
    | succ j ih =>
      rw [← Nat.add_assoc, goT, if_neg (by omega)]
      exact ih
  have := stuck (N - k)
  rw [Nat.add_sub_cancel' (by omega)] at this
  omega
theorem runN_last (N : Nat) (t : Tm) (h : StateOk t) : (runN N t h).getLast? = some ⟨((goT t N).2, (goT t N).1), goT_ok h N⟩ := by
  have e : (goT t (goT t N).2).1 = (goT t N).1 := by
    have h3 := goT_le t N
    have hs := goT_same N t (Nat.le_refl (goT t N).2)
    by_cases hq : (goT t N).2 = N
    · rw [hq]
    · rcases hr : stepT (goT t (goT t N).2).1 with _ | r
      · have := goT_stop hs hr (N - (goT t N).2)
        rw [Nat.add_sub_cancel' h3] at this
        rw [this]
      · have h1 := goT_step hs hr
        have h2 := goT_reach t (i := (goT t N).2 + 1) (by rw [h1]) (N - (goT t N).2 - 1)
        rw [show (goT t N).2 + 1 + (N - (goT t N).2 - 1) = N by omega] at h2
        omega
  unfold runN
  rw [List.range_succ, List.map_append, List.map_singleton, List.getLast?_append]
  simp only [List.getLast?_singleton, Option.some_or]
  refine congrArg some (Subtype.ext ?_)
  exact Prod.ext rfl e
/-- The states of a run. -/
abbrev runL (t : Tm) (h : StateOk t) : List RunX := runN 300 t h
end Go.Proofs.YtefmmgccdpfnaaaGreatDoor
