/- How far a term's reading depends on the bound of its depth. No program in sight. -/
import Derived.Test.YtpiahmdgkmkhiaaTm
namespace Ff

/-- What reads with one bound reads with another one that the term keeps. -/
theorem parse_any : ∀ (k : Nat) (s r : Text) (t : Tm), parse k s = some (t, r) → (t.depth + r.length ≤ s.length) ∧ ∀ j, t.depth ≤ j → parse j s = some (t, r) := by
  intro k
  induction k with
  | zero => intro s r t h; simp [parse] at h
  | succ k ih =>
    intro s r t h
    simp only [parse, Option.bind_eq_some_iff, Prod.exists] at h
    obtain ⟨c, s1, h1, h⟩ := h
    have l1 := next1_len h1
    have key : (t.depth + r.length ≤ s1.length + 1) ∧ ∀ j, t.depth ≤ j + 1 → pBehind (parse j) c s1 = some (t, r) := by
      unfold pBehind at h ⊢
      split at h
      · rename_i h35
        refine ⟨?_, fun j _ => by rw [if_pos h35]; exact h⟩
        simp only [pLong, Option.bind_eq_some_iff, Prod.exists] at h
        obtain ⟨a, r1, ha, b, r2, hb, h⟩ := h
        have := next1_len ha; have := next1_len hb
        split at h
        · simp only [Option.some.injEq, Prod.mk.injEq] at h; obtain ⟨rfl, rfl⟩ := h; simp only [Tm.depth]; omega
        · simp at h
      rename_i h35
      split at h
      · rename_i h92
        simp only [pFn, Option.bind_eq_some_iff, Prod.exists, Option.some.injEq, Prod.mk.injEq] at h
        obtain ⟨a, r1, ha, b, r2, hb, rfl, rfl⟩ := h
        have := name1_len ha
        obtain ⟨d1, e1⟩ := ih _ _ _ hb
        refine ⟨by simp only [Tm.depth]; omega, fun j hj => ?_⟩
        simp only [Tm.depth] at hj
        rw [if_neg h35, if_pos h92]
        simp only [pFn, ha, Option.bind_some, e1 j (by omega)]
      rename_i h92
      split at h
      · rename_i h64
        simp only [pFix, Option.bind_eq_some_iff, Prod.exists] at h
        obtain ⟨a, r1, ha, b, r2, hb, h⟩ := h
        have := name1_len ha; have := name1_len hb
        split at h
        · simp at h
        · rename_i hne
          simp only [Option.bind_eq_some_iff, Prod.exists, Option.some.injEq, Prod.mk.injEq] at h
          obtain ⟨c, r3, hc, rfl, rfl⟩ := h
          obtain ⟨d1, e1⟩ := ih _ _ _ hc
          refine ⟨by simp only [Tm.depth]; omega, fun j hj => ?_⟩
          simp only [Tm.depth] at hj
          rw [if_neg h35, if_neg h92, if_pos h64]
          simp only [pFix, ha, hb, Option.bind_some, if_neg hne, e1 j (by omega)]
      rename_i h64
      split at h
      · rename_i h40
        simp only [pApp, Option.bind_eq_some_iff, Prod.exists] at h
        obtain ⟨a, r1, ha, b, r2, hb, z, r3, hz, h⟩ := h
        obtain ⟨d1, e1⟩ := ih _ _ _ ha
        obtain ⟨d2, e2⟩ := ih _ _ _ hb
        have := next1_len hz
        split at h
        · rename_i h41
          simp only [Option.some.injEq, Prod.mk.injEq] at h
          obtain ⟨rfl, rfl⟩ := h
          refine ⟨by simp only [Tm.depth]; omega, fun j hj => ?_⟩
          simp only [Tm.depth] at hj
          rw [if_neg h35, if_neg h92, if_neg h64, if_pos h40]
          simp only [pApp, e1 j (by omega), e2 j (by omega), hz, Option.bind_some, if_pos h41]
        · simp at h
      rename_i h40
      split at h
      · rename_i h61
        simp only [pBind, Option.bind_eq_some_iff, Prod.exists, Option.some.injEq, Prod.mk.injEq] at h
        obtain ⟨a, r1, ha, b, r2, hb, c, r3, hc, rfl, rfl⟩ := h
        have := name1_len ha
        obtain ⟨d1, e1⟩ := ih _ _ _ hb
        obtain ⟨d2, e2⟩ := ih _ _ _ hc
        refine ⟨by simp only [Tm.depth]; omega, fun j hj => ?_⟩
        simp only [Tm.depth] at hj
        rw [if_neg h35, if_neg h92, if_neg h64, if_neg h40, if_pos h61]
        simp only [pBind, ha, Option.bind_some, e1 j (by omega), e2 j (by omega)]
      rename_i h61
      split at h
      · rename_i ho
        simp only [pOp, Option.bind_eq_some_iff, Prod.exists, Option.some.injEq, Prod.mk.injEq] at h
        obtain ⟨a, r1, ha, b, r2, hb, rfl, rfl⟩ := h
        obtain ⟨d1, e1⟩ := ih _ _ _ ha
        obtain ⟨d2, e2⟩ := ih _ _ _ hb
        refine ⟨by simp only [Tm.depth]; omega, fun j hj => ?_⟩
        simp only [Tm.depth] at hj
        rw [if_neg h35, if_neg h92, if_neg h64, if_neg h40, if_neg h61, if_pos ho]
        simp only [pOp, Option.bind_some, e1 j (by omega), e2 j (by omega)]
      rename_i ho
      split at h
      · rename_i h63
        simp only [pSel, Option.bind_eq_some_iff, Prod.exists, Option.some.injEq, Prod.mk.injEq] at h
        obtain ⟨a, r1, ha, b, r2, hb, c, r3, hc, rfl, rfl⟩ := h
        obtain ⟨d1, e1⟩ := ih _ _ _ ha
        obtain ⟨d2, e2⟩ := ih _ _ _ hb
        obtain ⟨d3, e3⟩ := ih _ _ _ hc
        refine ⟨by simp only [Tm.depth]; omega, fun j hj => ?_⟩
        simp only [Tm.depth] at hj
        rw [if_neg h35, if_neg h92, if_neg h64, if_neg h40, if_neg h61, if_neg ho, if_pos h63]
        simp only [pSel, Option.bind_some, e1 j (by omega), e2 j (by omega), e3 j (by omega)]
      rename_i h63
      split at h
      · rename_i hd
        simp only [Option.some.injEq, Prod.mk.injEq] at h
        obtain ⟨rfl, rfl⟩ := h
        refine ⟨by simp only [Tm.depth]; omega, fun j hj => ?_⟩
        rw [if_neg h35, if_neg h92, if_neg h64, if_neg h40, if_neg h61, if_neg ho, if_neg h63, if_pos hd]
      rename_i hd
      split at h
      · rename_i hn
        simp only [Option.some.injEq, Prod.mk.injEq] at h
        obtain ⟨rfl, rfl⟩ := h
        refine ⟨by simp only [Tm.depth]; omega, fun j hj => ?_⟩
        rw [if_neg h35, if_neg h92, if_neg h64, if_neg h40, if_neg h61, if_neg ho, if_neg h63, if_neg hd, if_pos hn]
      · simp at h
    refine ⟨by omega, fun j hj => ?_⟩
    cases j with
    | zero => have := t.depth_pos; omega
    | succ j => simp only [parse, h1, Option.bind_some]; exact key.2 j hj
/-- What a text is as a term, by the model's road and by the program's. -/
def readS (s : Text) : Option Tm := if s.length ≤ 120 then (parse 24 s).bind fun x => if x.2 = [] then some x.1 else none else none
end Ff
