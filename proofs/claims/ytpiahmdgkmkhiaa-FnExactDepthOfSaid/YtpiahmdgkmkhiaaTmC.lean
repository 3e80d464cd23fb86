/- What is true of each term that a text is; values among terms. No program in sight. -/
import Derived.Test.YtpiahmdgkmkhiaaTmB
namespace Ff
namespace Tm
/-- A term as the document's grammar has it. -/
def good : Tm → Prop
  | num n => n ≤ 99
  | var c => isNam c = true
  | fn c b => isNam c = true ∧ b.good
  | fix f c b => isNam f = true ∧ isNam c = true ∧ f ≠ c ∧ b.good
  | app f a => f.good ∧ a.good
  | bind c v b => isNam c = true ∧ v.good ∧ b.good
  | op s l r => (s = 43 ∨ s = 45 ∨ s = 42) ∧ l.good ∧ r.good
  | sel a b c => a.good ∧ b.good ∧ c.good
/-- A number or a function. -/
def isVal : Tm → Bool
  | num _ => true
  | fn _ _ => true
  | fix _ _ _ => true
  | _ => false
theorem kid_good {t s : Tm} (h : t.good) (hs : s ∈ t.kids) : s.good := by
  cases t with
  | num n => simp [kids] at hs
  | var c => simp [kids] at hs
  | fn c b => simp only [kids, List.mem_singleton] at hs; subst hs; exact h.2
  | fix f c b => simp only [kids, List.mem_singleton] at hs; subst hs; exact h.2.2.2
  | app f a => simp only [kids, List.mem_cons, List.not_mem_nil, or_false] at hs; rcases hs with hs | hs <;> subst hs <;> first | exact h.1 | exact h.2
  | bind c f a => simp only [kids, List.mem_cons, List.not_mem_nil, or_false] at hs; rcases hs with hs | hs <;> subst hs <;> first | exact h.2.1 | exact h.2.2
  | op c f a => simp only [kids, List.mem_cons, List.not_mem_nil, or_false] at hs; rcases hs with hs | hs <;> subst hs <;> first | exact h.2.1 | exact h.2.2
  | sel a b c => simp only [kids, List.mem_cons, List.not_mem_nil, or_false] at hs; rcases hs with hs | hs | hs <;> subst hs <;> first | exact h.1 | exact h.2.1 | exact h.2.2
end Tm
theorem name1_nam {s r : Text} {c : UInt8} (h : name1 s = some (c, r)) : isNam c = true := by
  cases s with
  | nil => simp [name1] at h
  | cons a s => simp only [name1] at h; split at h <;> simp_all
theorem parse_good : ∀ (k : Nat) (s r : Text) (t : Tm), parse k s = some (t, r) → t.good := by
  intro k
  induction k with
  | zero => intro s r t h; simp [parse] at h
  | succ k ih =>
    intro s r t h
    simp only [parse, Option.bind_eq_some_iff, Prod.exists] at h
    obtain ⟨c, s1, h1, h⟩ := h
    unfold pBehind at h
    split at h
    · simp only [pLong, Option.bind_eq_some_iff, Prod.exists] at h
      obtain ⟨a, r1, ha, b, r2, hb, h⟩ := h
      split at h
      · rename_i hh
        simp only [Option.some.injEq, Prod.mk.injEq] at h; rw [← h.1]
        obtain ⟨d1, d2, d3⟩ := hh
        simp only [isDig, Bool.and_eq_true, decide_eq_true_eq] at d1 d2
        simp only [Tm.good]; omega
      · simp at h
    split at h
    · simp only [pFn, Option.bind_eq_some_iff, Prod.exists, Option.some.injEq, Prod.mk.injEq] at h
      obtain ⟨a, r1, ha, b, r2, hb, rfl, _⟩ := h
      exact ⟨name1_nam ha, ih _ _ _ hb⟩
    split at h
    · simp only [pFix, Option.bind_eq_some_iff, Prod.exists] at h
      obtain ⟨a, r1, ha, b, r2, hb, h⟩ := h
      split at h
      · simp at h
      · rename_i hne
        simp only [Option.bind_eq_some_iff, Prod.exists, Option.some.injEq, Prod.mk.injEq] at h
        obtain ⟨c, r3, hc, rfl, _⟩ := h
        exact ⟨name1_nam ha, name1_nam hb, hne, ih _ _ _ hc⟩
    split at h
    · simp only [pApp, Option.bind_eq_some_iff, Prod.exists] at h
      obtain ⟨a, r1, ha, b, r2, hb, z, r3, hz, h⟩ := h
      split at h
      · simp only [Option.some.injEq, Prod.mk.injEq] at h; rw [← h.1]; exact ⟨ih _ _ _ ha, ih _ _ _ hb⟩
      · simp at h
    split at h
    · simp only [pBind, Option.bind_eq_some_iff, Prod.exists, Option.some.injEq, Prod.mk.injEq] at h
      obtain ⟨a, r1, ha, b, r2, hb, c, r3, hc, rfl, _⟩ := h
      exact ⟨name1_nam ha, ih _ _ _ hb, ih _ _ _ hc⟩
    split at h
    · rename_i ho
      simp only [pOp, Option.bind_eq_some_iff, Prod.exists, Option.some.injEq, Prod.mk.injEq] at h
      obtain ⟨a, r1, ha, b, r2, hb, rfl, _⟩ := h
      refine ⟨?_, ih _ _ _ ha, ih _ _ _ hb⟩
      rcases ho with ho | ho | ho
      · exact .inl (UInt8.toNat_inj.1 ho)
      · exact .inr (.inl (UInt8.toNat_inj.1 ho))
      · exact .inr (.inr (UInt8.toNat_inj.1 ho))
    split at h
    · simp only [pSel, Option.bind_eq_some_iff, Prod.exists, Option.some.injEq, Prod.mk.injEq] at h
      obtain ⟨a, r1, ha, b, r2, hb, c, r3, hc, rfl, _⟩ := h
      exact ⟨ih _ _ _ ha, ih _ _ _ hb, ih _ _ _ hc⟩
    split at h
    · rename_i hd
      simp only [Option.some.injEq, Prod.mk.injEq] at h; rw [← h.1]
      simp only [isDig, Bool.and_eq_true, decide_eq_true_eq] at hd
      simp only [Tm.good]; omega
    split at h
    · rename_i hn
      simp only [Option.some.injEq, Prod.mk.injEq] at h; rw [← h.1]; exact hn
    · simp at h
/-- What a text is as a term, is good; it is no deeper than 24, and its parts are no more than its bytes. -/
theorem readS_some {s : Text} {t : Tm} (h : readS s = some t) : ∃ r, parse 24 s = some (t, r) ∧ r = [] ∧ s.length ≤ 120 := by
  unfold readS at h
  split at h
  · rename_i hl
    simp only [Option.bind_eq_some_iff, Prod.exists] at h
    obtain ⟨u, r, hp, h⟩ := h
    split at h
    · rename_i hr
      simp only [Option.some.injEq] at h
      subst h
      exact ⟨r, hp, hr, hl⟩
    · simp at h
  · simp at h
theorem readS_good {s : Text} {t : Tm} (h : readS s = some t) : t.good := by
  obtain ⟨r, hp, _⟩ := readS_some h
  exact parse_good _ _ _ _ hp
theorem readS_depth {s : Text} {t : Tm} (h : readS s = some t) : t.depth ≤ 120 := by
  obtain ⟨r, hp, hr, hl⟩ := readS_some h
  have := (parse_any _ _ _ _ hp).1
  omega
end Ff
