
/- The terms of the document as plain data, the two readers of a text as plain functions, and that both read the same. No program in sight. -/
namespace Ff

/-- A term. -/
inductive Tm where
  | num (n : Nat)
  | var (c : UInt8)
  | fn (c : UInt8) (b : Tm)
  | fix (f c : UInt8) (b : Tm)
  | app (f a : Tm)
  | bind (c : UInt8) (v b : Tm)
  | op (s : UInt8) (l r : Tm)
  | sel (a b c : Tm)

abbrev Text := List UInt8

namespace Tm
/-- The parts right within a term. -/
def kids : Tm → List Tm
  | num _ => []
  | var _ => []
  | fn _ b => [b]
  | fix _ _ b => [b]
  | app f a => [f, a]
  | bind _ v b => [v, b]
  | op _ l r => [l, r]
  | sel a b c => [a, b, c]
/-- How many parts lie within each other. -/
def depth : Tm → Nat
  | num _ => 1
  | var _ => 1
  | fn _ b => b.depth + 1
  | fix _ _ b => b.depth + 1
  | app f a => max f.depth a.depth + 1
  | bind _ v b => max v.depth b.depth + 1
  | op _ l r => max l.depth r.depth + 1
  | sel a b c => max a.depth (max b.depth c.depth) + 1
/-- How many parts there are. -/
def size : Tm → Nat
  | num _ => 1
  | var _ => 1
  | fn _ b => b.size + 1
  | fix _ _ b => b.size + 1
  | app f a => f.size + a.size + 1
  | bind _ v b => v.size + b.size + 1
  | op _ l r => l.size + r.size + 1
  | sel a b c => a.size + b.size + c.size + 1
theorem depth_pos (t : Tm) : 1 ≤ t.depth := by cases t <;> simp [depth]
end Tm

/-- A digit; a letter that is a name. -/
def isDig (c : UInt8) : Bool := decide (48 ≤ c.toNat) && decide (c.toNat ≤ 57)
def isNam (c : UInt8) : Bool := decide (97 ≤ c.toNat) && decide (c.toNat ≤ 112)

/-- A name at the front. -/
def name1 : Text → Option (UInt8 × Text)
  | c :: s => if isNam c then some (c, s) else none
  | [] => none

/-- A byte at the front. -/
def next1 : Text → Option (UInt8 × Text)
  | c :: s => some (c, s)
  | [] => none

/-! What stands behind the first byte of a term; 'p' reads a term. -/
section
variable (p : Text → Option (Tm × Text))
def pFn (s : Text) : Option (Tm × Text) := (name1 s).bind fun x => (p x.2).bind fun b => some (Tm.fn x.1 b.1, b.2)
def pFix (s : Text) : Option (Tm × Text) := (name1 s).bind fun f => (name1 f.2).bind fun x => if f.1 = x.1 then none else (p x.2).bind fun b => some (Tm.fix f.1 x.1 b.1, b.2)
def pApp (s : Text) : Option (Tm × Text) := (p s).bind fun f => (p f.2).bind fun a => (next1 a.2).bind fun z => if z.1.toNat = 41 then some (Tm.app f.1 a.1, z.2) else none
def pBind (s : Text) : Option (Tm × Text) := (name1 s).bind fun x => (p x.2).bind fun v => (p v.2).bind fun b => some (Tm.bind x.1 v.1 b.1, b.2)
def pOp (c : UInt8) (s : Text) : Option (Tm × Text) := (p s).bind fun l => (p l.2).bind fun r => some (Tm.op c l.1 r.1, r.2)
def pSel (s : Text) : Option (Tm × Text) := (p s).bind fun a => (p a.2).bind fun b => (p b.2).bind fun d => some (Tm.sel a.1 b.1 d.1, d.2)
def pLong (s : Text) : Option (Tm × Text) := (next1 s).bind fun a => (next1 a.2).bind fun b => if isDig a.1 = true ∧ isDig b.1 = true ∧ a.1.toNat ≠ 48 then some (Tm.num (10 * (a.1.toNat - 48) + (b.1.toNat - 48)), b.2) else none
/-- What stands behind the byte c. -/
def pBehind (c : UInt8) (s : Text) : Option (Tm × Text) :=
  if c.toNat = 35 then pLong s
  else if c.toNat = 92 then pFn p s
  else if c.toNat = 64 then pFix p s
  else if c.toNat = 40 then pApp p s
  else if c.toNat = 61 then pBind p s
  else if c.toNat = 43 ∨ c.toNat = 45 ∨ c.toNat = 42 then pOp p c s
  else if c.toNat = 63 then pSel p s
  else if isDig c = true then some (Tm.num (c.toNat - 48), s)
  else if isNam c = true then some (Tm.var c, s)
  else none
end
/-- A term at the front of a text; the number bounds how many parts lie within each other. -/
def parse : Nat → Text → Option (Tm × Text)
  | 0, _ => none
  | k + 1, s => (next1 s).bind fun c => pBehind (parse k) c.1 c.2
theorem name1_len {s r : Text} {c : UInt8} (h : name1 s = some (c, r)) : r.length + 1 = s.length := by
  cases s with
  | nil => simp [name1] at h
  | cons a s => simp only [name1] at h; split at h <;> simp_all
theorem next1_len {s r : Text} {c : UInt8} (h : next1 s = some (c, r)) : r.length + 1 = s.length := by
  cases s with
  | nil => simp [next1] at h
  | cons a s => simp only [next1, Option.some.injEq, Prod.mk.injEq] at h; simp [h.2]
/-- What is left is shorter. -/
theorem parse_len : ∀ (k : Nat) (s r : Text) (t : Tm), parse k s = some (t, r) → r.length < s.length := by
  intro k
  induction k with
  | zero => intro s r t h; simp [parse] at h
  | succ k ih =>
    intro s r t h
    simp only [parse, Option.bind_eq_some_iff, Prod.exists] at h
    obtain ⟨c, s1, h1, h⟩ := h
    have l1 := next1_len h1
    have key : r.length ≤ s1.length := by
      unfold pBehind at h
      split at h
      · simp only [pLong, Option.bind_eq_some_iff, Prod.exists] at h
        obtain ⟨a, r1, ha, b, r2, hb, h⟩ := h
        have := next1_len ha; have := next1_len hb
        split at h
        · simp only [Option.some.injEq, Prod.mk.injEq] at h; rw [← h.2]; omega
        · simp at h
      split at h
      · simp only [pFn, Option.bind_eq_some_iff, Prod.exists, Option.some.injEq, Prod.mk.injEq] at h
        obtain ⟨a, r1, ha, b, r2, hb, _, rfl⟩ := h
        have := name1_len ha; have := ih _ _ _ hb; omega
      split at h
      · simp only [pFix, Option.bind_eq_some_iff, Prod.exists] at h
        obtain ⟨a, r1, ha, b, r2, hb, h⟩ := h
        have := name1_len ha; have := name1_len hb
        split at h
        · simp at h
        · simp only [Option.bind_eq_some_iff, Prod.exists, Option.some.injEq, Prod.mk.injEq] at h
          obtain ⟨c, r3, hc, _, rfl⟩ := h
          have := ih _ _ _ hc; omega
      split at h
      · simp only [pApp, Option.bind_eq_some_iff, Prod.exists] at h
        obtain ⟨a, r1, ha, b, r2, hb, z, r3, hz, h⟩ := h
        have := ih _ _ _ ha; have := ih _ _ _ hb; have := next1_len hz
        split at h
        · simp only [Option.some.injEq, Prod.mk.injEq] at h; rw [← h.2]; omega
        · simp at h
      split at h
      · simp only [pBind, Option.bind_eq_some_iff, Prod.exists, Option.some.injEq, Prod.mk.injEq] at h
        obtain ⟨a, r1, ha, b, r2, hb, c, r3, hc, _, rfl⟩ := h
        have := name1_len ha; have := ih _ _ _ hb; have := ih _ _ _ hc; omega
      split at h
      · simp only [pOp, Option.bind_eq_some_iff, Prod.exists, Option.some.injEq, Prod.mk.injEq] at h
        obtain ⟨a, r1, ha, b, r2, hb, _, rfl⟩ := h
        have := ih _ _ _ ha; have := ih _ _ _ hb; omega
      split at h
      · simp only [pSel, Option.bind_eq_some_iff, Prod.exists, Option.some.injEq, Prod.mk.injEq] at h
        obtain ⟨a, r1, ha, b, r2, hb, c, r3, hc, _, rfl⟩ := h
        have := ih _ _ _ ha; have := ih _ _ _ hb; have := ih _ _ _ hc; omega
      split at h
      · simp only [Option.some.injEq, Prod.mk.injEq] at h; rw [← h.2]; omega
      split at h
      · simp only [Option.some.injEq, Prod.mk.injEq] at h; rw [← h.2]; omega
      · simp at h
    omega
end Ff

/- How far a term's reading depends on the bound of its depth. No program in sight. -/
namespace Ff

/-- What reads with one bound reads with another one that the term keeps. -/
theorem parse_any : ∀ (k : Nat) (s r : Text) (t : Tm), parse k s = some (t, r) → (t.depth + r.length ≤ s.length) ∧ ∀ j, t.depth ≤ j → parse j s = some (t, r) := by
  intro k
  induction k with
  | zero => intro s r t h; simp [parse] at h
  | succ k ih =>
    intro s r t h
    simp only [parse, Option.bind_eq_some_iff, Prod.exists] at h
    obtain ⟨c, s1, h1, h⟩ := h
    have l1 := next1_len h1
    have key : (t.depth + r.length ≤ s1.length + 1) ∧ ∀ j, t.depth ≤ j + 1 → pBehind (parse j) c s1 = some (t, r) := by
      unfold pBehind at h ⊢
      split at h
      · rename_i h35
        refine ⟨?_, fun j _ => by rw [if_pos h35]; exact h⟩
        simp only [pLong, Option.bind_eq_some_iff, Prod.exists] at h
        obtain ⟨a, r1, ha, b, r2, hb, h⟩ := h
        have := next1_len ha; have := next1_len hb
        split at h
        · simp only [Option.some.injEq, Prod.mk.injEq] at h; obtain ⟨rfl, rfl⟩ := h; simp only [Tm.depth]; omega
        · simp at h
      rename_i h35
      split at h
      · rename_i h92
        simp only [pFn, Option.bind_eq_some_iff, Prod.exists, Option.some.injEq, Prod.mk.injEq] at h
        obtain ⟨a, r1, ha, b, r2, hb, rfl, rfl⟩ := h
        have := name1_len ha
        obtain ⟨d1, e1⟩ := ih _ _ _ hb
        refine ⟨by simp only [Tm.depth]; omega, fun j hj => ?_⟩
        simp only [Tm.depth] at hj
        rw [if_neg h35, if_pos h92]
        simp only [pFn, ha, Option.bind_some, e1 j (by omega)]
      rename_i h92
      split at h
      · rename_i h64
        simp only [pFix, Option.bind_eq_some_iff, Prod.exists] at h
        obtain ⟨a, r1, ha, b, r2, hb, h⟩ := h
        have := name1_len ha; have := name1_len hb
        split at h
        · simp at h
        · rename_i hne
          simp only [Option.bind_eq_some_iff, Prod.exists, Option.some.injEq, Prod.mk.injEq] at h
          obtain ⟨c, r3, hc, rfl, rfl⟩ := h
          obtain ⟨d1, e1⟩ := ih _ _ _ hc
          refine ⟨by simp only [Tm.depth]; omega, fun j hj => ?_⟩
          simp only [Tm.depth] at hj
          rw [if_neg h35, if_neg h92, if_pos h64]
          simp only [pFix, ha, hb, Option.bind_some, if_neg hne, e1 j (by omega)]
      rename_i h64
      split at h
      · rename_i h40
        simp only [pApp, Option.bind_eq_some_iff, Prod.exists] at h
        obtain ⟨a, r1, ha, b, r2, hb, z, r3, hz, h⟩ := h
        obtain ⟨d1, e1⟩ := ih _ _ _ ha
        obtain ⟨d2, e2⟩ := ih _ _ _ hb
        have := next1_len hz
        split at h
        · rename_i h41
          simp only [Option.some.injEq, Prod.mk.injEq] at h
          obtain ⟨rfl, rfl⟩ := h
          refine ⟨by simp only [Tm.depth]; omega, fun j hj => ?_⟩
          simp only [Tm.depth] at hj
          rw [if_neg h35, if_neg h92, if_neg h64, if_pos h40]
          simp only [pApp, e1 j (by omega), e2 j (by omega), hz, Option.bind_some, if_pos h41]
        · simp at h
      rename_i h40
      split at h
      · rename_i h61
        simp only [pBind, Option.bind_eq_some_iff, Prod.exists, Option.some.injEq, Prod.mk.injEq] at h
        obtain ⟨a, r1, ha, b, r2, hb, c, r3, hc, rfl, rfl⟩ := h
        have := name1_len ha
        obtain ⟨d1, e1⟩ := ih _ _ _ hb
        obtain ⟨d2, e2⟩ := ih _ _ _ hc
        refine ⟨by simp only [Tm.depth]; omega, fun j hj => ?_⟩
        simp only [Tm.depth] at hj
        rw [if_neg h35, if_neg h92, if_neg h64, if_neg h40, if_pos h61]
        simp only [pBind, ha, Option.bind_some, e1 j (by omega), e2 j (by omega)]
      rename_i h61
      split at h
      · rename_i ho
        simp only [pOp, Option.bind_eq_some_iff, Prod.exists, Option.some.injEq, Prod.mk.injEq] at h
        obtain ⟨a, r1, ha, b, r2, hb, rfl, rfl⟩ := h
        obtain ⟨d1, e1⟩ := ih _ _ _ ha
        obtain ⟨d2, e2⟩ := ih _ _ _ hb
        refine ⟨by simp only [Tm.depth]; omega, fun j hj => ?_⟩
        simp only [Tm.depth] at hj
        rw [if_neg h35, if_neg h92, if_neg h64, if_neg h40, if_neg h61, if_pos ho]
        simp only [pOp, Option.bind_some, e1 j (by omega), e2 j (by omega)]
      rename_i ho
      split at h
      · rename_i h63
        simp only [pSel, Option.bind_eq_some_iff, Prod.exists, Option.some.injEq, Prod.mk.injEq] at h
        obtain ⟨a, r1, ha, b, r2, hb, c, r3, hc, rfl, rfl⟩ := h
        obtain ⟨d1, e1⟩ := ih _ _ _ ha
        obtain ⟨d2, e2⟩ := ih _ _ _ hb
        obtain ⟨d3, e3⟩ := ih _ _ _ hc
        refine ⟨by simp only [Tm.depth]; omega, fun j hj => ?_⟩
        simp only [Tm.depth] at hj
        rw [if_neg h35, if_neg h92, if_neg h64, if_neg h40, if_neg h61, if_neg ho, if_pos h63]
        simp only [pSel, Option.bind_some, e1 j (by omega), e2 j (by omega), e3 j (by omega)]
      rename_i h63
      split at h
      · rename_i hd
        simp only [Option.some.injEq, Prod.mk.injEq] at h
        obtain ⟨rfl, rfl⟩ := h
        refine ⟨by simp only [Tm.depth]; omega, fun j hj => ?_⟩
        rw [if_neg h35, if_neg h92, if_neg h64, if_neg h40, if_neg h61, if_neg ho, if_neg h63, if_pos hd]
      rename_i hd
      split at h
      · rename_i hn
        simp only [Option.some.injEq, Prod.mk.injEq] at h
        obtain ⟨rfl, rfl⟩ := h
        refine ⟨by simp only [Tm.depth]; omega, fun j hj => ?_⟩
        rw [if_neg h35, if_neg h92, if_neg h64, if_neg h40, if_neg h61, if_neg ho, if_neg h63, if_neg hd, if_pos hn]
      · simp at h
    refine ⟨by omega, fun j hj => ?_⟩
    cases j with
    | zero => have := t.depth_pos; omega
    | succ j => simp only [parse, h1, Option.bind_some]; exact key.2 j hj
/-- What a text is as a term, by the model's road and by the program's. -/
def readS (s : Text) : Option Tm := if s.length ≤ 120 then (parse 24 s).bind fun x => if x.2 = [] then some x.1 else none else none
end Ff

/- What is true of each term that a text is; values among terms. No program in sight. -/
namespace Ff
namespace Tm
/-- A term as the document's grammar has it. -/
def good : Tm → Prop
  | num n => n ≤ 99
  | var c => isNam c = true
  | fn c b => isNam c = true ∧ b.good
  | fix f c b => isNam f = true ∧ isNam c = true ∧ f ≠ c ∧ b.good
  | app f a => f.good ∧ a.good
  | bind c v b => isNam c = true ∧ v.good ∧ b.good
  | op s l r => (s = 43 ∨ s = 45 ∨ s = 42) ∧ l.good ∧ r.good
  | sel a b c => a.good ∧ b.good ∧ c.good
/-- A number or a function. -/
def isVal : Tm → Bool
  | num _ => true
  | fn _ _ => true
  | fix _ _ _ => true
  | _ => false
theorem kid_good {t s : Tm} (h : t.good) (hs : s ∈ t.kids) : s.good := by
  cases t with
  | num n => simp [kids] at hs
  | var c => simp [kids] at hs
  | fn c b => simp only [kids, List.mem_singleton] at hs; subst hs; exact h.2
  | fix f c b => simp only [kids, List.mem_singleton] at hs; subst hs; exact h.2.2.2
  | app f a => simp only [kids, List.mem_cons, List.not_mem_nil, or_false] at hs; rcases hs with hs | hs <;> subst hs <;> first | exact h.1 | exact h.2
  | bind c f a => simp only [kids, List.mem_cons, List.not_mem_nil, or_false] at hs; rcases hs with hs | hs <;> subst hs <;> first | exact h.2.1 | exact h.2.2
  | op c f a => simp only [kids, List.mem_cons, List.not_mem_nil, or_false] at hs; rcases hs with hs | hs <;> subst hs <;> first | exact h.2.1 | exact h.2.2
  | sel a b c => simp only [kids, List.mem_cons, List.not_mem_nil, or_false] at hs; rcases hs with hs | hs | hs <;> subst hs <;> first | exact h.1 | exact h.2.1 | exact h.2.2
end Tm
theorem name1_nam {s r : Text} {c : UInt8} (h : name1 s = some (c, r)) : isNam c = true := by
  cases s with
  | nil => simp [name1] at h
  | cons a s => simp only [name1] at h; split at h <;> simp_all
theorem parse_good : ∀ (k : Nat) (s r : Text) (t : Tm), parse k s = some (t, r) → t.good := by
  intro k
  induction k with
  | zero => intro s r t h; simp [parse] at h
  | succ k ih =>
    intro s r t h
    simp only [parse, Option.bind_eq_some_iff, Prod.exists] at h
    obtain ⟨c, s1, h1, h⟩ := h
    unfold pBehind at h
    split at h
    · simp only [pLong, Option.bind_eq_some_iff, Prod.exists] at h
      obtain ⟨a, r1, ha, b, r2, hb, h⟩ := h
      split at h
      · rename_i hh
        simp only [Option.some.injEq, Prod.mk.injEq] at h; rw [← h.1]
        obtain ⟨d1, d2, d3⟩ := hh
        simp only [isDig, Bool.and_eq_true, decide_eq_true_eq] at d1 d2
        simp only [Tm.good]; omega
      · simp at h
    split at h
    · simp only [pFn, Option.bind_eq_some_iff, Prod.exists, Option.some.injEq, Prod.mk.injEq] at h
      obtain ⟨a, r1, ha, b, r2, hb, rfl, _⟩ := h
      exact ⟨name1_nam ha, ih _ _ _ hb⟩
    split at h
    · simp only [pFix, Option.bind_eq_some_iff, Prod.exists] at h
      obtain ⟨a, r1, ha, b, r2, hb, h⟩ := h
      split at h
      · simp at h
      · rename_i hne
        simp only [Option.bind_eq_some_iff, Prod.exists, Option.some.injEq, Prod.mk.injEq] at h
        obtain ⟨c, r3, hc, rfl, _⟩ := h
        exact ⟨name1_nam ha, name1_nam hb, hne, ih _ _ _ hc⟩
    split at h
    · simp only [pApp, Option.bind_eq_some_iff, Prod.exists] at h
      obtain ⟨a, r1, ha, b, r2, hb, z, r3, hz, h⟩ := h
      split at h
      · simp only [Option.some.injEq, Prod.mk.injEq] at h; rw [← h.1]; exact ⟨ih _ _ _ ha, ih _ _ _ hb⟩
      · simp at h
    split at h
    · simp only [pBind, Option.bind_eq_some_iff, Prod.exists, Option.some.injEq, Prod.mk.injEq] at h
      obtain ⟨a, r1, ha, b, r2, hb, c, r3, hc, rfl, _⟩ := h
      exact ⟨name1_nam ha, ih _ _ _ hb, ih _ _ _ hc⟩
    split at h
    · rename_i ho
      simp only [pOp, Option.bind_eq_some_iff, Prod.exists, Option.some.injEq, Prod.mk.injEq] at h
      obtain ⟨a, r1, ha, b, r2, hb, rfl, _⟩ := h
      refine ⟨?_, ih _ _ _ ha, ih _ _ _ hb⟩
      rcases ho with ho | ho | ho
      · exact .inl (UInt8.toNat_inj.1 ho)
      · exact .inr (.inl (UInt8.toNat_inj.1 ho))
      · exact .inr (.inr (UInt8.toNat_inj.1 ho))
    split at h
    · simp only [pSel, Option.bind_eq_some_iff, Prod.exists, Option.some.injEq, Prod.mk.injEq] at h
      obtain ⟨a, r1, ha, b, r2, hb, c, r3, hc, rfl, _⟩ := h
      exact ⟨ih _ _ _ ha, ih _ _ _ hb, ih _ _ _ hc⟩
    split at h
    · rename_i hd
      simp only [Option.some.injEq, Prod.mk.injEq] at h; rw [← h.1]
      simp only [isDig, Bool.and_eq_true, decide_eq_true_eq] at hd
      simp only [Tm.good]; omega
    split at h
    · rename_i hn
      simp only [Option.some.injEq, Prod.mk.injEq] at h; rw [← h.1]; exact hn
    · simp at h
/-- What a text is as a term, is good; it is no deeper than 24, and its parts are no more than its bytes. -/
theorem readS_some {s : Text} {t : Tm} (h : readS s = some t) : ∃ r, parse 24 s = some (t, r) ∧ r = [] ∧ s.length ≤ 120 := by
  unfold readS at h
  split at h
  · rename_i hl
    simp only [Option.bind_eq_some_iff, Prod.exists] at h
    obtain ⟨u, r, hp, h⟩ := h
    split at h
    · rename_i hr
      simp only [Option.some.injEq] at h
      subst h
      exact ⟨r, hp, hr, hl⟩
    · simp at h
  · simp at h
theorem readS_good {s : Text} {t : Tm} (h : readS s = some t) : t.good := by
  obtain ⟨r, hp, _⟩ := readS_some h
  exact parse_good _ _ _ _ hp
theorem readS_depth {s : Text} {t : Tm} (h : readS s = some t) : t.depth ≤ 120 := by
  obtain ⟨r, hp, hr, hl⟩ := readS_some h
  have := (parse_any _ _ _ _ hp).1
  omega
end Ff

/- A reading on a longer text; the texts that laws make of other texts. No program in sight. -/
namespace Ff
theorem name1_app {s r : Text} {c : UInt8} (h : name1 s = some (c, r)) (x : Text) : name1 (s ++ x) = some (c, r ++ x) := by
  cases s with
  | nil => simp [name1] at h
  | cons a s => simp only [name1] at h; split at h <;> simp_all [name1]
theorem next1_app {s r : Text} {c : UInt8} (h : next1 s = some (c, r)) (x : Text) : next1 (s ++ x) = some (c, r ++ x) := by
  cases s with
  | nil => simp [next1] at h
  | cons a s => simp only [next1, Option.some.injEq, Prod.mk.injEq] at h; simp [next1, h.1, h.2]
theorem parse_app : ∀ (k : Nat) (s r : Text) (t : Tm), parse k s = some (t, r) → t.depth ≤ k ∧ ∀ x, parse k (s ++ x) = some (t, r ++ x) := by
  intro k
  induction k with
  | zero => intro s r t h; simp [parse] at h
  | succ k ih =>
    intro s r t h
    simp only [parse, Option.bind_eq_some_iff, Prod.exists] at h
    obtain ⟨c, s1, h1, h⟩ := h
    have key : t.depth ≤ k + 1 ∧ ∀ x, pBehind (parse k) c (s1 ++ x) = some (t, r ++ x) := by
      unfold pBehind at h ⊢
      split at h
      · rename_i h35
        simp only [pLong, Option.bind_eq_some_iff, Prod.exists] at h
        obtain ⟨a, r1, ha, b, r2, hb, h⟩ := h
        split at h
        · rename_i h41
          simp only [Option.some.injEq, Prod.mk.injEq] at h
          obtain ⟨rfl, rfl⟩ := h
          refine ⟨by simp only [Tm.depth]; omega, fun x => ?_⟩
          rw [if_pos h35]
          simp only [pLong, next1_app ha x, next1_app hb x, Option.bind_some]
          rw [if_pos h41]
        · simp at h
      rename_i h35
      split at h
      · rename_i h92
        simp only [pFn, Option.bind_eq_some_iff, Prod.exists, Option.some.injEq, Prod.mk.injEq] at h
        obtain ⟨a, r1, ha, b, r2, hb, rfl, rfl⟩ := h
        refine ⟨by have := (ih _ _ _ hb).1; simp only [Tm.depth]; omega, fun x => ?_⟩
        rw [if_neg h35, if_pos h92]
        simp only [pFn, name1_app ha x, (ih _ _ _ hb).2 x, Option.bind_some]
      rename_i h92
      split at h
      · rename_i h64
        simp only [pFix, Option.bind_eq_some_iff, Prod.exists] at h
        obtain ⟨a, r1, ha, b, r2, hb, h⟩ := h
        split at h
        · simp at h
        · rename_i hne
          simp only [Option.bind_eq_some_iff, Prod.exists, Option.some.injEq, Prod.mk.injEq] at h
          obtain ⟨c, r3, hc, rfl, rfl⟩ := h
          refine ⟨by have := (ih _ _ _ hc).1; simp only [Tm.depth]; omega, fun x => ?_⟩
          rw [if_neg h35, if_neg h92, if_pos h64]
          simp only [pFix, name1_app ha x, name1_app hb x, Option.bind_some, if_neg hne, (ih _ _ _ hc).2 x]
      rename_i h64
      split at h
      · rename_i h40
        simp only [pApp, Option.bind_eq_some_iff, Prod.exists] at h
        obtain ⟨a, r1, ha, b, r2, hb, z, r3, hz, h⟩ := h
        split at h
        · rename_i h41
          simp only [Option.some.injEq, Prod.mk.injEq] at h
          obtain ⟨rfl, rfl⟩ := h
          refine ⟨by have := (ih _ _ _ ha).1; have := (ih _ _ _ hb).1; simp only [Tm.depth]; omega, fun x => ?_⟩
          rw [if_neg h35, if_neg h92, if_neg h64, if_pos h40]
          simp only [pApp, (ih _ _ _ ha).2 x, (ih _ _ _ hb).2 x, next1_app hz x, Option.bind_some]
          rw [if_pos h41]
        · simp at h
      rename_i h40
      split at h
      · rename_i h61
        simp only [pBind, Option.bind_eq_some_iff, Prod.exists, Option.some.injEq, Prod.mk.injEq] at h
        obtain ⟨a, r1, ha, b, r2, hb, c, r3, hc, rfl, rfl⟩ := h
        refine ⟨by have := (ih _ _ _ hb).1; have := (ih _ _ _ hc).1; simp only [Tm.depth]; omega, fun x => ?_⟩
        rw [if_neg h35, if_neg h92, if_neg h64, if_neg h40, if_pos h61]
        simp only [pBind, name1_app ha x, (ih _ _ _ hb).2 x, (ih _ _ _ hc).2 x, Option.bind_some]
      rename_i h61
      split at h
      · rename_i ho
        simp only [pOp, Option.bind_eq_some_iff, Prod.exists, Option.some.injEq, Prod.mk.injEq] at h
        obtain ⟨a, r1, ha, b, r2, hb, rfl, rfl⟩ := h
        refine ⟨by have := (ih _ _ _ ha).1; have := (ih _ _ _ hb).1; simp only [Tm.depth]; omega, fun x => ?_⟩
        rw [if_neg h35, if_neg h92, if_neg h64, if_neg h40, if_neg h61, if_pos ho]
        simp only [pOp, (ih _ _ _ ha).2 x, (ih _ _ _ hb).2 x, Option.bind_some]
      rename_i ho
      split at h
      · rename_i h63
        simp only [pSel, Option.bind_eq_some_iff, Prod.exists, Option.some.injEq, Prod.mk.injEq] at h
        obtain ⟨a, r1, ha, b, r2, hb, c, r3, hc, rfl, rfl⟩ := h
        refine ⟨by have := (ih _ _ _ ha).1; have := (ih _ _ _ hb).1; have := (ih _ _ _ hc).1; simp only [Tm.depth]; omega, fun x => ?_⟩
        rw [if_neg h35, if_neg h92, if_neg h64, if_neg h40, if_neg h61, if_neg ho, if_pos h63]
        simp only [pSel, (ih _ _ _ ha).2 x, (ih _ _ _ hb).2 x, (ih _ _ _ hc).2 x, Option.bind_some]
      rename_i h63
      split at h
      · rename_i hd
        simp only [Option.some.injEq, Prod.mk.injEq] at h
        obtain ⟨rfl, rfl⟩ := h
        refine ⟨by simp only [Tm.depth]; omega, fun x => ?_⟩
        rw [if_neg h35, if_neg h92, if_neg h64, if_neg h40, if_neg h61, if_neg ho, if_neg h63, if_pos hd]
      rename_i hd
      split at h
      · rename_i hn
        simp only [Option.some.injEq, Prod.mk.injEq] at h
        obtain ⟨rfl, rfl⟩ := h
        refine ⟨by simp only [Tm.depth]; omega, fun x => ?_⟩
        rw [if_neg h35, if_neg h92, if_neg h64, if_neg h40, if_neg h61, if_neg ho, if_neg h63, if_neg hd, if_pos hn]
      · simp at h
    refine ⟨key.1, fun x => ?_⟩
    simp only [parse, next1_app h1 x, Option.bind_some]
    exact key.2 x
/-- What reads with one bound reads with a greater one. -/
theorem parse_up {k j : Nat} {s r : Text} {t : Tm} (h : parse k s = some (t, r)) (hj : k ≤ j) : parse j s = some (t, r) :=
  (parse_any _ _ _ _ h).2 j (Nat.le_trans (parse_app _ _ _ _ h).1 hj)
theorem readS_of {k : Nat} {s : Text} {t : Tm} (h : parse k s = some (t, [])) (hk : k ≤ 24) (hl : s.length ≤ 120) : readS s = some t := by
  unfold readS
  rw [if_pos hl, parse_up h hk]
  rfl
theorem readS_nest {s : Text} {t : Tm} (h : readS s = some t) : t.depth ≤ 24 := by
  obtain ⟨r, hp, _⟩ := readS_some h
  exact (parse_app _ _ _ _ hp).1
theorem parse_succ (k : Nat) (c : UInt8) (s : Text) : parse (k + 1) (c :: s) = pBehind (parse k) c s := rfl
theorem parse_nil (k : Nat) : parse k [] = none := by cases k <;> rfl
theorem behind_nam (p : Text → Option (Tm × Text)) (d : UInt8) (s : Text) (h : isNam d = true) : pBehind p d s = some (.var d, s) := by
  have h1 : 97 ≤ d.toNat ∧ d.toNat ≤ 112 := by simpa [isNam] using h
  have hd : ¬ isDig d = true := by simp [isDig]; omega
  unfold pBehind
  rw [if_neg (by omega), if_neg (by omega), if_neg (by omega), if_neg (by omega), if_neg (by omega), if_neg (by omega), if_neg (by omega), if_neg hd, if_pos h]
theorem read24 {s : Text} {T : Tm} (h : readS s = some T) : parse 24 s = some (T, []) := by
  obtain ⟨r, hp, rfl, _⟩ := readS_some h
  exact hp
/-- What begins with a name and is a term is that name alone. -/
theorem nam_alone {d : UInt8} {s r : Text} {X : Tm} {k : Nat} (h : isNam d = true) (hp : parse k (d :: s) = some (X, r)) : X = .var d ∧ r = s := by
  cases k with
  | zero => simp [parse] at hp
  | succ k =>
    rw [parse_succ, behind_nam _ _ _ h] at hp
    simp only [Option.some.injEq, Prod.mk.injEq] at hp
    exact ⟨hp.1.symm, hp.2.symm⟩
theorem fn_parts {s : Text} {X : Tm} (h : readS (92 :: s) = some X) : ∃ c r b, name1 s = some (c, r) ∧ parse 23 r = some (b, []) ∧ X = .fn c b := by
  have hp := read24 h
  rw [show (24 : Nat) = 23 + 1 from rfl, parse_succ] at hp
  unfold pBehind at hp
  rw [if_neg (by decide), if_pos (by decide)] at hp
  simp only [pFn, Option.bind_eq_some_iff, Prod.exists, Option.some.injEq, Prod.mk.injEq] at hp
  obtain ⟨c, r1, h1, b, r3, h2, rfl, rfl⟩ := hp
  exact ⟨c, r1, b, h1, h2, rfl⟩
/-- A function of a name, over a text. -/
theorem fn_read {n s : Text} {X T : Tm} (hn : n.length ≤ 1 ∨ n = [97, 98]) (h : readS (92 :: (n ++ s)) = some X) (hT : readS s = some T) : ∃ c, n = [c] ∧ isNam c = true ∧ X = .fn c T := by
  have hp2 := read24 hT
  obtain ⟨c, r1, b, h1, h2, rfl⟩ := fn_parts h
  have hc := name1_nam h1
  have e1 := parse_up h2 (show 23 ≤ 24 by omega)
  match n, hn, h1 with
  | [], _, h1 =>
    exfalso
    cases s with
    | nil => simp [name1] at h1
    | cons d s =>
      simp only [List.nil_append, name1] at h1
      split at h1
      · simp only [Option.some.injEq, Prod.mk.injEq] at h1
        obtain ⟨rfl, rfl⟩ := h1
        have := (nam_alone hc hp2).2
        subst this
        rw [parse_nil] at e1
        simp at e1
      · simp at h1
  | [d], _, h1 =>
    simp only [List.cons_append, List.nil_append, name1] at h1
    split at h1
    · simp only [Option.some.injEq, Prod.mk.injEq] at h1
      obtain ⟨rfl, rfl⟩ := h1
      rw [hp2] at e1
      simp only [Option.some.injEq, Prod.mk.injEq, and_true] at e1
      exact ⟨d, rfl, hc, by rw [e1]⟩
    · simp at h1
  | d :: d2 :: n, hn, h1 =>
    exfalso
    rcases hn with hn | hn
    · simp at hn
    · simp only [List.cons.injEq] at hn
      obtain ⟨rfl, rfl, rfl⟩ := hn
      simp only [List.cons_append, List.nil_append, name1] at h1
      split at h1
      · simp only [Option.some.injEq, Prod.mk.injEq] at h1
        obtain ⟨rfl, rfl⟩ := h1
        have := (nam_alone (by decide) e1).2
        subst this
        rw [parse_nil] at hp2
        simp at hp2
      · simp at h1
/-- A function of a name, made of a term. -/
theorem fn_made {s : Text} {T : Tm} {c : UInt8} (hc : isNam c = true) (hT : readS s = some T) (hd : T.depth ≠ 24) (hl : s.length + 2 ≤ 120) : readS (92 :: c :: s) = some (.fn c T) := by
  have hp := (parse_any _ _ _ _ (read24 hT)).2 23 (by have := readS_nest hT; omega)
  refine readS_of (k := 23 + 1) ?_ (Nat.le_refl _) (by simp; omega)
  rw [parse_succ]
  unfold pBehind
  rw [if_neg (by decide), if_pos (by decide)]
  simp [pFn, name1, hc, hp]
/-- A text that is so many functions over another one. -/
def overS : Text → Text → Text
  | s, [] => s
  | s, c :: cs => overS (92 :: c :: s) cs
def overT : Tm → Text → Tm
  | t, [] => t
  | t, c :: cs => overT (.fn c t) cs
theorem overS_snoc (s cs : Text) (c : UInt8) : overS s (cs ++ [c]) = 92 :: c :: overS s cs := by
  induction cs generalizing s with
  | nil => rfl
  | cons d cs ih => exact ih _
theorem overT_snoc (t : Tm) (cs : Text) (c : UInt8) : overT t (cs ++ [c]) = .fn c (overT t cs) := by
  induction cs generalizing t with
  | nil => rfl
  | cons d cs ih => exact ih _
/-- What a let is, over two texts. -/
theorem let_read {s u : Text} {X T : Tm} {c : UInt8} (h : readS (61 :: c :: (s ++ u)) = some X) (hT : readS s = some T) : ∃ U, readS u = some U ∧ X = .bind c T U := by
  obtain ⟨_, _, _, hl⟩ := readS_some h
  have hp := read24 h
  rw [show (24 : Nat) = 23 + 1 from rfl, parse_succ] at hp
  unfold pBehind at hp
  rw [if_neg (by decide), if_neg (by decide), if_neg (by decide), if_neg (by decide), if_pos (by decide)] at hp
  simp only [pBind, Option.bind_eq_some_iff, Prod.exists, Option.some.injEq, Prod.mk.injEq] at hp
  obtain ⟨c1, r1, h1, v, r2, h2, b, r3, h3, rfl, rfl⟩ := hp
  have hn : c1 = c ∧ r1 = s ++ u := by
    simp only [name1] at h1
    split at h1
    · simp only [Option.some.injEq, Prod.mk.injEq] at h1; exact ⟨h1.1.symm, h1.2.symm⟩
    · simp at h1
  obtain ⟨rfl, rfl⟩ := hn
  have e1 := parse_up h2 (show 23 ≤ 24 by omega)
  rw [(parse_app _ _ _ _ (read24 hT)).2 u] at e1
  simp only [Option.some.injEq, Prod.mk.injEq, List.nil_append] at e1
  obtain ⟨rfl, rfl⟩ := e1
  exact ⟨b, readS_of h3 (by omega) (by simp at hl; omega), rfl⟩
theorem app_read {s u : Text} {X T U : Tm} (h : readS (40 :: (s ++ (u ++ [41]))) = some X) (hT : readS s = some T) (hU : readS u = some U) : X = .app T U := by
  have hp := read24 h
  rw [show (24 : Nat) = 23 + 1 from rfl, parse_succ] at hp
  unfold pBehind at hp
  rw [if_neg (by decide), if_neg (by decide), if_neg (by decide), if_pos (by decide)] at hp
  simp only [pApp, Option.bind_eq_some_iff, Prod.exists] at hp
  obtain ⟨f, r1, h1, a, r2, h2, z, r3, h3, hp⟩ := hp
  have e1 := parse_up h1 (show 23 ≤ 24 by omega)
  rw [(parse_app _ _ _ _ (read24 hT)).2] at e1
  simp only [Option.some.injEq, Prod.mk.injEq, List.nil_append] at e1
  obtain ⟨rfl, rfl⟩ := e1
  have e2 := parse_up h2 (show 23 ≤ 24 by omega)
  rw [(parse_app _ _ _ _ (read24 hU)).2] at e2
  simp only [Option.some.injEq, Prod.mk.injEq, List.nil_append] at e2
  obtain ⟨rfl, rfl⟩ := e2
  split at hp
  · simp only [Option.some.injEq, Prod.mk.injEq] at hp
    exact hp.1.symm
  · simp at hp
theorem read_one : readS [49] = some (.num 1) := rfl
end Ff
