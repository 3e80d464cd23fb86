/- The terms of the document as plain data, the two readers of a text as plain functions, and that both read the same. No program in sight. -/
namespace Ff

/-- A term. -/
inductive Tm where
  | num (n : Nat)
  | var (c : UInt8)
  | fn (c : UInt8) (b : Tm)
  | fix (f c : UInt8) (b : Tm)
  | app (f a : Tm)
  | bind (c : UInt8) (v b : Tm)
  | op (s : UInt8) (l r : Tm)
  | sel (a b c : Tm)

abbrev Text := List UInt8

namespace Tm
/-- The parts right within a term. -/
def kids : Tm → List Tm
  | num _ => []
  | var _ => []
  | fn _ b => [b]
  | fix _ _ b => [b]
  | app f a => [f, a]
  | bind _ v b => [v, b]
  | op _ l r => [l, r]
  | sel a b c => [a, b, c]
/-- How many parts lie within each other. -/
def depth : Tm → Nat
  | num _ => 1
  | var _ => 1
  | fn _ b => b.depth + 1
  | fix _ _ b => b.depth + 1
  | app f a => max f.depth a.depth + 1
  | bind _ v b => max v.depth b.depth + 1
  | op _ l r => max l.depth r.depth + 1
  | sel a b c => max a.depth (max b.depth c.depth) + 1
/-- How many parts there are. -/
def size : Tm → Nat
  | num _ => 1
  | var _ => 1
  | fn _ b => b.size + 1
  | fix _ _ b => b.size + 1
  | app f a => f.size + a.size + 1
  | bind _ v b => v.size + b.size + 1
  | op _ l r => l.size + r.size + 1
  | sel a b c => a.size + b.size + c.size + 1
theorem depth_pos (t : Tm) : 1 ≤ t.depth := by cases t <;> simp [depth]
end Tm

/-- A digit; a letter that is a name. -/
def isDig (c : UInt8) : Bool := decide (48 ≤ c.toNat) && decide (c.toNat ≤ 57)
def isNam (c : UInt8) : Bool := decide (97 ≤ c.toNat) && decide (c.toNat ≤ 112)

/-- A name at the front. -/
def name1 : Text → Option (UInt8 × Text)
  | c :: s => if isNam c then some (c, s) else none
  | [] => none

/-- A byte at the front. -/
def next1 : Text → Option (UInt8 × Text)
  | c :: s => some (c, s)
  | [] => none

/-! What stands behind the first byte of a term; 'p' reads a term. -/
section
variable (p : Text → Option (Tm × Text))
def pFn (s : Text) : Option (Tm × Text) := (name1 s).bind fun x => (p x.2).bind fun b => some (Tm.fn x.1 b.1, b.2)
def pFix (s : Text) : Option (Tm × Text) := (name1 s).bind fun f => (name1 f.2).bind fun x => if f.1 = x.1 then none else (p x.2).bind fun b => some (Tm.fix f.1 x.1 b.1, b.2)
def pApp (s : Text) : Option (Tm × Text) := (p s).bind fun f => (p f.2).bind fun a => (next1 a.2).bind fun z => if z.1.toNat = 41 then some (Tm.app f.1 a.1, z.2) else none
def pBind (s : Text) : Option (Tm × Text) := (name1 s).bind fun x => (p x.2).bind fun v => (p v.2).bind fun b => some (Tm.bind x.1 v.1 b.1, b.2)
def pOp (c : UInt8) (s : Text) : Option (Tm × Text) := (p s).bind fun l => (p l.2).bind fun r => some (Tm.op c l.1 r.1, r.2)
def pSel (s : Text) : Option (Tm × Text) := (p s).bind fun a => (p a.2).bind fun b => (p b.2).bind fun d => some (Tm.sel a.1 b.1 d.1, d.2)
def pLong (s : Text) : Option (Tm × Text) := (next1 s).bind fun a => (next1 a.2).bind fun b => if isDig a.1 = true ∧ isDig b.1 = true ∧ a.1.toNat ≠ 48 then some (Tm.num (10 * (a.1.toNat - 48) + (b.1.toNat - 48)), b.2) else none
/-- What stands behind the byte c. -/
def pBehind (c : UInt8) (s : Text) : Option (Tm × Text) :=
  if c.toNat = 35 then pLong s
  else if c.toNat = 92 then pFn p s
  else if c.toNat = 64 then pFix p s
  else if c.toNat = 40 then pApp p s
  else if c.toNat = 61 then pBind p s
  else if c.toNat = 43 ∨ c.toNat = 45 ∨ c.toNat = 42 then pOp p c s
  else if c.toNat = 63 then pSel p s
  else if isDig c = true then some (Tm.num (c.toNat - 48), s)
  else if isNam c = true then some (Tm.var c, s)
  else none
end
/-- A term at the front of a text; the number bounds how many parts lie within each other. -/
def parse : Nat → Text → Option (Tm × Text)
  | 0, _ => none
  | k + 1, s => (next1 s).bind fun c => pBehind (parse k) c.1 c.2
theorem name1_len {s r : Text} {c : UInt8} (h : name1 s = some (c, r)) : r.length + 1 = s.length := by
  cases s with
  | nil => simp [name1] at h
  | cons a s => simp only [name1] at h; split at h <;> simp_all
theorem next1_len {s r : Text} {c : UInt8} (h : next1 s = some (c, r)) : r.length + 1 = s.length := by
  cases s with
  | nil => simp [next1] at h
  | cons a s => simp only [next1, Option.some.injEq, Prod.mk.injEq] at h; simp [h.2]
/-- What is left is shorter. -/
theorem parse_len : ∀ (k : Nat) (s r : Text) (t : Tm), parse k s = some (t, r) → r.length < s.length := by
  intro k
  induction k with
  | zero => intro s r t h; simp [parse] at h
  | succ k ih =>
    intro s r t h
    simp only [parse, Option.bind_eq_some_iff, Prod.exists] at h
    obtain ⟨c, s1, h1, h⟩ := h
    have l1 := next1_len h1
    have key : r.length ≤ s1.length := by
      unfold pBehind at h
      split at h
      · simp only [pLong, Option.bind_eq_some_iff, Prod.exists] at h
        obtain ⟨a, r1, ha, b, r2, hb, h⟩ := h
        have := next1_len ha; have := next1_len hb
        split at h
        · simp only [Option.some.injEq, Prod.mk.injEq] at h; rw [← h.2]; omega
        · simp at h
      split at h
      · simp only [pFn, Option.bind_eq_some_iff, Prod.exists, Option.some.injEq, Prod.mk.injEq] at h
        obtain ⟨a, r1, ha, b, r2, hb, _, rfl⟩ := h
        have := name1_len ha; have := ih _ _ _ hb; omega
      split at h
      · simp only [pFix, Option.bind_eq_some_iff, Prod.exists] at h
        obtain ⟨a, r1, ha, b, r2, hb, h⟩ := h
        have := name1_len ha; have := name1_len hb
        split at h
        · simp at h
        · simp only [Option.bind_eq_some_iff, Prod.exists, Option.some.injEq, Prod.mk.injEq] at h
          obtain ⟨c, r3, hc, _, rfl⟩ := h
          have := ih _ _ _ hc; omega
      split at h
      · simp only [pApp, Option.bind_eq_some_iff, Prod.exists] at h
        obtain ⟨a, r1, ha, b, r2, hb, z, r3, hz, h⟩ := h
        have := ih _ _ _ ha; have := ih _ _ _ hb; have := next1_len hz
        split at h
        · simp only [Option.some.injEq, Prod.mk.injEq] at h; rw [← h.2]; omega
        · simp at h
      split at h
      · simp only [pBind, Option.bind_eq_some_iff, Prod.exists, Option.some.injEq, Prod.mk.injEq] at h
        obtain ⟨a, r1, ha, b, r2, hb, c, r3, hc, _, rfl⟩ := h
        have := name1_len ha; have := ih _ _ _ hb; have := ih _ _ _ hc; omega
      split at h
      · simp only [pOp, Option.bind_eq_some_iff, Prod.exists, Option.some.injEq, Prod.mk.injEq] at h
        obtain ⟨a, r1, ha, b, r2, hb, _, rfl⟩ := h
        have := ih _ _ _ ha; have := ih _ _ _ hb; omega
      split at h
      · simp only [pSel, Option.bind_eq_some_iff, Prod.exists, Option.some.injEq, Prod.mk.injEq] at h
        obtain ⟨a, r1, ha, b, r2, hb, c, r3, hc, _, rfl⟩ := h
        have := ih _ _ _ ha; have := ih _ _ _ hb; have := ih _ _ _ hc; omega
      split at h
      · simp only [Option.some.injEq, Prod.mk.injEq] at h; rw [← h.2]; omega
      split at h
      · simp only [Option.some.injEq, Prod.mk.injEq] at h; rw [← h.2]; omega
      · simp at h
    omega
end Ff
