/- A reading on a longer text; the texts that laws make of other texts. No program in sight. -/
import Derived.Test.YtjeaadgfjnmfcaaTmC
namespace Ff
theorem name1_app {s r : Text} {c : UInt8} (h : name1 s = some (c, r)) (x : Text) : name1 (s ++ x) = some (c, r ++ x) := by
  cases s with
  | nil => simp [name1] at h
  | cons a s => simp only [name1] at h; split at h <;> simp_all [name1]
theorem next1_app {s r : Text} {c : UInt8} (h : next1 s = some (c, r)) (x : Text) : next1 (s ++ x) = some (c, r ++ x) := by
  cases s with
  | nil => simp [next1] at h
  | cons a s => simp only [next1, Option.some.injEq, Prod.mk.injEq] at h; simp [next1, h.1, h.2]
theorem parse_app : ∀ (k : Nat) (s r : Text) (t : Tm), parse k s = some (t, r) → t.depth ≤ k ∧ ∀ x, parse k (s ++ x) = some (t, r ++ x) := by
  intro k
  induction k with
  | zero => intro s r t h; simp [parse] at h
  | succ k ih =>
    intro s r t h
    simp only [parse, Option.bind_eq_some_iff, Prod.exists] at h
    obtain ⟨c, s1, h1, h⟩ := h
    have key : t.depth ≤ k + 1 ∧ ∀ x, pBehind (parse k) c (s1 ++ x) = some (t, r ++ x) := by
      unfold pBehind at h ⊢
      split at h
      · rename_i h35
        simp only [pLong, Option.bind_eq_some_iff, Prod.exists] at h
        obtain ⟨a, r1, ha, b, r2, hb, h⟩ := h
        split at h
        · rename_i h41
          simp only [Option.some.injEq, Prod.mk.injEq] at h
          obtain ⟨rfl, rfl⟩ := h
          refine ⟨by simp only [Tm.depth]; omega, fun x => ?_⟩
          rw [if_pos h35]
          simp only [pLong, next1_app ha x, next1_app hb x, Option.bind_some]
          rw [if_pos h41]
        · simp at h
      rename_i h35
      split at h
      · rename_i h92
        simp only [pFn, Option.bind_eq_some_iff, Prod.exists, Option.some.injEq, Prod.mk.injEq] at h
        obtain ⟨a, r1, ha, b, r2, hb, rfl, rfl⟩ := h
        refine ⟨by have := (ih _ _ _ hb).1; simp only [Tm.depth]; omega, fun x => ?_⟩
        rw [if_neg h35, if_pos h92]
        simp only [pFn, name1_app ha x, (ih _ _ _ hb).2 x, Option.bind_some]
      rename_i h92
      split at h
      · rename_i h64
        simp only [pFix, Option.bind_eq_some_iff, Prod.exists] at h
        obtain ⟨a, r1, ha, b, r2, hb, h⟩ := h
        split at h
        · simp at h
        · rename_i hne
          simp only [Option.bind_eq_some_iff, Prod.exists, Option.some.injEq, Prod.mk.injEq] at h
          obtain ⟨c, r3, hc, rfl, rfl⟩ := h
          refine ⟨by have := (ih _ _ _ hc).1; simp only [Tm.depth]; omega, fun x => ?_⟩
          rw [if_neg h35, if_neg h92, if_pos h64]
          simp only [pFix, name1_app ha x, name1_app hb x, Option.bind_some, if_neg hne, (ih _ _ _ hc).2 x]
      rename_i h64
      split at h
      · rename_i h40
        simp only [pApp, Option.bind_eq_some_iff, Prod.exists] at h
        obtain ⟨a, r1, ha, b, r2, hb, z, r3, hz, h⟩ := h
        split at h
        · rename_i h41
          simp only [Option.some.injEq, Prod.mk.injEq] at h
          obtain ⟨rfl, rfl⟩ := h
          refine ⟨by have := (ih _ _ _ ha).1; have := (ih _ _ _ hb).1; simp only [Tm.depth]; omega, fun x => ?_⟩
          rw [if_neg h35, if_neg h92, if_neg h64, if_pos h40]
          simp only [pApp, (ih _ _ _ ha).2 x, (ih _ _ _ hb).2 x, next1_app hz x, Option.bind_some]
          rw [if_pos h41]
        · simp at h
      rename_i h40
      split at h
      · rename_i h61
        simp only [pBind, Option.bind_eq_some_iff, Prod.exists, Option.some.injEq, Prod.mk.injEq] at h
        obtain ⟨a, r1, ha, b, r2, hb, c, r3, hc, rfl, rfl⟩ := h
        refine ⟨by have := (ih _ _ _ hb).1; have := (ih _ _ _ hc).1; simp only [Tm.depth]; omega, fun x => ?_⟩
        rw [if_neg h35, if_neg h92, if_neg h64, if_neg h40, if_pos h61]
        simp only [pBind, name1_app ha x, (ih _ _ _ hb).2 x, (ih _ _ _ hc).2 x, Option.bind_some]
      rename_i h61
      split at h
      · rename_i ho
        simp only [pOp, Option.bind_eq_some_iff, Prod.exists, Option.some.injEq, Prod.mk.injEq] at h
        obtain ⟨a, r1, ha, b, r2, hb, rfl, rfl⟩ := h
        refine ⟨by have := (ih _ _ _ ha).1; have := (ih _ _ _ hb).1; simp only [Tm.depth]; omega, fun x => ?_⟩
        rw [if_neg h35, if_neg h92, if_neg h64, if_neg h40, if_neg h61, if_pos ho]
        simp only [pOp, (ih _ _ _ ha).2 x, (ih _ _ _ hb).2 x, Option.bind_some]
      rename_i ho
      split at h
      · rename_i h63
        simp only [pSel, Option.bind_eq_some_iff, Prod.exists, Option.some.injEq, Prod.mk.injEq] at h
        obtain ⟨a, r1, ha, b, r2, hb, c, r3, hc, rfl, rfl⟩ := h
        refine ⟨by have := (ih _ _ _ ha).1; have := (ih _ _ _ hb).1; have := (ih _ _ _ hc).1; simp only [Tm.depth]; omega, fun x => ?_⟩
        rw [if_neg h35, if_neg h92, if_neg h64, if_neg h40, if_neg h61, if_neg ho, if_pos h63]
        simp only [pSel, (ih _ _ _ ha).2 x, (ih _ _ _ hb).2 x, (ih _ _ _ hc).2 x, Option.bind_some]
      rename_i h63
      split at h
      · rename_i hd
        simp only [Option.some.injEq, Prod.mk.injEq] at h
        obtain ⟨rfl, rfl⟩ := h
        refine ⟨by simp only [Tm.depth]; omega, fun x => ?_⟩
        rw [if_neg h35, if_neg h92, if_neg h64, if_neg h40, if_neg h61, if_neg ho, if_neg h63, if_pos hd]
      rename_i hd
      split at h
      · rename_i hn
        simp only [Option.some.injEq, Prod.mk.injEq] at h
        obtain ⟨rfl, rfl⟩ := h
        refine ⟨by simp only [Tm.depth]; omega, fun x => ?_⟩
        rw [if_neg h35, if_neg h92, if_neg h64, if_neg h40, if_neg h61, if_neg ho, if_neg h63, if_neg hd, if_pos hn]
      · simp at h
    refine ⟨key.1, fun x => ?_⟩
    simp only [parse, next1_app h1 x, Option.bind_some]
    exact key.2 x
/-- What reads with one bound reads with a greater one. -/
theorem parse_up {k j : Nat} {s r : Text} {t : Tm} (h : parse k s = some (t, r)) (hj : k ≤ j) : parse j s = some (t, r) :=
  (parse_any _ _ _ _ h).2 j (Nat.le_trans (parse_app _ _ _ _ h).1 hj)
theorem readS_of {k : Nat} {s : Text} {t : Tm} (h : parse k s = some (t, [])) (hk : k ≤ 24) (hl : s.length ≤ 120) : readS s = some t := by
  unfold readS
  rw [if_pos hl, parse_up h hk]
  rfl
theorem readS_nest {s : Text} {t : Tm} (h : readS s = some t) : t.depth ≤ 24 := by
  obtain ⟨r, hp, _⟩ := readS_some h
  exact (parse_app _ _ _ _ hp).1
theorem parse_succ (k : Nat) (c : UInt8) (s : Text) : parse (k + 1) (c :: s) = pBehind (parse k) c s := rfl
theorem parse_nil (k : Nat) : parse k [] = none := by cases k <;> rfl
theorem behind_nam (p : Text → Option (Tm × Text)) (d : UInt8) (s : Text) (h : isNam d = true) : pBehind p d s = some (.var d, s) := by
  have h1 : 97 ≤ d.toNat ∧ d.toNat ≤ 112 := by simpa [isNam] using h
  have hd : ¬ isDig d = true := by simp [isDig]; omega
  unfold pBehind
  rw [if_neg (by omega), if_neg (by omega), if_neg (by omega), if_neg (by omega), if_neg (by omega), if_neg (by omega), if_neg (by omega), if_neg hd, if_pos h]
theorem read24 {s : Text} {T : Tm} (h : readS s = some T) : parse 24 s = some (T, []) := by
  obtain ⟨r, hp, rfl, _⟩ := readS_some h
  exact hp
/-- What begins with a name and is a term is that name alone. -/
theorem nam_alone {d : UInt8} {s r : Text} {X : Tm} {k : Nat} (h : isNam d = true) (hp : parse k (d :: s) = some (X, r)) : X = .var d ∧ r = s := by
  cases k with
  | zero => simp [parse] at hp
  | succ k =>
    rw [parse_succ, behind_nam _ _ _ h] at hp
    simp only [Option.some.injEq, Prod.mk.injEq] at hp
    exact ⟨hp.1.symm, hp.2.symm⟩
theorem fn_parts {s : Text} {X : Tm} (h : readS (92 :: s) = some X) : ∃ c r b, name1 s = some (c, r) ∧ parse 23 r = some (b, []) ∧ X = .fn c b := by
  have hp := read24 h
  rw [show (24 : Nat) = 23 + 1 from rfl, parse_succ] at hp
  unfold pBehind at hp
  rw [if_neg (by decide), if_pos (by decide)] at hp
  simp only [pFn, Option.bind_eq_some_iff, Prod.exists, Option.some.injEq, Prod.mk.injEq] at hp
  obtain ⟨c, r1, h1, b, r3, h2, rfl, rfl⟩ := hp
  exact ⟨c, r1, b, h1, h2, rfl⟩
/-- A function of a name, over a text. -/
theorem fn_read {n s : Text} {X T : Tm} (hn : n.length ≤ 1 ∨ n = [97, 98]) (h : readS (92 :: (n ++ s)) = some X) (hT : readS s = some T) : ∃ c, n = [c] ∧ isNam c = true ∧ X = .fn c T := by
  have hp2 := read24 hT
  obtain ⟨c, r1, b, h1, h2, rfl⟩ := fn_parts h
  have hc := name1_nam h1
  have e1 := parse_up h2 (show 23 ≤ 24 by omega)
  match n, hn, h1 with
  | [], _, h1 =>
    exfalso
    cases s with
    | nil => simp [name1] at h1
    | cons d s =>
      simp only [List.nil_append, name1] at h1
      split at h1
      · simp only [Option.some.injEq, Prod.mk.injEq] at h1
        obtain ⟨rfl, rfl⟩ := h1
        have := (nam_alone hc hp2).2
        subst this
        rw [parse_nil] at e1
        simp at e1
      · simp at h1
  | [d], _, h1 =>
    simp only [List.cons_append, List.nil_append, name1] at h1
    split at h1
    · simp only [Option.some.injEq, Prod.mk.injEq] at h1
      obtain ⟨rfl, rfl⟩ := h1
      rw [hp2] at e1
      simp only [Option.some.injEq, Prod.mk.injEq, and_true] at e1
      exact ⟨d, rfl, hc, by rw [e1]⟩
    · simp at h1
  | d :: d2 :: n, hn, h1 =>
    exfalso
    rcases hn with hn | hn
    · simp at hn
    · simp only [List.cons.injEq] at hn
      obtain ⟨rfl, rfl, rfl⟩ := hn
      simp only [List.cons_append, List.nil_append, name1] at h1
      split at h1
      · simp only [Option.some.injEq, Prod.mk.injEq] at h1
        obtain ⟨rfl, rfl⟩ := h1
        have := (nam_alone (by decide) e1).2
        subst this
        rw [parse_nil] at hp2
        simp at hp2
      · simp at h1
/-- A function of a name, made of a term. -/
theorem fn_made {s : Text} {T : Tm} {c : UInt8} (hc : isNam c = true) (hT : readS s = some T) (hd : T.depth ≠ 24) (hl : s.length + 2 ≤ 120) : readS (92 :: c :: s) = some (.fn c T) := by
  have hp := (parse_any _ _ _ _ (read24 hT)).2 23 (by have := readS_nest hT; omega)
  refine readS_of (k := 23 + 1) ?_ (Nat.le_refl _) (by simp; omega)
  rw [parse_succ]
  unfold pBehind
  rw [if_neg (by decide), if_pos (by decide)]
  simp [pFn, name1, hc, hp]
/-- A text that is so many functions over another one. -/
def overS : Text → Text → Text
  | s, [] => s
  | s, c :: cs => overS (92 :: c :: s) cs
def overT : Tm → Text → Tm
  | t, [] => t
  | t, c :: cs => overT (.fn c t) cs
theorem overS_snoc (s cs : Text) (c : UInt8) : overS s (cs ++ [c]) = 92 :: c :: overS s cs := by
  induction cs generalizing s with
  | nil => rfl
  | cons d cs ih => exact ih _
theorem overT_snoc (t : Tm) (cs : Text) (c : UInt8) : overT t (cs ++ [c]) = .fn c (overT t cs) := by
  induction cs generalizing t with
  | nil => rfl
  | cons d cs ih => exact ih _
/-- What a let is, over two texts. -/
theorem let_read {s u : Text} {X T : Tm} {c : UInt8} (h : readS (61 :: c :: (s ++ u)) = some X) (hT : readS s = some T) : ∃ U, readS u = some U ∧ X = .bind c T U := by
  obtain ⟨_, _, _, hl⟩ := readS_some h
  have hp := read24 h
  rw [show (24 : Nat) = 23 + 1 from rfl, parse_succ] at hp
  unfold pBehind at hp
  rw [if_neg (by decide), if_neg (by decide), if_neg (by decide), if_neg (by decide), if_pos (by decide)] at hp
  simp only [pBind, Option.bind_eq_some_iff, Prod.exists, Option.some.injEq, Prod.mk.injEq] at hp
  obtain ⟨c1, r1, h1, v, r2, h2, b, r3, h3, rfl, rfl⟩ := hp
  have hn : c1 = c ∧ r1 = s ++ u := by
    simp only [name1] at h1
    split at h1
    · simp only [Option.some.injEq, Prod.mk.injEq] at h1; exact ⟨h1.1.symm, h1.2.symm⟩
    · simp at h1
  obtain ⟨rfl, rfl⟩ := hn
  have e1 := parse_up h2 (show 23 ≤ 24 by omega)
  rw [(parse_app _ _ _ _ (read24 hT)).2 u] at e1
  simp only [Option.some.injEq, Prod.mk.injEq, List.nil_append] at e1
  obtain ⟨rfl, rfl⟩ := e1
  exact ⟨b, readS_of h3 (by omega) (by simp at hl; omega), rfl⟩
theorem app_read {s u : Text} {X T U : Tm} (h : readS (40 :: (s ++ (u ++ [41]))) = some X) (hT : readS s = some T) (hU : readS u = some U) : X = .app T U := by
  have hp := read24 h
  rw [show (24 : Nat) = 23 + 1 from rfl, parse_succ] at hp
  unfold pBehind at hp
  rw [if_neg (by decide), if_neg (by decide), if_neg (by decide), if_pos (by decide)] at hp
  simp only [pApp, Option.bind_eq_some_iff, Prod.exists] at hp
  obtain ⟨f, r1, h1, a, r2, h2, z, r3, h3, hp⟩ := hp
  have e1 := parse_up h1 (show 23 ≤ 24 by omega)
  rw [(parse_app _ _ _ _ (read24 hT)).2] at e1
  simp only [Option.some.injEq, Prod.mk.injEq, List.nil_append] at e1
  obtain ⟨rfl, rfl⟩ := e1
  have e2 := parse_up h2 (show 23 ≤ 24 by omega)
  rw [(parse_app _ _ _ _ (read24 hU)).2] at e2
  simp only [Option.some.injEq, Prod.mk.injEq, List.nil_append] at e2
  obtain ⟨rfl, rfl⟩ := e2
  split at hp
  · simp only [Option.some.injEq, Prod.mk.injEq] at hp
    exact hp.1.symm
  · simp at hp
theorem read_one : readS [49] = some (.num 1) := rfl
end Ff
