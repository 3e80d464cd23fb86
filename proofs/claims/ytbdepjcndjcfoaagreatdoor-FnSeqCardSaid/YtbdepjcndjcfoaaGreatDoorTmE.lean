import Derived.Test.YtbdepjcndjcfoaaGreatDoorMTm
/- More of what texts are read as. -/
namespace Ff
set_option linter.unusedVariables false

theorem op_read {s u : Text} {X T : Tm} {o : UInt8} (ho : o.toNat = 43 ∨ o.toNat = 45 ∨ o.toNat = 42) (h : readS (o :: (s ++ u)) = some X) (hT : readS s = some T) : ∃ U, readS u = some U ∧ X = .op o T U := by
  obtain ⟨_, _, _, hl⟩ := readS_some h
  have hp := read24 h
  rw [show (24 : Nat) = 23 + 1 from rfl, parse_succ] at hp
  unfold pBehind at hp
  rw [if_neg (by omega), if_neg (by omega), if_neg (by omega), if_neg (by omega), if_neg (by omega), if_pos ho] at hp
  simp only [pOp, Option.bind_eq_some_iff, Prod.exists, Option.some.injEq, Prod.mk.injEq] at hp
  obtain ⟨v, r2, h2, b, r3, h3, rfl, rfl⟩ := hp
  have e1 := parse_up h2 (show 23 ≤ 24 by omega)
  rw [(parse_app _ _ _ _ (read24 hT)).2 u] at e1
  simp only [Option.some.injEq, Prod.mk.injEq, List.nil_append] at e1
  obtain ⟨rfl, rfl⟩ := e1
  exact ⟨b, readS_of h3 (by omega) (by simp at hl; omega), rfl⟩
theorem sel_read {s u : Text} {X T : Tm} {d : UInt8} (hd : isDig d = true) (h : readS (63 :: d :: (s ++ u)) = some X) (hT : readS s = some T) : ∃ U, readS u = some U ∧ X = .sel (.num (d.toNat - 48)) T U := by
  obtain ⟨_, _, _, hl⟩ := readS_some h
  have hp := read24 h
  rw [show (24 : Nat) = 23 + 1 from rfl, parse_succ] at hp
  unfold pBehind at hp
  rw [if_neg (by decide), if_neg (by decide), if_neg (by decide), if_neg (by decide), if_neg (by decide), if_neg (by decide), if_pos (by decide)] at hp
  simp only [pSel, Option.bind_eq_some_iff, Prod.exists, Option.some.injEq, Prod.mk.injEq] at hp
  obtain ⟨a, r1, h1, b, r2, h2, c, r3, h3, rfl, rfl⟩ := hp
  have hn : a = .num (d.toNat - 48) ∧ r1 = s ++ u := by
    rw [show (23 : Nat) = 22 + 1 from rfl, parse_succ] at h1
    simp only [isDig, Bool.and_eq_true, decide_eq_true_eq] at hd
    unfold pBehind at h1
    rw [if_neg (by omega), if_neg (by omega), if_neg (by omega), if_neg (by omega), if_neg (by omega), if_neg (by omega), if_neg (by omega), if_pos (by simp [isDig, hd])] at h1
    simp only [Option.some.injEq, Prod.mk.injEq] at h1
    exact ⟨h1.1.symm, h1.2.symm⟩
  obtain ⟨rfl, rfl⟩ := hn
  have e1 := parse_up h2 (show 23 ≤ 24 by omega)
  rw [(parse_app _ _ _ _ (read24 hT)).2 u] at e1
  simp only [Option.some.injEq, Prod.mk.injEq, List.nil_append] at e1
  obtain ⟨rfl, rfl⟩ := e1
  exact ⟨c, readS_of h3 (by omega) (by simp at hl; omega), rfl⟩
theorem appfn_read {s u : Text} {X T U : Tm} {c : UInt8} (hc : isNam c = true) (h : readS (40 :: 92 :: c :: (u ++ (s ++ [41]))) = some X) (hU : readS u = some U) (hT : readS s = some T) : X = .app (.fn c U) T := by
  have hp := read24 h
  rw [show (24 : Nat) = 23 + 1 from rfl, parse_succ] at hp
  unfold pBehind at hp
  rw [if_neg (by decide), if_neg (by decide), if_neg (by decide), if_pos (by decide)] at hp
  simp only [pApp, Option.bind_eq_some_iff, Prod.exists] at hp
  obtain ⟨f, r1, h1, a, r2, h2, z, r3, h3, hp⟩ := hp
  rw [show (23 : Nat) = 22 + 1 from rfl, parse_succ] at h1
  unfold pBehind at h1
  rw [if_neg (by decide), if_pos (by decide)] at h1
  simp only [pFn, Option.bind_eq_some_iff, Prod.exists, Option.some.injEq, Prod.mk.injEq] at h1
  obtain ⟨d, r5, g1, b, r6, g2, rfl, rfl⟩ := h1
  have hn : d = c ∧ r5 = u ++ (s ++ [41]) := by
    simp only [name1, hc, if_true, Option.some.injEq, Prod.mk.injEq] at g1
    exact ⟨g1.1.symm, g1.2.symm⟩
  obtain ⟨rfl, rfl⟩ := hn
  have e1 := parse_up g2 (show 22 ≤ 24 by omega)
  rw [(parse_app _ _ _ _ (read24 hU)).2] at e1
  simp only [Option.some.injEq, Prod.mk.injEq, List.nil_append] at e1
  obtain ⟨rfl, rfl⟩ := e1
  have e2 := parse_up h2 (show 23 ≤ 24 by omega)
  rw [(parse_app _ _ _ _ (read24 hT)).2] at e2
  simp only [Option.some.injEq, Prod.mk.injEq, List.nil_append] at e2
  obtain ⟨rfl, rfl⟩ := e2
  split at hp
  · simp only [Option.some.injEq, Prod.mk.injEq] at hp
    exact hp.1.symm
  · simp at hp
end Ff
