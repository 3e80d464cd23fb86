import Derived.Test.YtjfhncfbejephaaGreatDoorMTm
import Derived.Test.YtjfhncfbejephaaGreatDoorMVh
import Derived.Test.YtjfhncfbejephaaGreatDoorMEq
/- More of what texts are read as. -/
namespace Ff
set_option linter.unusedVariables false

theorem op_read {s u : Text} {X T : Tm} {o : UInt8} (ho : o.toNat = 43 ∨ o.toNat = 45 ∨ o.toNat = 42) (h : readS (o :: (s ++ u)) = some X) (hT : readS s = some T) : ∃ U, readS u = some U ∧ X = .op o T U := by
  obtain ⟨_, _, _, hl⟩ := readS_some h
  have hp := read24 h
  rw [show (24 : Nat) = 23 + 1 from rfl, parse_succ] at hp
  unfold pBehind at hp
  rw [if_neg (by omega), if_neg (by omega), if_neg (by omega), if_neg (by omega), if_neg (by omega), if_pos ho] at hp
  simp only [pOp, Option.bind_eq_some_iff, Prod.exists, Option.some.injEq, Prod.mk.injEq] at hp
  obtain ⟨v, r2, h2, b, r3, h3, rfl, rfl⟩ := hp
  have e1 := parse_up h2 (show 23 ≤ 24 by omega)
  rw [(parse_app _ _ _ _ (read24 hT)).2 u] at e1
  simp only [Option.some.injEq, Prod.mk.injEq, List.nil_append] at e1
  obtain ⟨rfl, rfl⟩ := e1
  exact ⟨b, readS_of h3 (by omega) (by simp at hl; omega), rfl⟩
theorem sel_read {s u : Text} {X T : Tm} {d : UInt8} (hd : isDig d = true) (h : readS (63 :: d :: (s ++ u)) = some X) (hT : readS s = some T) : ∃ U, readS u = some U ∧ X = .sel (.num (d.toNat - 48)) T U := by
  obtain ⟨_, _, _, hl⟩ := readS_some h
  have hp := read24 h
  rw [show (24 : Nat) = 23 + 1 from rfl, parse_succ] at hp
  unfold pBehind at hp
  rw [if_neg (by decide), if_neg (by decide), if_neg (by decide), if_neg (by decide), if_neg (by decide), if_neg (by decide), if_pos (by decide)] at hp
  simp only [pSel, Option.bind_eq_some_iff, Prod.exists, Option.some.injEq, Prod.mk.injEq] at hp
  obtain ⟨a, r1, h1, b, r2, h2, c, r3, h3, rfl, rfl⟩ := hp
  have hn : a = .num (d.toNat - 48) ∧ r1 = s ++ u := by
    rw [show (23 : Nat) = 22 + 1 from rfl, parse_succ] at h1
    simp only [isDig, Bool.and_eq_true, decide_eq_true_eq] at hd
    unfold pBehind at h1
    rw [if_neg (by omega), if_neg (by omega), if_neg (by omega), if_neg (by omega), if_neg (by omega), if_neg (by omega), if_neg (by omega), if_pos (by simp [isDig, hd])] at h1
    simp only [Option.some.injEq, Prod.mk.injEq] at h1
    exact ⟨h1.1.symm, h1.2.symm⟩
  obtain ⟨rfl, rfl⟩ := hn
  have e1 := parse_up h2 (show 23 ≤ 24 by omega)
  rw [(parse_app _ _ _ _ (read24 hT)).2 u] at e1
  simp only [Option.some.injEq, Prod.mk.injEq, List.nil_append] at e1
  obtain ⟨rfl, rfl⟩ := e1
  exact ⟨c, readS_of h3 (by omega) (by simp at hl; omega), rfl⟩
theorem appfn_read {s u : Text} {X T U : Tm} {c : UInt8} (hc : isNam c = true) (h : readS (40 :: 92 :: c :: (u ++ (s ++ [41]))) = some X) (hU : readS u = some U) (hT : readS s = some T) : X = .app (.fn c U) T := by
  have hp := read24 h
  rw [show (24 : Nat) = 23 + 1 from rfl, parse_succ] at hp
  unfold pBehind at hp
  rw [if_neg (by decide), if_neg (by decide), if_neg (by decide), if_pos (by decide)] at hp
  simp only [pApp, Option.bind_eq_some_iff, Prod.exists] at hp
  obtain ⟨f, r1, h1, a, r2, h2, z, r3, h3, hp⟩ := hp
  rw [show (23 : Nat) = 22 + 1 from rfl, parse_succ] at h1
  unfold pBehind at h1
  rw [if_neg (by decide), if_pos (by decide)] at h1
  simp only [pFn, Option.bind_eq_some_iff, Prod.exists, Option.some.injEq, Prod.mk.injEq] at h1
  obtain ⟨d, r5, g1, b, r6, g2, rfl, rfl⟩ := h1
  have hn : d = c ∧ r5 = u ++ (s ++ [41]) := by
    simp only [name1, hc, if_true, Option.some.injEq, Prod.mk.injEq] at g1
    exact ⟨g1.1.symm, g1.2.symm⟩
  obtain ⟨rfl, rfl⟩ := hn
  have e1 := parse_up g2 (show 22 ≤ 24 by omega)
  rw [(parse_app _ _ _ _ (read24 hU)).2] at e1
  simp only [Option.some.injEq, Prod.mk.injEq, List.nil_append] at e1
  obtain ⟨rfl, rfl⟩ := e1
  have e2 := parse_up h2 (show 23 ≤ 24 by omega)
  rw [(parse_app _ _ _ _ (read24 hT)).2] at e2
  simp only [Option.some.injEq, Prod.mk.injEq, List.nil_append] at e2
  obtain ⟨rfl, rfl⟩ := e2
  split at hp
  · simp only [Option.some.injEq, Prod.mk.injEq] at hp
    exact hp.1.symm
  · simp at hp
end Ff

/- What runs of terms that are made of terms come to. No program in sight. -/
namespace Go.Proofs.YtjfhncfbejephaaGreatDoor
open Go.RowKit
open Ff
set_option linter.unusedVariables false

theorem ev_next (n : Nat) (t : Tm) (i : Nat) (e : En) (s : St) (h : s.steps < 1500) : ev (n + 1) t i e s = evB (ev n) t i e s.step := by
  show (if 1500 ≤ s.steps then _ else _) = _; rw [if_neg (by omega)]
theorem ev_cut (n : Nat) (t : Tm) (i : Nat) (e : En) (s : St) : ev (n + 1) t i e s = .long ∨ s.steps < 1500 ∧ ev (n + 1) t i e s = evB (ev n) t i e s.step := by
  by_cases h : s.steps < 1500
  · exact .inr ⟨h, ev_next n t i e s h⟩
  · left; show (if 1500 ≤ s.steps then _ else _) = _; rw [if_pos (by omega)]
/-- A closed term that is run again, with more done before. -/
theorem again {T : Tm} (hT : T.good) (hc : sfree T = []) (n' i : Nat) (e : En) (s : St) :
    ev n' T i e s = .long ∨ (ev 1501 T 0 .nil st0 = .fault ∧ ev n' T i e s = .fault) ∨ ∃ v z v' z', ev 1501 T 0 .nil st0 = .ok v z ∧ ev n' T i e s = .ok v' z' ∧ VSim v v' ∧ SSim st0 s z z' := by
  have h := sim 1501 n' T 0 i .nil e st0 s hT (by rw [hc]; exact ESim.nil _ _)
  obtain ⟨hb, hm⟩ := h
  have hm := hm (by simp [st0]) (Nat.zero_le _) (Nat.zero_le _)
  rcases h2 : ev n' T i e s with ⟨v', z'⟩ | _ | _
  · rcases h1 : ev 1501 T 0 .nil st0 with ⟨v, z⟩ | _ | _
    · rw [h1, h2] at hb; exact .inr (.inr ⟨v, z, v', z', rfl, rfl, hb.1, hb.2⟩)
    · rw [h1, h2] at hb; exact hb.elim
    · have := hm h1; rw [h2] at this; cases this
  · rcases h1 : ev 1501 T 0 .nil st0 with ⟨v, z⟩ | _ | _
    · rw [h1, h2] at hb; exact hb.elim
    · exact .inr (.inl ⟨rfl, rfl⟩)
    · have := hm h1; rw [h2] at this; cases this
  · exact .inl rfl
theorem VSim.is {v v' : Vl} (h : VSim v v') : isF v' = isF v ∧ valN v' = valN v := by cases h <;> exact ⟨rfl, rfl⟩
theorem again_res {v v' : Vl} (h : VSim v v') (z z' : St) : resO (.ok v' z') = resO (.ok v z) := by obtain ⟨h1, h2⟩ := h.is; simp only [resO, h1, h2]
theorem closed_parts {s : Text} {T : Tm} (h : closedS s = some T) : readS s = some T ∧ T.good ∧ sfree T = [] := by
  obtain ⟨h1, h2⟩ := closedS_some h
  exact ⟨h1, readS_good h1, h2⟩
theorem runO_some {s : Text} {o : Ou} (h : runO s = some o) : ∃ T, closedS s = some T ∧ o = ev 1501 T 0 .nil st0 := by
  unfold runO at h
  rcases hc : closedS s with _ | T
  · rw [hc] at h; cases h
  · rw [hc] at h; injection h with h; exact ⟨T, rfl, h.symm⟩
theorem st0_lt : st0.steps < 1500 := by decide
/-- A function that is not read. -/
theorem const_run {s G : Text} {o o' : Ou} (hG : G = 40 :: ([92, 112, 57] ++ (s ++ [41]))) (h : runO s = some o) (h' : runO G = some o') : o' = .long ∨ (o = .fault ∧ o' = .fault) ∨ ∃ v z z', o = .ok v z ∧ o' = .ok (.num 9) z' := by
  obtain ⟨T, hT, rfl⟩ := runO_some h
  obtain ⟨X, hX, rfl⟩ := runO_some h'
  obtain ⟨r1, g1, f1⟩ := closed_parts hT
  obtain ⟨r2, g2, f2⟩ := closed_parts hX
  rw [hG] at r2
  obtain rfl := app_read r2 (show readS [92, 112, 57] = some (.fn 112 (.num 9)) from rfl) r1
  have e1 : ev 1501 (.app (.fn 112 (.num 9)) T) 0 .nil st0 = (ev 1500 (.fn 112 (.num 9)) 1 .nil st0.step).next fun x s => (ev 1500 T (0 + 1 + (parts (Tm.fn 112 (.num 9))).length) .nil s).next fun y s => callV (ev 1500) 0 x y s := ev_next 1500 _ _ _ _ st0_lt
  rw [e1]
  have e2 := ev_next 1499 (.fn 112 (.num 9)) 1 .nil st0.step (by decide)
  rw [show (1500 : Nat) = 1499 + 1 from rfl, e2]
  simp only [evB, Ou.next]
  rcases again g1 f1 (1499 + 1) (0 + 1 + (parts (Tm.fn 112 (.num 9))).length) .nil (st0.step.step.made 1 (sfree (.fn 112 (.num 9))).length) with h | ⟨h1, h2⟩ | ⟨v, z, v', z', h1, h2, hv, hs⟩
  · rw [h]; exact .inl rfl
  · rw [h2]; exact .inr (.inl ⟨h1, rfl⟩)
  · rw [h2]
    show (callV (ev (1499 + 1)) 0 _ v' z') = .long ∨ _ ∨ _
    simp only [callV]
    by_cases hd : 50 ≤ z'.depth
    · rw [if_pos hd]; exact .inl rfl
    · rw [if_neg hd]
      rcases ev_cut 1499 (bodyOf (.fn 112 (.num 9))) (1 + 1) (bodyEn (.fn 112 (.num 9)) 1 .nil v') (z'.enter 0 1) with h | ⟨_, h⟩
      · rw [h]; exact .inl rfl
      · rw [h]; exact .inr (.inr ⟨v, z, _, h1, rfl⟩)
/-- A sum with 0; a call with 1. -/
theorem sum_run {s G : Text} {v : Vl} {z : St} {o' : Ou} (hG : G = 43 :: ([48] ++ s)) (h : runO s = some (.ok v z)) (h' : runO G = some o') : o' = .long ∨ (isF v = true ∧ o' = .fault) ∨ (isF v = false ∧ resO o' = resO (.ok v z)) := by
  obtain ⟨T, hT, e0⟩ := runO_some h
  obtain ⟨X, hX, rfl⟩ := runO_some h'
  obtain ⟨r1, g1, f1⟩ := closed_parts hT
  obtain ⟨r2, g2, f2⟩ := closed_parts hX
  rw [hG] at r2
  obtain ⟨U, hU, rfl⟩ := op_read (.inl rfl) r2 (show readS [48] = some (.num 0) from rfl)
  rw [r1] at hU
  injection hU with hU
  subst hU
  have hw := ev_ok 1501 T 0 .nil st0 (closed_ok hT)
  have e1 : ev 1501 (.op 43 (.num 0) T) 0 .nil st0 = (ev 1500 (.num 0) 1 .nil st0.step).next fun x s => (ev 1500 T (0 + 1 + (parts (Tm.num 0)).length) .nil s).next fun y s => opV 43 x y s := ev_next 1500 _ _ _ _ st0_lt
  rw [e1]
  have e2 := ev_next 1499 (.num 0) 1 .nil st0.step (by decide)
  rw [show (1500 : Nat) = 1499 + 1 from rfl, e2]
  simp only [evB, Ou.next]
  rcases again g1 f1 (1499 + 1) (0 + 1 + (parts (Tm.num 0)).length) .nil st0.step.step with h | ⟨h1, h2⟩ | ⟨v1, z1, v', z', h1, h2, hv, hs⟩
  · rw [h]; exact .inl rfl
  · rw [h1] at e0; cases e0
  · rw [h1] at e0 hw
    injection e0 with e0 e00
    subst e0 e00
    rw [h2]
    cases hv with
    | num k =>
      cases hw.1 with
      | num _ hk =>
        refine .inr (.inr ⟨rfl, ?_⟩)
        have hk2 : calN 43 0 k = k := by unfold calN; rw [if_pos (by decide)]; omega
        simp only [opV, resO, hk2]
    | clo => exact .inr (.inl ⟨rfl, rfl⟩)
theorem call_run {s G : Text} {v : Vl} {z : St} {o' : Ou} (hG : G = 40 :: (s ++ ([49] ++ [41]))) (h : runO s = some (.ok v z)) (h' : runO G = some o') (hv0 : isF v = false) : o' = .long ∨ o' = .fault := by
  obtain ⟨T, hT, e0⟩ := runO_some h
  obtain ⟨X, hX, rfl⟩ := runO_some h'
  obtain ⟨r1, g1, f1⟩ := closed_parts hT
  obtain ⟨r2, g2, f2⟩ := closed_parts hX
  rw [hG] at r2
  obtain rfl := app_read r2 r1 read_one
  have e1 : ev 1501 (.app T (.num 1)) 0 .nil st0 = (ev 1500 T (0 + 1) .nil st0.step).next fun x s => (ev 1500 (.num 1) (0 + 1 + (parts T).length) .nil s).next fun y s => callV (ev 1500) 0 x y s := ev_next 1500 _ _ _ _ st0_lt
  rw [e1]
  rcases again g1 f1 1500 (0 + 1) .nil st0.step with h | ⟨h1, h2⟩ | ⟨v1, z1, v', z', h1, h2, hv, hs⟩
  · rw [h]; exact .inl rfl
  · rw [h2]; exact .inr rfl
  · rw [h1] at e0
    injection e0 with e0 e00
    subst e0 e00
    rw [h2]
    cases hv with
    | num k =>
      simp only [Ou.next]
      rcases ev_cut 1499 (.num 1) (0 + 1 + (parts T).length) .nil z' with h | ⟨_, h⟩
      · rw [show (1500 : Nat) = 1499 + 1 from rfl, h]; exact .inl rfl
      · rw [show (1500 : Nat) = 1499 + 1 from rfl, h]; exact .inr rfl
    | clo => cases hv0
/-- What is evaluated and not read. -/
theorem seq_run {s u G : Text} {o p o' : Ou} (hG : G = 61 :: 112 :: (s ++ (61 :: 111 :: (u ++ [112])))) (h : runO s = some o) (hu : runO u = some p) (h' : runO G = some o') :
    o' = .long ∨ (o' = .fault ∧ (o = .fault ∨ ∃ v z, o = .ok v z ∧ p = .fault)) ∨ ∃ v z v2 z2, o = .ok v z ∧ p = .ok v2 z2 ∧ resO o' = resO o := by
  obtain ⟨T, hT, rfl⟩ := runO_some h
  obtain ⟨U, hU, rfl⟩ := runO_some hu
  obtain ⟨X, hX, rfl⟩ := runO_some h'
  obtain ⟨r1, g1, f1⟩ := closed_parts hT
  obtain ⟨r3, g3, f3⟩ := closed_parts hU
  obtain ⟨r2, g2, f2⟩ := closed_parts hX
  rw [hG] at r2
  obtain ⟨Y, hY, rfl⟩ := let_read r2 r1
  obtain ⟨Z, hZ, rfl⟩ := let_read hY r3
  rw [show readS [112] = some (.var 112) from rfl] at hZ
  injection hZ with hZ
  subst hZ
  have e1 : ev 1501 (.bind 112 T (.bind 111 U (.var 112))) 0 .nil st0 = (ev 1500 T (0 + 1) .nil st0.step).next fun x s => ev 1500 (.bind 111 U (.var 112)) (0 + 1 + (parts T).length) (.cons 112 x .nil) s := ev_next 1500 _ _ _ _ st0_lt
  rw [e1]
  rcases again g1 f1 1500 (0 + 1) .nil st0.step with h | ⟨h1, h2⟩ | ⟨v1, z1, v', z', h1, h2, hv, hs⟩
  · rw [h]; exact .inl rfl
  · rw [h2]; exact .inr (.inl ⟨rfl, .inl h1⟩)
  · rw [h2]
    simp only [Ou.next]
    rcases ev_cut 1499 (.bind 111 U (.var 112)) (0 + 1 + (parts T).length) (.cons 112 v' .nil) z' with h | ⟨_, h⟩
    · exact .inl h
    · rw [show (1500 : Nat) = 1499 + 1 from rfl, h]
      simp only [evB]
      rcases again g3 f3 1499 (0 + 1 + (parts T).length + 1) (.cons 112 v' .nil) z'.step with h | ⟨h3, h4⟩ | ⟨v3, z3, v4, z4, h3, h4, hv4, hs4⟩
      · rw [h]; exact .inl rfl
      · rw [h4]; exact .inr (.inl ⟨rfl, .inr ⟨v1, z1, h1, h3⟩⟩)
      · rw [h4]
        simp only [Ou.next]
        rcases ev_cut 1498 (.var 112) (0 + 1 + (parts T).length + 1 + (parts U).length) (.cons 111 v4 (.cons 112 v' .nil)) z4 with h | ⟨_, h⟩
        · exact .inl h
        · refine .inr (.inr ⟨v1, z1, v3, z3, h1, h3, ?_⟩)
          rw [show (1499 : Nat) = 1498 + 1 from rfl, h, h1]
          exact again_res hv _ _
/-- One of two is chosen. -/
theorem sel_run {s u G : Text} {o p o' : Ou} {d : UInt8} (hd : isDig d = true) (hG : G = 63 :: d :: (s ++ u)) (h : runO s = some o) (hu : runO u = some p) (h' : runO G = some o') :
    o' = .long ∨ (if d.toNat = 48 then resO o' = resO o else resO o' = resO p) := by
  obtain ⟨T, hT, rfl⟩ := runO_some h
  obtain ⟨U, hU, rfl⟩ := runO_some hu
  obtain ⟨X, hX, rfl⟩ := runO_some h'
  obtain ⟨r1, g1, f1⟩ := closed_parts hT
  obtain ⟨r3, g3, f3⟩ := closed_parts hU
  obtain ⟨r2, g2, f2⟩ := closed_parts hX
  rw [hG] at r2
  obtain ⟨Y, hY, rfl⟩ := sel_read hd r2 r1
  rw [r3] at hY
  injection hY with hY
  subst hY
  have e1 : ev 1501 (.sel (.num (d.toNat - 48)) T U) 0 .nil st0 = (ev 1500 (.num (d.toNat - 48)) (0 + 1) .nil st0.step).next fun x s => match x with | .num n => if n = 0 then ev 1500 T (0 + 1 + (parts (Tm.num (d.toNat - 48))).length) .nil s else ev 1500 U (0 + 1 + (parts (Tm.num (d.toNat - 48))).length + (parts T).length) .nil s | .clo _ _ _ => .fault := ev_next 1500 _ _ _ _ st0_lt
  rw [e1]
  have e2 : ev 1500 (.num (d.toNat - 48)) (0 + 1) .nil st0.step = .ok (.num (d.toNat - 48)) st0.step.step := ev_next 1499 (.num (d.toNat - 48)) (0 + 1) .nil st0.step (by decide)
  rw [e2]
  simp only [Ou.next]
  simp only [isDig, Bool.and_eq_true, decide_eq_true_eq] at hd
  by_cases h0 : d.toNat = 48
  · rw [if_pos (show d.toNat - 48 = 0 by omega), if_pos h0]
    rcases again g1 f1 1500 (0 + 1 + (parts (Tm.num (d.toNat - 48))).length) .nil st0.step.step with h | ⟨h1, h2⟩ | ⟨v1, z1, v', z', h1, h2, hv, hs⟩
    · exact .inl h
    · rw [h1, h2]; exact .inr rfl
    · rw [h1, h2]; exact .inr (again_res hv _ _)
  · rw [if_neg (show ¬ d.toNat - 48 = 0 by omega), if_neg h0]
    rcases again g3 f3 1500 (0 + 1 + (parts (Tm.num (d.toNat - 48))).length + (parts T).length) .nil st0.step.step with h | ⟨h1, h2⟩ | ⟨v1, z1, v', z', h1, h2, hv, hs⟩
    · exact .inl h
    · rw [h1, h2]; exact .inr rfl
    · rw [h1, h2]; exact .inr (again_res hv _ _)
/-- A number that has a name is evaluated once. -/
theorem named_run {s G : Text} {k : Nat} {z : St} {o' : Ou} (hG : G = 61 :: 112 :: (s ++ [43, 112, 112])) (h : runO s = some (.ok (.num k) z)) (h' : runO G = some o') :
    o' = .long ∨ ∃ z', o' = .ok (.num ((k + k) % 100)) z' ∧ z'.steps = z.steps + 4 := by
  obtain ⟨T, hT, e0⟩ := runO_some h
  obtain ⟨X, hX, rfl⟩ := runO_some h'
  obtain ⟨r1, g1, f1⟩ := closed_parts hT
  obtain ⟨r2, g2, f2⟩ := closed_parts hX
  rw [hG] at r2
  obtain ⟨Y, hY, rfl⟩ := let_read r2 r1
  rw [show readS [43, 112, 112] = some (.op 43 (.var 112) (.var 112)) from rfl] at hY
  injection hY with hY
  subst hY
  have e1 : ev 1501 (.bind 112 T (.op 43 (.var 112) (.var 112))) 0 .nil st0 = (ev 1500 T (0 + 1) .nil st0.step).next fun x s => ev 1500 (.op 43 (.var 112) (.var 112)) (0 + 1 + (parts T).length) (.cons 112 x .nil) s := ev_next 1500 _ _ _ _ st0_lt
  rw [e1]
  rcases again g1 f1 1500 (0 + 1) .nil st0.step with h | ⟨h1, h2⟩ | ⟨v1, z1, v', z', h1, h2, hv, hs⟩
  · rw [h]; exact .inl rfl
  · rw [h1] at e0; cases e0
  · rw [h1] at e0
    injection e0 with e0 e00
    subst e0 e00
    cases hv
    rw [h2]
    obtain ⟨a1, a2, a3, a4⟩ := hs
    simp only [st0, St.step] at a1
    simp only [Ou.next]
    rcases ev_cut 1499 (.op 43 (.var 112) (.var 112)) (0 + 1 + (parts T).length) (.cons 112 (.num k) .nil) z' with h | ⟨_, h⟩
    · exact .inl h
    · rw [show (1500 : Nat) = 1499 + 1 from rfl, h]
      simp only [evB]
      rcases ev_cut 1498 (.var 112) (0 + 1 + (parts T).length + 1) (.cons 112 (.num k) .nil) z'.step with h | ⟨_, h⟩
      · rw [show (1499 : Nat) = 1498 + 1 from rfl, h]; exact .inl rfl
      · replace h := h.trans (show evB (ev 1498) (.var 112) _ (.cons 112 (.num k) .nil) z'.step.step = .ok (.num k) z'.step.step from rfl)
        rw [show (1499 : Nat) = 1498 + 1 from rfl, h]
        simp only [Ou.next]
        rcases ev_cut 1498 (.var 112) (0 + 1 + (parts T).length + 1 + (parts (Tm.var 112)).length) (.cons 112 (.num k) .nil) z'.step.step with h | ⟨_, h⟩
        · rw [h]; exact .inl rfl
        · replace h := h.trans (show evB (ev 1498) (.var 112) _ (.cons 112 (.num k) .nil) z'.step.step.step = .ok (.num k) z'.step.step.step from rfl)
          rw [h]
          refine .inr ⟨z'.step.step.step, ?_, by simp only [St.step]; omega⟩
          show Ou.ok (.num (calN 43 k k)) _ = _
          unfold calN
          rw [if_pos (by decide)]
theorem plain_run {s G : Text} {k : Nat} {z : St} {o' : Ou} (hG : G = 43 :: (s ++ s)) (h : runO s = some (.ok (.num k) z)) (h' : runO G = some o') : o' = .long ∨ ∃ z', o' = .ok (.num ((k + k) % 100)) z' := by
  obtain ⟨T, hT, e0⟩ := runO_some h
  obtain ⟨X, hX, rfl⟩ := runO_some h'
  obtain ⟨r1, g1, f1⟩ := closed_parts hT
  obtain ⟨r2, g2, f2⟩ := closed_parts hX
  rw [hG] at r2
  obtain ⟨U, hU, rfl⟩ := op_read (.inl rfl) r2 r1
  rw [r1] at hU
  injection hU with hU
  subst hU
  have e1 : ev 1501 (.op 43 T T) 0 .nil st0 = (ev 1500 T (0 + 1) .nil st0.step).next fun x s => (ev 1500 T (0 + 1 + (parts T).length) .nil s).next fun y s => opV 43 x y s := ev_next 1500 _ _ _ _ st0_lt
  rw [e1]
  rcases again g1 f1 1500 (0 + 1) .nil st0.step with h | ⟨h1, h2⟩ | ⟨v1, z1, v', z', h1, h2, hv, hs⟩
  · rw [h]; exact .inl rfl
  · rw [h1] at e0; cases e0
  · rw [h1] at e0
    injection e0 with e0 e00
    subst e0 e00
    cases hv
    rw [h2]
    simp only [Ou.next]
    rcases again g1 f1 1500 (0 + 1 + (parts T).length) .nil z' with h | ⟨h3, h4⟩ | ⟨v3, z3, v4, z4, h3, h4, hv4, hs4⟩
    · rw [h]; exact .inl rfl
    · rw [h1] at h3; cases h3
    · rw [h1] at h3
      injection h3 with h3 h33
      subst h3 h33
      cases hv4
      rw [h4]
      refine .inr ⟨z4, ?_⟩
      show Ou.ok (.num (calN 43 k k)) _ = _
      unfold calN
      rw [if_pos (by decide)]
/-- A name that is a term, and a function that is called with it. -/
theorem let_run {s u L C : Text} {T U : Tm} {o o' : Ou} (hL : L = 61 :: 97 :: (s ++ u)) (hC : C = 40 :: 92 :: 97 :: (u ++ (s ++ [41]))) (hs : readS s = some T) (hu : readS u = some U) (h : runO L = some o) (h' : runO C = some o') :
    o = .long ∨ o' = .long ∨ resO o' = resO o := by
  obtain ⟨X, hX, rfl⟩ := runO_some h
  obtain ⟨Y, hY, rfl⟩ := runO_some h'
  obtain ⟨r1, g1, f1⟩ := closed_parts hX
  obtain ⟨r2, g2, f2⟩ := closed_parts hY
  rw [hL] at r1
  rw [hC] at r2
  obtain ⟨U', hU', rfl⟩ := let_read r1 hs
  rw [hu] at hU'
  injection hU' with hU'
  subst hU'
  obtain rfl := appfn_read (by decide) r2 hu hs
  have gT : T.good := g1.2.1
  have gU : U.good := g1.2.2
  have fT : sfree T = [] := List.eq_nil_iff_forall_not_mem.2 fun x hx => by
    have : x ∈ sfree (.bind 97 T U) := (mem_sort _ _).2 ⟨free_letters gT hx, List.mem_append.2 (.inl hx)⟩
    rw [f1] at this; simp at this
  have fU : ∀ x ∈ sfree U, x ≠ 97 → x ∈ ([] : Text) := fun x hx hc => by
    have : x ∈ sfree (.bind 97 T U) := (mem_sort _ _).2 ⟨free_letters gU hx, List.mem_append.2 (.inr ((mem_less _ _ _).2 ⟨hx, by simpa using hc⟩))⟩
    rwa [f1] at this
  have e1 : ev 1501 (.bind 97 T U) 0 .nil st0 = (ev 1500 T (0 + 1) .nil st0.step).next fun x s => ev 1500 U (0 + 1 + (parts T).length) (.cons 97 x .nil) s := ev_next 1500 _ _ _ _ st0_lt
  have e2 : ev 1501 (.app (.fn 97 U) T) 0 .nil st0 = (ev 1500 (.fn 97 U) (0 + 1) .nil st0.step).next fun x s => (ev 1500 T (0 + 1 + (parts (Tm.fn 97 U)).length) .nil s).next fun y s => callV (ev 1500) 0 x y s := ev_next 1500 _ _ _ _ st0_lt
  have e3 : ev 1500 (.fn 97 U) (0 + 1) .nil st0.step = .ok (.clo (0 + 1) (.fn 97 U) .nil) (st0.step.step.made (0 + 1) (sfree (.fn 97 U)).length) := ev_next 1499 (.fn 97 U) (0 + 1) .nil st0.step (by decide)
  rw [e3] at e2
  simp only [Ou.next] at e2
  rw [e1, e2]
  have hb := (sim 1500 1500 T (0 + 1) (0 + 1 + (parts (Tm.fn 97 U)).length) .nil .nil st0.step (st0.step.step.made (0 + 1) (sfree (.fn 97 U)).length) gT (by rw [fT]; exact ESim.nil _ _)).both
  rcases h1 : ev 1500 T (0 + 1) .nil st0.step with ⟨v, z⟩ | _ | _
  · rcases h2 : ev 1500 T (0 + 1 + (parts (Tm.fn 97 U)).length) .nil (st0.step.step.made (0 + 1) (sfree (.fn 97 U)).length) with ⟨v', z'⟩ | _ | _
    · rw [h1, h2] at hb
      simp only [Ou.next, callV]
      by_cases hd : 50 ≤ z'.depth
      · rw [if_pos hd]; exact .inr (.inl rfl)
      · rw [if_neg hd]
        have hq := (sim 1500 1500 U (0 + 1 + (parts T).length) (0 + 1 + 1) (.cons 97 v .nil) (.cons 97 v' .nil) z (z'.enter 0 (0 + 1)) gU (ESim.cons (ESim.nil _ _) hb.1 fU)).both
        show _ ∨ (ev 1500 U (0 + 1 + 1) (.cons 97 v' .nil) (z'.enter 0 (0 + 1))).next _ = _ ∨ resO ((ev 1500 U (0 + 1 + 1) (.cons 97 v' .nil) (z'.enter 0 (0 + 1))).next _) = _
        rcases h3 : ev 1500 U (0 + 1 + (parts T).length) (.cons 97 v .nil) z with ⟨x, y⟩ | _ | _
        · rcases h4 : ev 1500 U (0 + 1 + 1) (.cons 97 v' .nil) (z'.enter 0 (0 + 1)) with ⟨x', y'⟩ | _ | _
          · rw [h3, h4] at hq; exact .inr (.inr (again_res hq.1 _ _))
          · rw [h3, h4] at hq; exact hq.elim
          · exact .inr (.inl rfl)
        · rcases h4 : ev 1500 U (0 + 1 + 1) (.cons 97 v' .nil) (z'.enter 0 (0 + 1)) with ⟨x', y'⟩ | _ | _
          · rw [h3, h4] at hq; exact hq.elim
          · exact .inr (.inr rfl)
          · exact .inr (.inl rfl)
        · exact .inl rfl
    · rw [h1, h2] at hb; exact hb.elim
    · exact .inr (.inl rfl)
  · rcases h2 : ev 1500 T (0 + 1 + (parts (Tm.fn 97 U)).length) .nil (st0.step.step.made (0 + 1) (sfree (.fn 97 U)).length) with ⟨v', z'⟩ | _ | _
    · rw [h1, h2] at hb; exact hb.elim
    · exact .inr (.inr rfl)
    · exact .inr (.inl rfl)
  · exact .inl rfl
/-! The same, told by the results' numbers. -/
theorem resP_some {x : Option Ou} {a0 a2 : Int} {a1 : Bool} (h : resP x = .tuple #[rV a0 a1 a2, .bool true]) : ∃ o, x = some o ∧ resO o = rV a0 a1 a2 := by
  rcases x with _ | o
  · simp [resP] at h
  · refine ⟨o, rfl, ?_⟩
    simpa [resP] using h
theorem rV_eq {a0 a2 c0 c2 : Int} {a1 c1 : Bool} (h : rV a0 a1 a2 = rV c0 c1 c2) : a0 = c0 ∧ a1 = c1 ∧ a2 = c2 := by simpa [rV] using h
theorem resO_eq {o o' : Ou} {a0 a2 c0 c2 : Int} {a1 c1 : Bool} (h : resO o' = resO o) (h1 : resO o = rV a0 a1 a2) (h2 : resO o' = rV c0 c1 c2) : c0 = a0 ∧ c1 = a1 ∧ c2 = a2 := rV_eq (h2.symm.trans (h.trans h1))
theorem res_long {a0 a2 : Int} {a1 : Bool} (h : resO .long = rV a0 a1 a2) : a0 = 2 := (rV_eq h).1.symm
theorem res_fault {a0 a2 : Int} {a1 : Bool} (h : resO .fault = rV a0 a1 a2) : a0 = 1 := (rV_eq h).1.symm
theorem res_ok {v : Vl} {z : St} {a0 a2 : Int} {a1 : Bool} (h : resO (.ok v z) = rV a0 a1 a2) : a0 = 0 ∧ a1 = isF v ∧ a2 = (valN v : Nat) := by
  obtain ⟨h1, h2, h3⟩ := rV_eq h; exact ⟨h1.symm, h2.symm, h3.symm⟩
theorem const_int {s G : Text} {a0 a2 c0 c2 : Int} {a1 c1 : Bool} (hG : G = 40 :: ([92, 112, 57] ++ (s ++ [41]))) (h : resP (runO s) = .tuple #[rV a0 a1 a2, .bool true]) (h' : resP (runO G) = .tuple #[rV c0 c1 c2, .bool true]) :
    c0 = 2 ∨ (a0 = 1 ∧ c0 = 1) ∨ (a0 = 0 ∧ c0 = 0 ∧ c1 = false ∧ c2 = 9) := by
  obtain ⟨o, ho, r⟩ := resP_some h
  obtain ⟨o', ho', r'⟩ := resP_some h'
  rcases const_run hG ho ho' with rfl | ⟨rfl, rfl⟩ | ⟨v, z, z', rfl, rfl⟩
  · exact .inl (res_long r')
  · exact .inr (.inl ⟨res_fault r, res_fault r'⟩)
  · exact .inr (.inr ⟨(res_ok r).1, (res_ok r')⟩)
theorem res_done {o : Ou} {a2 : Int} {a1 : Bool} (h : resO o = rV 0 a1 a2) : ∃ v z, o = .ok v z ∧ a1 = isF v ∧ a2 = (valN v : Nat) := by
  cases o with
  | ok v z => exact ⟨v, z, rfl, (res_ok h).2⟩
  | fault => have := res_fault h; omega
  | long => have := res_long h; omega
theorem sum_int {s G : Text} {a2 c0 c2 : Int} {a1 c1 : Bool} (hG : G = 43 :: ([48] ++ s)) (h : resP (runO s) = .tuple #[rV 0 a1 a2, .bool true]) (h' : resP (runO G) = .tuple #[rV c0 c1 c2, .bool true]) :
    c0 = 2 ∨ (a1 = true ∧ c0 = 1) ∨ (a1 = false ∧ c0 = 0 ∧ c1 = false ∧ c2 = a2) := by
  obtain ⟨o, ho, r⟩ := resP_some h
  obtain ⟨o', ho', r'⟩ := resP_some h'
  obtain ⟨v, z, rfl, e1, e2⟩ := res_done r
  rcases sum_run hG ho ho' with rfl | ⟨hf, rfl⟩ | ⟨hf, he⟩
  · exact .inl (res_long r')
  · exact .inr (.inl ⟨e1.trans hf, res_fault r'⟩)
  · obtain ⟨q1, q2, q3⟩ := resO_eq he r r'
    exact .inr (.inr ⟨e1.trans hf, q1, q2.trans (e1.trans hf), q3⟩)
theorem call_int {s G : Text} {a2 c0 c2 : Int} {a1 c1 : Bool} (hG : G = 40 :: (s ++ ([49] ++ [41]))) (h : resP (runO s) = .tuple #[rV 0 a1 a2, .bool true]) (h' : resP (runO G) = .tuple #[rV c0 c1 c2, .bool true]) :
    a1 = true ∨ c0 = 1 ∨ c0 = 2 := by
  obtain ⟨o, ho, r⟩ := resP_some h
  obtain ⟨o', ho', r'⟩ := resP_some h'
  obtain ⟨v, z, rfl, e1, e2⟩ := res_done r
  rcases hf : isF v
  · rcases call_run hG ho ho' hf with rfl | rfl
    · exact .inr (.inr (res_long r'))
    · exact .inr (.inl (res_fault r'))
  · exact .inl (e1.trans hf)
theorem seq_int {s u G : Text} {a0 a2 b0 b2 c0 c2 : Int} {a1 b1 c1 : Bool} (hG : G = 61 :: 112 :: (s ++ (61 :: 111 :: (u ++ [112])))) (h : resP (runO s) = .tuple #[rV a0 a1 a2, .bool true]) (hu : resP (runO u) = .tuple #[rV b0 b1 b2, .bool true]) (h' : resP (runO G) = .tuple #[rV c0 c1 c2, .bool true]) :
    c0 = 2 ∨ (c0 = 1 ∧ a0 = 1) ∨ (c0 = 1 ∧ a0 = 0 ∧ b0 = 1) ∨ (a0 = 0 ∧ b0 = 0 ∧ c0 = 0 ∧ c1 = a1 ∧ c2 = a2) := by
  obtain ⟨o, ho, r⟩ := resP_some h
  obtain ⟨p, hp, q⟩ := resP_some hu
  obtain ⟨o', ho', r'⟩ := resP_some h'
  rcases seq_run hG ho hp ho' with rfl | ⟨rfl, rfl | ⟨v, z, rfl, rfl⟩⟩ | ⟨v, z, v2, z2, rfl, rfl, he⟩
  · exact .inl (res_long r')
  · exact .inr (.inl ⟨res_fault r', res_fault r⟩)
  · exact .inr (.inr (.inl ⟨res_fault r', (res_ok r).1, res_fault q⟩))
  · obtain ⟨q1, q2, q3⟩ := resO_eq he r r'
    exact .inr (.inr (.inr ⟨(res_ok r).1, (res_ok q).1, q1.trans (res_ok r).1, q2, q3⟩))
theorem sel_int {s u G : Text} {d : UInt8} {a0 a2 b0 b2 c0 c2 : Int} {a1 b1 c1 : Bool} (hd : isDig d = true) (hG : G = 63 :: d :: (s ++ u)) (h : resP (runO s) = .tuple #[rV a0 a1 a2, .bool true]) (hu : resP (runO u) = .tuple #[rV b0 b1 b2, .bool true]) (h' : resP (runO G) = .tuple #[rV c0 c1 c2, .bool true]) :
    c0 = 2 ∨ if d.toNat = 48 then c0 = a0 ∧ c1 = a1 ∧ c2 = a2 else c0 = b0 ∧ c1 = b1 ∧ c2 = b2 := by
  obtain ⟨o, ho, r⟩ := resP_some h
  obtain ⟨p, hp, q⟩ := resP_some hu
  obtain ⟨o', ho', r'⟩ := resP_some h'
  rcases sel_run hd hG ho hp ho' with rfl | he
  · exact .inl (res_long r')
  · refine .inr ?_
    split
    · rename_i h0; rw [if_pos h0] at he; exact resO_eq he r r'
    · rename_i h0; rw [if_neg h0] at he; exact resO_eq he q r'
theorem let_int {s u L C : Text} {T U : Tm} {a0 a2 c0 c2 : Int} {a1 c1 : Bool} (hL : L = 61 :: 97 :: (s ++ u)) (hC : C = 40 :: 92 :: 97 :: (u ++ (s ++ [41]))) (hs : readS s = some T) (hu : readS u = some U) (h : resP (runO L) = .tuple #[rV a0 a1 a2, .bool true]) (h' : resP (runO C) = .tuple #[rV c0 c1 c2, .bool true]) :
    a0 = 2 ∨ c0 = 2 ∨ (c0 = a0 ∧ c1 = a1 ∧ c2 = a2) := by
  obtain ⟨o, ho, r⟩ := resP_some h
  obtain ⟨o', ho', r'⟩ := resP_some h'
  rcases let_run hL hC hs hu ho ho' with rfl | rfl | he
  · exact .inl (res_long r)
  · exact .inr (.inl (res_long r'))
  · exact .inr (.inr (resO_eq he r r'))
/-- What a run of a number, one of the number's name, and one of the number twice come to. -/
theorem twice_int {s G H : Text} {a2 : Int} (hG : G = 61 :: 112 :: (s ++ [43, 112, 112])) (hH : H = 43 :: (s ++ s)) (h : resP (runO s) = .tuple #[rV 0 false a2, .bool true]) :
    0 ≤ a2 ∧ a2 ≤ 99 ∧ (∀ (c0 c2 : Int) (c1 : Bool), resP (runO G) = .tuple #[rV c0 c1 c2, .bool true] → c0 = 2 ∨ (c0 = 0 ∧ c1 = false ∧ c2 = (2 * a2) % 100)) ∧ (∀ (c0 c2 : Int) (c1 : Bool), resP (runO H) = .tuple #[rV c0 c1 c2, .bool true] → c0 = 2 ∨ (c0 = 0 ∧ c1 = false ∧ c2 = (2 * a2) % 100))
      ∧ ∃ z, z.steps ≤ 1500 ∧ doneO s = some z ∧ ∀ z', doneO G = some z' → z'.steps = z.steps + 4 := by
  obtain ⟨o, ho, r⟩ := resP_some h
  obtain ⟨v, z, rfl, e1, e2⟩ := res_done r
  cases v with
  | clo i t e => cases e1
  | num k =>
    obtain ⟨T, hT, e0⟩ := runO_some ho
    have hw := ev_ok 1501 T 0 .nil st0 (closed_ok hT)
    rw [← e0] at hw
    have hk : k ≤ 99 := by cases hw.1 with | num _ hk => exact hk
    have e2 : a2 = (k : Int) := e2
    subst e2
    refine ⟨by omega, by omega, fun c0 c2 c1 hc => ?_, fun c0 c2 c1 hc => ?_, z, hw.2.top (by decide), ?_, fun z' hz' => ?_⟩
    · obtain ⟨o', ho', r'⟩ := resP_some hc
      rcases named_run hG ho ho' with rfl | ⟨z', rfl, _⟩
      · exact .inl (res_long r')
      · obtain ⟨q1, q2, q3⟩ := res_ok r'
        exact .inr ⟨q1, q2, by rw [q3]; show (((k + k) % 100 : Nat) : Int) = _; omega⟩
    · obtain ⟨o', ho', r'⟩ := resP_some hc
      rcases plain_run hH ho ho' with rfl | ⟨z', rfl⟩
      · exact .inl (res_long r')
      · obtain ⟨q1, q2, q3⟩ := res_ok r'
        exact .inr ⟨q1, q2, by rw [q3]; show (((k + k) % 100 : Nat) : Int) = _; omega⟩
    · unfold doneO; rw [hT]; simp only [Option.bind_some]; rw [← e0]
    · unfold doneO at hz'
      rcases hc : closedS G with _ | X
      · rw [hc] at hz'; cases hz'
      · rw [hc] at hz'
        have ho' : runO G = some (ev 1501 X 0 .nil st0) := by unfold runO; rw [hc]; rfl
        simp only [Option.bind_some] at hz'
        rcases named_run hG ho ho' with h2 | ⟨z2, h2, h3⟩
        · rw [h2] at hz'; cases hz'
        · rw [h2] at hz'; injection hz' with hz'; subst hz'; exact h3
theorem res_cases {x : Option Ou} {a0 a2 : Int} {a1 : Bool} (h : resP x = .tuple #[rV a0 a1 a2, .bool true]) : a0 = 0 ∨ a0 = 1 ∨ a0 = 2 := by
  obtain ⟨o, rfl, r⟩ := resP_some h
  cases o with
  | ok v z => exact .inl (res_ok r).1
  | fault => exact .inr (.inl (res_fault r))
  | long => exact .inr (.inr (res_long r))
theorem sel0_int {s u G : Text} {a0 a2 b0 b2 c0 c2 : Int} {a1 b1 c1 : Bool} (hG : G = 63 :: 48 :: (s ++ u)) (h : resP (runO s) = .tuple #[rV a0 a1 a2, .bool true]) (hu : resP (runO u) = .tuple #[rV b0 b1 b2, .bool true]) (h' : resP (runO G) = .tuple #[rV c0 c1 c2, .bool true]) :
    c0 = 2 ∨ (c0 = a0 ∧ c1 = a1 ∧ c2 = a2) := by
  have := sel_int (by decide) hG h hu h'
  rwa [if_pos (by decide)] at this
theorem sel5_int {s u G : Text} {a0 a2 b0 b2 c0 c2 : Int} {a1 b1 c1 : Bool} (hG : G = 63 :: 53 :: (s ++ u)) (h : resP (runO s) = .tuple #[rV a0 a1 a2, .bool true]) (hu : resP (runO u) = .tuple #[rV b0 b1 b2, .bool true]) (h' : resP (runO G) = .tuple #[rV c0 c1 c2, .bool true]) :
    c0 = 2 ∨ (c0 = b0 ∧ c1 = b1 ∧ c2 = b2) := by
  have := sel_int (by decide) hG h hu h'
  rwa [if_neg (by decide)] at this
/-- A count, and one of which no more than the steps is known. -/
theorem cnt_named {o : Option St} {n : Nat} (h : ∀ z', o = some z' → z'.steps = n) : ∃ (n0 n1 n2 n3 n4 : Int) (nb : Bool), cntP o = .tuple #[.agg #[.int .i64 n0, .int .i64 n1, .int .i64 n2, .int .i64 n3, .int .i64 n4], .bool nb] ∧ (nb = false ∨ nb = true ∧ n0 = (n : Int)) := by
  rcases o with _ | z'
  · exact ⟨_, _, _, _, _, _, rfl, .inl rfl⟩
  · exact ⟨_, _, _, _, _, _, rfl, .inr ⟨rfl, by rw [h z' rfl]⟩⟩
end Go.Proofs.YtjfhncfbejephaaGreatDoor
