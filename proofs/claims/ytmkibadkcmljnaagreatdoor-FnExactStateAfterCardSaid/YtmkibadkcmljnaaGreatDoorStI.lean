import Derived.Test.YtmkibadkcmljnaaGreatDoorStS
import Derived.Test.YtmkibadkcmljnaaGreatDoorStR
/- IsStuck: what is next, and whether a rule fits it; the specification's and the program's; the law. -/
namespace Go.Proofs.YtmkibadkcmljnaaGreatDoor
open Go.RowKit
open Ff
set_option linter.unusedVariables false

/-- A part that no rule fits. -/
def stuckT : Tm → Bool
  | .app f _ => isNum f
  | .sel a _ _ => !isNum a
  | .op _ l r => !(isNum l && isNum r)
  | _ => false
/-- What is known of the part that is next. -/
structure NextOk (q : Tm) : Prop where
  noval : q.isVal = false
  closed : Closed q
  kids : ∀ (k : Nat) (s : Tm), (evalK q)[k]? = some s → s.isVal = true
theorem next_ok : ∀ (n : Nat) (t : Tm), t.depth ≤ n → t.isVal = false → Closed t → NextOk (partAt t (redexP t))
  | 0, t, hd, _, _ => absurd hd (by have := t.depth_pos; omega)
  | n + 1, t, hd, hv, hc => by
    by_cases hall : ∀ (k : Nat) (s : Tm), (evalK t)[k]? = some s → s.isVal = true
    · rw [redexP_none hall]
      exact ⟨hv, hc, hall⟩
    · have hex : ∃ k s, (evalK t)[k]? = some s ∧ s.isVal = false ∧ ∀ (j : Nat) (r : Tm), j < k → (evalK t)[j]? = some r → r.isVal = true := by
        have hlen := evalK_len t
        rcases h0 : (evalK t)[0]? with _ | s0
        · exfalso
          apply hall
          intro k s hs
          have h1 := (List.getElem?_eq_some_iff.1 hs).1
          have h2 := List.getElem?_eq_none_iff.1 h0
          omega
        · cases hs0 : s0.isVal
          · exact ⟨0, s0, h0, hs0, fun j r hj => by omega⟩
          · rcases h1 : (evalK t)[1]? with _ | s1
            · exfalso
              apply hall
              intro k s hs
              have h2 := (List.getElem?_eq_some_iff.1 hs).1
              have h3 := List.getElem?_eq_none_iff.1 h1
              obtain rfl : k = 0 := by omega
              rw [h0] at hs
              injection hs with hs
              rw [← hs]; exact hs0
            · cases hs1 : s1.isVal
              · exact ⟨1, s1, h1, hs1, fun j r hj hr => by
                  obtain rfl : j = 0 := by omega
                  rw [h0] at hr
                  injection hr with hr
                  rw [← hr]; exact hs0⟩
              · exfalso
                apply hall
                intro k s hs
                have h2 := (List.getElem?_eq_some_iff.1 hs).1
                rcases k with _ | _ | k
                · rw [h0] at hs; injection hs with hs; rw [← hs]; exact hs0
                · rw [h1] at hs; injection hs with hs; rw [← hs]; exact hs1
                · omega
      obtain ⟨k, s, hs, hsv, hprev⟩ := hex
      rw [redexP_some hs hsv hprev]
      have e : partAt t (k :: redexP s) = partAt s (redexP s) := by simp only [partAt, evalK_kid hs]
      rw [e]
      exact next_ok n s (by have := kid_depth (List.mem_of_getElem? (evalK_kid hs)); omega) hsv (evalK_closed hs hc)
theorem stuck_rule {q : Tm} (h : NextOk q) : stuckT q = (ruleT q).isNone := by
  obtain ⟨hv, hc, hk⟩ := h
  cases q with
  | num k => cases hv
  | fn c b => cases hv
  | fix f c b => cases hv
  | var c => exact absurd (hc c) (by simp [cntF])
  | bind c v b => rfl
  | app f a =>
    have := hk 0 f rfl
    cases f <;> first | rfl | cases this
  | sel a y z =>
    have := hk 0 a rfl
    cases a with
    | num k => by_cases h : k = 0 <;> simp [stuckT, ruleT, isNum, h]
    | fn c b => rfl
    | fix f c b => rfl
    | _ => cases this
  | op o l r =>
    have h0 := hk 0 l rfl
    have h1 := hk 1 r rfl
    cases l with
    | num a => cases r <;> first | rfl | cases h1
    | fn c b => rfl
    | fix f c b => rfl
    | _ => cases h0
theorem reduced_c (q : Tm) (w : World) (hg : q.good) (hd : q.depth ≤ 1500) (hp : (parts q).length ≤ 1500) (h : NextOk q) : Calls Tryz.prog 44 #[enc q] w (RedP (ruleT q) w) := by
  obtain ⟨hv, hc, hk⟩ := h
  have kd := fun (s : Tm) (hs : s ∈ q.kids) => kid_depth hs
  have kp := fun (s : Tm) (hs : s ∈ q.kids) => parts_kid_le hs
  have kg := fun (s : Tm) (hs : s ∈ q.kids) => Tm.kid_good hg hs
  cases q with
  | num k => cases hv
  | fn c b => cases hv
  | fix f c b => cases hv
  | var c => exact absurd (hc c) (by simp [cntF])
  | bind c v b =>
    have mb : b ∈ (Tm.bind c v b).kids := by simp [Tm.kids]
    have mv : v ∈ (Tm.bind c v b).kids := by simp [Tm.kids]
    have d1 := kd b mb
    have d2 := kd v mv
    have p2 := kp v mv
    exact reduced_bind c v b w (by omega) (kg b mb) (kg v mv) (by omega) (by omega) (evalK_closed (k := 0) (t := .bind c v b) rfl hc)
  | app f a =>
    have mf : f ∈ (Tm.app f a).kids := by simp [Tm.kids]
    have ma : a ∈ (Tm.app f a).kids := by simp [Tm.kids]
    have d1 := kd f mf
    have d2 := kd a ma
    have p1 := kp f mf
    have p2 := kp a ma
    have g1 := kg f mf
    have g2 := kg a ma
    have ca : Closed a := evalK_closed (k := 1) (t := .app f a) rfl hc
    have cf : Closed f := evalK_closed (k := 0) (t := .app f a) rfl hc
    have hf := hk 0 f rfl
    cases f with
    | num k => exact reduced_stuckApp _ a w rfl
    | fn c b =>
      have d0 : (Tm.fn c b).depth = b.depth + 1 := by simp [Tm.depth]
      exact reduced_fn c b a w (by omega) g1.2 g2 (by omega) (by omega) ca
    | fix f c b =>
      have d0 : (Tm.fix f c b).depth = b.depth + 1 := by simp [Tm.depth]
      have p0 : (parts (Tm.fix f c b)).length = (parts b).length + 1 := by simp [parts]
      exact reduced_fix f c b a _ _ w g1.1 rfl rfl g1 (by omega) (by omega) g2 (by omega) (by omega) ca cf
    | _ => cases hf
  | sel a y z =>
    have ha := hk 0 a rfl
    cases a with
    | num k =>
      by_cases h : k = 0
      · have e : ruleT (.sel (.num k) y z) = some (y, [122, 101, 114, 111]) := by simp [ruleT, h]
        rw [e]
        exact reduced_zero k y z w h
      · have e : ruleT (.sel (.num k) y z) = some (z, [111, 116, 104, 101, 114]) := by simp [ruleT, h]
        rw [e]
        exact reduced_other k y z w h
    | fn c b => exact reduced_stuckSel _ y z w rfl
    | fix f c b => exact reduced_stuckSel _ y z w rfl
    | _ => cases ha
  | op o l r =>
    have h0 := hk 0 l rfl
    have h1 := hk 1 r rfl
    have ho : o.toNat = 43 ∨ o.toNat = 45 ∨ o.toNat = 42 := by rcases hg.1 with h | h | h <;> subst h <;> decide
    cases l with
    | num a =>
      cases r with
      | num b => exact reduced_number o a b w ho hg.2.1 hg.2.2
      | fn c d => exact reduced_stuckOp o _ _ w rfl
      | fix f c d => exact reduced_stuckOp o _ _ w rfl
      | _ => cases h1
    | fn c b => exact reduced_stuckOp o _ _ w rfl
    | fix f c b => exact reduced_stuckOp o _ _ w rfl
    | _ => cases h0
/-- Is a closed term stuck? -/
def stuckO (t : Tm) : Bool := if t.isVal = true then false else stuckT (partAt t (redexP t))
set_option maxRecDepth 100000 in
set_option maxHeartbeats 4000000 in
theorem iStuck_c (t : Tm) (w : World) (hg : t.good) (hd : t.depth ≤ 1500) (hp : (parts t).length ≤ 1500) (hc : Closed t) :
    Calls Tryz.prog 50 #[.agg #[enc t]] w fun e w' => e = .returned (.bool (stuckO t)) ∧ Below w.heap.size w w' := by
  have KN := fun W => pnext_c _ fill_any t.depth t W (Nat.le_refl _) (by omega) hg
  obtain ⟨pg, pd, pp⟩ := part_at_facts t (redexP t) (redexP_ok t)
  unfold stuckO
  cases hv : t.isVal
  · have hN := next_ok t.depth t (Nat.le_refl _) hv hc
    have KN2 : ∀ W, Calls Tryz.prog 43 #[.agg #[enc t]] W fun e w' => ∃ fn first cap, e = .returned (.tuple #[.agg #[enc (partAt t (redexP t)), .func fn first cap], .bool true]) ∧ Below W.heap.size W w' := fun W => (KN W).mono fun e w' h => by
      obtain ⟨h1, ⟨h2, _⟩ | ⟨_, fn, first, cap, h3, _⟩⟩ := h
      · rw [hv] at h2; cases h2
      · exact ⟨fn, first, cap, h3, h1⟩
    have KR := fun W => reduced_c (partAt t (redexP t)) W (pg hg) (by omega) (by omega) hN
    have hst := stuck_rule hN
    clear hv pg pd pp KN hN
    generalize partAt t (redexP t) = q at *
    obtain ⟨tn, tv, htv⟩ := enc_gen t
    obtain ⟨qn, qv, hqv⟩ := enc_gen q
    rw [htv]
    simp only [htv, hqv] at KN2
    simp only [hqv] at KR
    simp only [Bool.false_eq_true, if_false]
    unfold RedP at KR
    clear htv hqv
    rcases hr : ruleT q with _ | ⟨r, nm⟩
    · rw [hr] at hst KR
      simp only at KR
      rw [hst]
      clear hst hr
      go_enter Tryz.func50, Tryz.ntmps50
      go_wp2_with (first
        | (go_at_call 43; refine (KN2 _).mono ?_; clear KN2; rintro e w2 ⟨fn, first, cap, rfl, hb2⟩; have hB2 : Below w.heap.size w w2 := ((Below.refl _ w).alloc (Nat.le_refl _) _).trans (hb2.mono (by simp)))
        | (go_at_call 44; refine (KR _).mono ?_; clear KR; rintro e w3 ⟨rfl, hb3⟩))
      go_ret
      exact ⟨rfl, (hB2.alloc hB2.size _).trans (hb3.mono (by have := hB2.size; simp; omega))⟩
    · rw [hr] at hst KR
      simp only at KR
      rw [hst]
      obtain ⟨rn, rv, hrv⟩ := enc_gen r
      simp only [hrv] at KR
      clear hst hr hrv
      go_enter Tryz.func50, Tryz.ntmps50
      go_wp2_with (first
        | (go_at_call 43; refine (KN2 _).mono ?_; clear KN2; rintro e w2 ⟨fn, first, cap, rfl, hb2⟩; have hB2 : Below w.heap.size w w2 := ((Below.refl _ w).alloc (Nat.le_refl _) _).trans (hb2.mono (by simp)))
        | (go_at_call 44; refine (KR _).mono ?_; clear KR; rintro e w3 ⟨rfl, hb3⟩))
      go_ret
      exact ⟨rfl, (hB2.alloc hB2.size _).trans (hb3.mono (by have := hB2.size; simp; omega))⟩
  · have KN2 : ∀ W, Calls Tryz.prog 43 #[.agg #[enc t]] W fun e w' => e = .returned (.tuple #[.agg #[.nilIface, .nilFunc], .bool false]) ∧ Below W.heap.size W w' := fun W => (KN W).mono fun e w' h => by
      obtain ⟨h1, ⟨_, h2⟩ | ⟨h2, _⟩⟩ := h
      · exact ⟨h2, h1⟩
      · rw [hv] at h2; cases h2
    clear hv pg pd pp KN
    obtain ⟨tn, tv, htv⟩ := enc_gen t
    rw [htv]
    simp only [htv] at KN2
    simp only [if_true]
    clear htv
    go_enter Tryz.func50, Tryz.ntmps50
    go_wp2_with (go_at_call 43; refine (KN2 _).mono ?_; clear KN2; rintro e w2 ⟨rfl, hb2⟩; have hB2 : Below w.heap.size w w2 := ((Below.refl _ w).alloc (Nat.le_refl _) _).trans (hb2.mono (by simp)))
    go_ret
    exact ⟨rfl, hB2.alloc hB2.size _⟩
end Go.Proofs.YtmkibadkcmljnaaGreatDoor
