import Derived.Test.YtefmmgccdpfnaaaGreatDoorMSh
import Derived.Test.YtefmmgccdpfnaaaGreatDoorMSl
import Derived.Test.YtefmmgccdpfnaaaGreatDoorMSj
import Derived.Test.YtefmmgccdpfnaaaGreatDoorStX
import Derived.Test.YtefmmgccdpfnaaaGreatDoorMTx
/- Runs by putting, as plain data: what is left of a run is a run; texts of states. No program in sight. -/
namespace Go.Proofs.YtefmmgccdpfnaaaGreatDoor
open Ff
set_option linter.unusedVariables false

theorem parts_text (t : Tm) : (parts t).length ≤ (textN t).length := by
  have := own_many (parts t)
  rwa [own_sum] at this
theorem state_some {s : Text} {t : Tm} : stateO s = some t ↔ t.good ∧ s = textN t ∧ s.length ≤ 1500 ∧ Closed t := by
  constructor
  · intro h
    obtain ⟨hg, _, _, hc⟩ := state_facts h
    unfold stateO at h
    rcases hr : readU 1500 s with _ | t'
    · rw [hr] at h; cases h
    · rw [hr] at h
      simp only [Option.bind_some] at h
      split at h
      · injection h with h
        subst h
        obtain ⟨h1, h2⟩ := readU_some hr
        exact ⟨hg, by have := parse_text _ _ _ _ h1; rwa [List.append_nil] at this, h2, hc⟩
      · cases h
  · rintro ⟨hg, rfl, hl, hc⟩
    have hp := text_parse t hg ((textN t).length + 1) [] (by have := parts_text t; have := depth_le t; omega)
    rw [List.append_nil] at hp
    unfold stateO readU
    rw [if_pos hl, hp]
    simp only [Option.bind_some, if_true]
    rw [if_pos ((free_nil hg).2 hc)]
/-- A state whose text is not too long. -/
def Fit (t : Tm) : Prop := t.good ∧ (textN t).length ≤ 1500 ∧ Closed t
theorem Fit.ok {t : Tm} (h : Fit t) : StateOk t := ⟨h.1, by have := parts_text t; have := h.2.1; omega, h.2.2⟩
theorem Fit.state {t : Tm} (h : Fit t) : stateO (textN t) = some t := state_some.2 ⟨h.1, rfl, h.2.1, h.2.2⟩
theorem fit_of {s : Text} {t : Tm} (h : stateO s = some t) : Fit t ∧ s = textN t := by
  obtain ⟨h1, h2, h3, h4⟩ := state_some.1 h
  exact ⟨⟨h1, by rw [← h2]; exact h3, h4⟩, h2⟩
theorem closed_fit {s : Text} {t : Tm} (h : closedS s = some t) : Fit t ∧ s = textN t := by
  obtain ⟨h1, h2⟩ := closedS_some h
  have h3 := readS_text h1
  refine ⟨⟨readS_good h1, ?_, (free_nil (readS_good h1)).1 h2⟩, h3.symm⟩
  rw [h3]
  have : s.length ≤ 120 := by
    unfold readS at h1
    split at h1
    · assumption
    · cases h1
  omega
theorem closed_state' {s : Text} {t : Tm} (h : closedS s = some t) : stateO s = some t := by
  obtain ⟨h1, h2⟩ := closed_fit h
  rw [h2]
  exact h1.state
theorem step_fit {t : Tm} (h : Fit t) {r : Tm × Text} (hr : stepT t = some r) : Fit r.1 := by
  have hk := step_ok' h.ok hr
  have hf := stepT_facts h.1 hr
  exact ⟨hk.good, hf.2.1, hk.closed⟩
theorem goT_fit {t : Tm} (h : Fit t) : ∀ k, Fit (goT t k).1
  | 0 => h
  | k + 1 => by
    have I := goT_fit h k
    unfold goT
    split
    · split
      · rename_i r hr
        exact step_fit I hr
      · exact I
    · exact I
theorem goT_add {t : Tm} {k : Nat} (hk : (goT t k).2 = k) : ∀ j, goT t (k + j) = ((goT (goT t k).1 j).1, (goT (goT t k).1 j).2 + k)
  | 0 => by
    rw [Nat.add_zero]
    show goT t k = ((goT t k).1, 0 + k)
    rw [Nat.zero_add]
    exact Prod.ext rfl hk
  | j + 1 => by
    have I := goT_add hk j
    rw [← Nat.add_assoc, goT, I, goT]
    simp only
    by_cases hj : (goT (goT t k).1 j).2 = j
    · rw [if_pos (by omega), if_pos hj]
      rcases stepT (goT (goT t k).1 j).1 with _ | r
      · exact Prod.ext rfl (by show k + j = j + k; omega)
      · exact Prod.ext rfl (by show k + j + 1 = j + 1 + k; omega)
    · rw [if_neg (by omega), if_neg hj]
theorem goT_shift {t : Tm} {r : Tm × Text} (hr : stepT t = some r) (k : Nat) : goT t (k + 1) = ((goT r.1 k).1, (goT r.1 k).2 + 1) := by
  have h1 := goT_step (t := t) (k := 0) rfl hr
  have h2 := goT_add (t := t) (k := 1) (by rw [h1]) k
  rw [Nat.add_comm k 1, h2, h1]
theorem goT_term (t : Tm) : ∀ k, (goT t k).2 < k → stepT (goT t k).1 = none
  | 0, h => by simp [goT] at h
  | k + 1, h => by
    have hl := goT_le t k
    rw [goT] at h ⊢
    by_cases hk : (goT t k).2 = k
    · rw [if_pos hk] at h ⊢
      rcases hs : stepT (goT t k).1 with _ | r
      · exact hs
      · rw [hs] at h
        simp only at h
        omega
    · rw [if_neg hk]
      exact goT_term t k (by omega)
theorem goT_stay {t : Tm} {k : Nat} (h : (goT t k).2 < k) : ∀ j, goT t (k + j) = goT t k
  | 0 => rfl
  | j + 1 => by
    have I := goT_stay h j
    rw [← Nat.add_assoc, goT, I, if_neg (by omega)]
/-- Once nothing goes on, more steps make no difference. -/
theorem goT_end {t : Tm} {k : Nat} (h : stepT (goT t k).1 = none) (j : Nat) : goT t (k + j) = goT t k := by
  by_cases hk : (goT t k).2 = k
  · rw [goT_stop hk h j]
    exact Prod.ext rfl hk.symm
  · exact goT_stay (by have := goT_le t k; omega) j
/-- The state after as many steps as were made is the last one. -/
theorem goT_last (t : Tm) (k : Nat) : goT t (goT t k).2 = goT t k := by
  by_cases hk : (goT t k).2 = k
  · rw [hk]
  · have hl := goT_le t k
    have hs := goT_same k t (Nat.le_refl (goT t k).2)
    rcases hq : stepT (goT t (goT t k).2).1 with _ | r
    · have := goT_end hq (k - (goT t k).2)
      rw [Nat.add_sub_cancel' hl] at this
      exact this.symm
    · have h1 := goT_step hs hq
      have h2 := goT_reach t (i := (goT t k).2 + 1) (by rw [h1]) (k - (goT t k).2 - 1)
      rw [show (goT t k).2 + 1 + (k - (goT t k).2 - 1) = k by omega] at h2
      omega
theorem val_end {t : Tm} (h : t.isVal = true) : stepT t = none := by unfold stepT; rw [if_pos h]
theorem stuck_end {t : Tm} (h : StateOk t) (hs : stuckO t = true) : stepT t = none := by
  have hs : t.isVal = false ∧ stuckT (partAt t (redexP t)) = true := by
    unfold stuckO at hs
    cases hv : t.isVal <;> simp_all
  have hN := next_ok t.depth t (Nat.le_refl _) hs.1 h.closed
  have h2 := stuck_rule hN
  rw [hs.2] at h2
  unfold stepT
  rw [if_neg (by rw [hs.1]; simp)]
  rcases hr : ruleT (partAt t (redexP t)) with _ | r
  · rfl
  · rw [hr] at h2; cases h2
/-- What ends a run well or by a fault has no step. -/
theorem done_end {t : Tm} (h : StateOk t) (he : resE t ≠ 2) : stepT t = none := by
  unfold resE at he
  by_cases hv : t.isVal = true
  · exact val_end hv
  · rw [if_neg hv] at he
    by_cases hs : stuckO t = true
    · exact stuck_end h hs
    · rw [if_neg hs] at he
      exact absurd rfl he
theorem step_noval {t : Tm} {r : Tm × Text} (h : stepT t = some r) : t.isVal = false := by
  cases hv : t.isVal
  · rfl
  · rw [val_end hv] at h; cases h
theorem step_rule {t : Tm} {r : Tm × Text} (h : stepT t = some r) : r.2 ≠ [] := by
  have hv := step_noval h
  unfold stepT at h
  rw [if_neg (by rw [hv]; simp)] at h
  rcases hr : ruleT (partAt t (redexP t)) with _ | q
  · rw [hr] at h; cases h
  · rw [hr] at h
    simp only [Option.bind_some] at h
    split at h
    · injection h with h
      subst h
      show q.2 ≠ []
      exact rule_name hr
    · cases h
theorem part_text : ∀ (p : List Nat) (t : Tm), PathOk t p → (textN (partAt t p)).length ≤ (textN t).length
  | [], t, _ => Nat.le_refl _
  | i :: p, t, h => by
    obtain ⟨s, hs, hp⟩ := h
    have e1 : partAt t (i :: p) = partAt s p := by simp [partAt, hs]
    have I := part_text p s hp
    rw [e1]
    have hk : (textN s).length ≤ (textN t).length := by
      cases t with
      | num k => simp [Tm.kids] at hs
      | var c => simp [Tm.kids] at hs
      | fn c b => rcases i with _ | i <;> simp [Tm.kids] at hs; subst hs; simp [textN]; omega
      | fix f c b => rcases i with _ | i <;> simp [Tm.kids] at hs; subst hs; simp [textN]; omega
      | app f a => rcases i with _ | _ | i <;> simp [Tm.kids] at hs <;> subst hs <;> simp [textN] <;> omega
      | bind c v b => rcases i with _ | _ | i <;> simp [Tm.kids] at hs <;> subst hs <;> simp [textN] <;> omega
      | op o l r => rcases i with _ | _ | i <;> simp [Tm.kids] at hs <;> subst hs <;> simp [textN] <;> omega
      | sel a b c => rcases i with _ | _ | _ | i <;> simp [Tm.kids] at hs <;> subst hs <;> simp [textN] <;> omega
    omega
/-- What is next in a state is one itself. -/
theorem redex_fit {t : Tm} (h : Fit t) (hv : t.isVal = false) : Fit (partAt t (redexP t)) := by
  have hN := next_ok t.depth t (Nat.le_refl _) hv h.2.2
  obtain ⟨pg, _, _⟩ := part_at_facts t (redexP t) (redexP_ok t)
  have := part_text (redexP t) t (redexP_ok t)
  exact ⟨pg h.1, by have := h.2.1; omega, hN.closed⟩
end Go.Proofs.YtefmmgccdpfnaaaGreatDoor

/- Facts for the laws of chapter 4. No program in sight. -/
namespace Go.Proofs.YtefmmgccdpfnaaaGreatDoor
open Ff
set_option linter.unusedVariables false

theorem stuckO_val {t : Tm} (h : stuckO t = true) : t.isVal = false := by
  unfold stuckO at h
  cases hv : t.isVal
  · rfl
  · rw [hv] at h; simp at h
/-- What is stuck. -/
theorem stuck_facts {s : Text} (h : stuckS s = true) : stepO s = none ∧ (stateO s).isSome = true ∧ ∃ q, redexO s = some q ∧ (stateO (textN q)).isSome = true ∧ (textN q).length ≤ 1500 := by
  unfold stuckS at h
  rcases hs : stateO s with _ | t
  · rw [hs] at h; cases h
  · rw [hs] at h
    simp only at h
    obtain ⟨hf, e⟩ := fit_of hs
    have hv := stuckO_val h
    have hq := redex_fit hf hv
    refine ⟨by unfold stepO; rw [hs]; exact stuck_end hf.ok h, rfl, partAt t (redexP t), by unfold redexO; rw [hs]; simp [hv], by rw [hq.state]; rfl, hq.2.1⟩
/-- What a step of a state's text tells. -/
structure StepTold (s : Text) (r : Tm × Text) : Prop where
  valid : (stateO s).isSome = true
  next : stateO (textN r.1) = some r.1
  stuck : stuckS s = false
  rule : r.2.isEmpty = false
  len : (textN r.1).length ≤ 1500
  redex : ∃ q, redexO s = some q ∧ (textN q).length ≤ s.length
  run : ∀ t u : Tm, closedS s = some t → closedS (textN r.1) = some u → resE (goT t 300).1 = 2 ∨ resT (goT t 300).1 = resT (goT u 300).1
theorem step_told {s : Text} {r : Tm × Text} (h : stepO s = some r) : StepTold s r := by
  unfold stepO at h
  rcases hs : stateO s with _ | t
  · rw [hs] at h; cases h
  · rw [hs] at h
    simp only [Option.bind_some] at h
    obtain ⟨hf, e⟩ := fit_of hs
    have hv := step_noval h
    have hr := step_fit hf h
    have hstuck : stuckO t = false := by
      cases hq : stuckO t
      · rfl
      · rw [stuck_end hf.ok hq] at h; cases h
    refine ⟨by rw [hs]; rfl, hr.state, by unfold stuckS; rw [hs]; exact hstuck, by have := step_rule h; simpa using this, hr.2.1, ⟨partAt t (redexP t), by unfold redexO; rw [hs]; simp [hv], by rw [e]; exact part_text _ _ (redexP_ok t)⟩, ?_⟩
    intro t' u ht hu
    have h1 := closed_state' ht
    rw [hs] at h1
    obtain rfl := Option.some.inj h1
    have h2 := closed_state' hu
    rw [hr.state] at h2
    obtain rfl := Option.some.inj h2
    have hsh := goT_shift h 299
    by_cases he : resE (goT t 300).1 = 2
    · exact .inl he
    · right
      have hend := done_end (goT_fit hf 300).ok he
      rw [show (300 : Nat) = 299 + 1 from rfl, hsh] at hend ⊢
      simp only at hend ⊢
      have h3 := goT_end hend 1
      rw [show (299 : Nat) + 1 = 299 + 1 from rfl] at h3
      rw [h3]
/-- What the last state of a run tells. -/
structure LastTold (t : Tm) (p : Tm × Nat) : Prop where
  state : stateO (textN p.1) = some p.1
  len : (textN p.1).length ≤ 1500
  stuck : stuckS (textN p.1) = stuckO p.1
  after : saT t (p.2 : Int) = some p.1
  count : p.2 ≤ 300
theorem last_told {t : Tm} (h : Fit t) : LastTold t (goT t 300) := by
  have hf := goT_fit h 300
  have hl := goT_le t 300
  have hs := goT_same 300 t (Nat.le_refl (goT t 300).2)
  have e := goT_last t 300
  refine ⟨hf.state, hf.2.1, by unfold stuckS; rw [hf.state], ?_, hl⟩
  unfold saT
  rw [if_pos ⟨by omega, by omega, by simpa using hs⟩]
  simp only [Int.toNat_natCast]
  rw [e]
theorem val_step {s : Text} {t : Tm} (h : stateO s = some t) (hv : t.isVal = true) : stepO s = none := by
  unfold stepO
  rw [h]
  exact val_end hv
/-- What a state in a run tells. -/
structure MidTold (t : Tm) (k : Nat) : Prop where
  fit : ∀ i, i ≤ k → Fit (goT t i).1
  step : ∀ i, i < k → ∃ r, stepO (textN (goT t i).1) = some r ∧ r.1 = (goT t (i + 1)).1
theorem mid_told {t : Tm} (h : Fit t) {k : Nat} (hk : (goT t k).2 = k) : MidTold t k := by
  refine ⟨fun i _ => goT_fit h i, fun i hi => ?_⟩
  have h1 := goT_same k t (k := i) (by omega)
  have h2 := goT_same k t (k := i + 1) (by omega)
  have hf := (goT_fit h i).state
  rcases hr : stepT (goT t i).1 with _ | r
  · have := goT_stop h1 hr 1
    rw [this] at h2
    simp only at h2
    omega
  · refine ⟨r, by unfold stepO; rw [hf]; exact hr, ?_⟩
    rw [goT_step h1 hr]
/-- What is left of a run. -/
theorem left_told {t : Tm} {k : Nat} (hk : (goT t k).2 = k) (hk3 : k ≤ 300) :
    (cpV (some (goT t 300)) < 0 → cpV (some (goT (goT t k).1 300)) < 0 ∨ 0 < (k : Int)) ∧
    (0 ≤ cpV (some (goT t 300)) → cpV (some (goT (goT t k).1 300)) = cpV (some (goT t 300)) - k ∧ (goT t 300).1 = (goT (goT t k).1 300).1) := by
  have hA := goT_add hk (300 - k)
  rw [Nat.add_sub_cancel' hk3] at hA
  constructor
  · intro hn
    by_cases h0 : k = 0
    · subst h0
      exact .inl hn
    · exact .inr (by omega)
  · intro hn
    unfold cpV at hn ⊢
    simp only at hn ⊢
    by_cases hv : (goT t 300).1.isVal = true
    · have e1 : (goT t 300).1 = (goT (goT t k).1 (300 - k)).1 := by rw [hA]
      have hend : stepT (goT (goT t k).1 (300 - k)).1 = none := by rw [← e1]; exact val_end hv
      have h2 := goT_end hend k
      rw [show 300 - k + k = 300 by omega] at h2
      rw [h2, ← e1, if_pos hv, if_pos hv]
      refine ⟨?_, rfl⟩
      have e2 : (goT t 300).2 = (goT (goT t k).1 (300 - k)).2 + k := by rw [hA]
      omega
    · rw [if_neg hv] at hn
      omega
theorem sa_inv {t U : Tm} {k : Int} (h : saT t k = some U) : ∃ n : Nat, k = n ∧ n ≤ 300 ∧ (goT t n).2 = n ∧ U = (goT t n).1 := by
  unfold saT at h
  split at h
  · rename_i hc
    injection h with h
    exact ⟨k.toNat, by omega, by omega, hc.2.2, h.symm⟩
  · cases h
theorem closedB_some {s : Text} (h : closedB (readS s) = true) : ∃ t, closedS s = some t := by
  unfold closedS
  rcases hr : readS s with _ | t
  · rw [hr] at h; cases h
  · rw [hr] at h
    have hz : sfree t = [] := by simpa [closedB] using h
    exact ⟨t, by simp [hz]⟩
end Go.Proofs.YtefmmgccdpfnaaaGreatDoor

/- A state within another one: what is next is the same. No program in sight. -/
namespace Go.Proofs.YtefmmgccdpfnaaaGreatDoor
open Ff
set_option linter.unusedVariables false

def wrapT : Nat → Tm → Tm
  | 0, T => .op 43 T (.num 1)
  | 1, T => .bind 97 T (.var 97)
  | 2, T => .sel T (.num 1) (.num 2)
  | _, T => .app (.fn 98 (.var 98)) T
def preW : Nat → Text
  | 0 => [43]
  | 1 => [61, 97]
  | 2 => [63]
  | _ => [40, 92, 98, 98]
def sufW : Nat → Text
  | 0 => [49]
  | 1 => [97]
  | 2 => [49, 50]
  | _ => [41]
theorem wrap_text (k : Nat) (T : Tm) : textN (wrapT k T) = preW k ++ textN T ++ sufW k := by
  have h1 : textN (.num 1) = [49] := by decide
  have h2 : textN (.num 2) = [50] := by decide
  rcases k with _ | _ | _ | k <;> simp [wrapT, preW, sufW, textN, textN] <;> first | (rw [show numN 1 = [49] from h1]) | skip
  all_goals first | rfl | (simp [show numN 1 = [49] from h1, show numN 2 = [50] from h2])
theorem wrap_good (k : Nat) {T : Tm} (h : T.good) : (wrapT k T).good := by
  rcases k with _ | _ | _ | k
  · exact ⟨.inl rfl, h, by show (1 : Nat) ≤ 99; omega⟩
  · exact ⟨by decide, h, by show isNam 97 = true; decide⟩
  · exact ⟨h, by show (1 : Nat) ≤ 99; omega, by show (2 : Nat) ≤ 99; omega⟩
  · exact ⟨⟨by decide, by show isNam 98 = true; decide⟩, h⟩
theorem wrap_closed (k : Nat) {T : Tm} (h : Closed T) : Closed (wrapT k T) := by
  intro x
  have := h x
  rcases k with _ | _ | _ | k <;> simp [wrapT, cntF, this]
theorem wrap_noval (k : Nat) (T : Tm) : (wrapT k T).isVal = false := by rcases k with _ | _ | _ | k <;> rfl
theorem wrap_path (k : Nat) {T : Tm} (h : T.isVal = false) : ∃ i, redexP (wrapT k T) = i :: redexP T ∧ (wrapT k T).kids[i]? = some T ∧ ∀ X, reTm (wrapT k T) (bindsOf (wrapT k T)) ((wrapT k T).kids.set i X) = wrapT k X := by
  rcases k with _ | _ | _ | k
  · exact ⟨0, by simp [wrapT, redexP, h], rfl, fun X => rfl⟩
  · exact ⟨0, by simp [wrapT, redexP, h], rfl, fun X => rfl⟩
  · exact ⟨0, by simp [wrapT, redexP, h], rfl, fun X => rfl⟩
  · exact ⟨1, by show (if T.isVal = true then [] else 1 :: redexP T) = _; rw [h]; rfl, rfl, fun X => rfl⟩
theorem wrap_part (k : Nat) {T : Tm} (h : T.isVal = false) : partAt (wrapT k T) (redexP (wrapT k T)) = partAt T (redexP T) ∧ ∀ X, withAt (wrapT k T) (redexP (wrapT k T)) X = wrapT k (withAt T (redexP T) X) := by
  obtain ⟨i, h1, h2, h3⟩ := wrap_path k h
  rw [h1]
  exact ⟨by simp only [partAt, h2], fun X => by simp only [withAt, h2, h3]⟩
theorem wrap_step (k : Nat) {T : Tm} {r r' : Tm × Text} (h1 : stepT T = some r) (h2 : stepT (wrapT k T) = some r') : r'.1 = wrapT k r.1 := by
  have hv := step_noval h1
  obtain ⟨hp, hw⟩ := wrap_part k hv
  unfold stepT at h1 h2
  rw [if_neg (by rw [hv]; simp)] at h1
  rw [if_neg (by rw [wrap_noval]; simp), hp] at h2
  rcases hq : ruleT (partAt T (redexP T)) with _ | q
  · rw [hq] at h1; cases h1
  · rw [hq] at h1 h2
    simp only [Option.bind_some] at h1 h2
    split at h1
    · injection h1 with h1
      split at h2
      · injection h2 with h2
        rw [← h1, ← h2]
        exact hw q.1
      · cases h2
    · cases h1
/-- What a state's text within another one tells. -/
structure WrapTold (s : Text) (k : Nat) : Prop where
  redex : redexO (preW k ++ s ++ sufW k) = redexO s
  there : (redexO s).isSome = true
  step : ∀ r r', stepO s = some r → stepO (preW k ++ s ++ sufW k) = some r' → (textN r'.1).length + s.length = (textN r.1).length + (preW k ++ s ++ sufW k).length
theorem wrap_told {s : Text} (k : Nat) (hs : (redexO s).isSome = true) (ht : (stateO (preW k ++ s ++ sufW k)).isSome = true) : WrapTold s k := by
  unfold redexO at hs
  rcases h0 : stateO s with _ | T
  · rw [h0] at hs; cases hs
  · rw [h0] at hs
    simp only [Option.bind_some] at hs
    have hv : T.isVal = false := by
      cases hv : T.isVal
      · rfl
      · rw [hv] at hs; simp at hs
    obtain ⟨hf, rfl⟩ := fit_of h0
    have hlen : (preW k ++ textN T ++ sufW k).length ≤ 1500 := by
      obtain ⟨u, hu⟩ := Option.isSome_iff_exists.1 ht
      exact (state_some.1 hu).2.2.1
    have hst : stateO (preW k ++ textN T ++ sufW k) = some (wrapT k T) := state_some.2 ⟨wrap_good k hf.1, (wrap_text k T).symm, hlen, wrap_closed k hf.2.2⟩
    obtain ⟨hp, _⟩ := wrap_part k hv
    refine ⟨?_, by unfold redexO; rw [h0]; simp [hv], ?_⟩
    · unfold redexO
      rw [hst, h0]
      simp only [Option.bind_some]
      rw [wrap_noval, hv, hp]
    · intro r r' h1 h2
      unfold stepO at h1 h2
      rw [h0] at h1
      rw [hst] at h2
      have e := wrap_step k h1 h2
      rw [e, wrap_text]
      simp only [List.length_append]
      omega
end Go.Proofs.YtefmmgccdpfnaaaGreatDoor
