import Derived.Test.YtcabmcpalgpfpaaPtC
/- A name put for itself; closed terms put one after the other. No program in sight. -/
namespace Go.Proofs.Ytcabmcpalgpfpaa
open Ff
set_option linter.unusedVariables false

theorem stepsS_noop (sub : UInt8 → Tm → Tm → Tm × Bool) (fr : Text) (x : UInt8) (ns : Text) (b : Tm) (h : ∀ c ∈ ns, c ∉ fr) : ∀ k, stepsS sub fr x ns b k = ⟨ns, b, true, false⟩
  | 0 => rfl
  | k + 1 => by
    rw [stepsS, stepsS_noop sub fr x ns b h k]
    unfold stepS
    simp only [Bool.false_eq_true, if_false]
    split
    · rfl
    · rename_i c hc
      rw [if_neg (h c (List.mem_of_getElem? hc))]
theorem undS_self (n : Nat) (x : UInt8) (ih : ∀ t, (subS n x (.var x) t) = (t, true)) (ns : Text) (b : Tm) : undS (subS n) ns b x (.var x) = (ns, b, true) := by
  unfold undS
  by_cases h : x ∈ ns ∨ cntF b x = 0
  · rw [if_pos h]
  · rw [if_neg h, stepsS_noop _ _ _ _ _ (fun c hc hf => by
      have : c = x := by simpa [sfree] using hf
      subst this
      exact h (.inl hc))]
    simp [ih]
theorem subS_self : ∀ (n : Nat) (x : UInt8) (t : Tm), subS n x (.var x) t = (t, true)
  | 0, _, _ => rfl
  | n + 1, x, t => by
    have ih := subS_self n x
    cases t with
    | num k => rfl
    | var c =>
      by_cases h : c = x
      · subst h; simp [subS]
      · simp [subS, h]
    | fn c b => simp [subS, undS_self n _ ih]
    | fix f c b => simp [subS, undS_self n _ ih]
    | app f a => simp [subS, ih]
    | bind c v b => simp [subS, undS_self n _ ih, ih]
    | op o l r => simp [subS, ih]
    | sel a b c => simp [subS, ih]
/-- Putting a closed term, plainly. -/
def psub (x : UInt8) (u : Tm) : Tm → Tm
  | .num k => .num k
  | .var c => if c = x then u else .var c
  | .fn c b => if x ∈ [c] then .fn c b else .fn c (psub x u b)
  | .fix f c b => if x ∈ [f, c] then .fix f c b else .fix f c (psub x u b)
  | .app f a => .app (psub x u f) (psub x u a)
  | .bind c v b => if x ∈ [c] then .bind c (psub x u v) b else .bind c (psub x u v) (psub x u b)
  | .op o l r => .op o (psub x u l) (psub x u r)
  | .sel a b c => .sel (psub x u a) (psub x u b) (psub x u c)
theorem psub_none (x : UInt8) (u : Tm) : ∀ (t : Tm), cntF t x = 0 → psub x u t = t
  | .num _, _ => rfl
  | .var c, h => by
    have : c ≠ x := fun e => by subst e; simp [cntF] at h
    simp [psub, this]
  | .fn c b, h => by
    simp only [cntF] at h
    simp only [psub]
    split
    · rfl
    · rename_i hc; rw [if_neg hc] at h; rw [psub_none x u b h]
  | .fix f c b, h => by
    simp only [cntF] at h
    simp only [psub]
    split
    · rfl
    · rename_i hc; rw [if_neg hc] at h; rw [psub_none x u b h]
  | .app f a, h => by
    simp only [cntF] at h
    simp only [psub, psub_none x u f (by omega), psub_none x u a (by omega)]
  | .bind c v b, h => by
    simp only [cntF] at h
    simp only [psub, psub_none x u v (by omega)]
    split
    · rfl
    · rename_i hc; rw [if_neg hc] at h; rw [psub_none x u b (by omega)]
  | .op o f a, h => by
    simp only [cntF] at h
    simp only [psub, psub_none x u f (by omega), psub_none x u a (by omega)]
  | .sel a b c, h => by
    simp only [cntF] at h
    simp only [psub, psub_none x u a (by omega), psub_none x u b (by omega), psub_none x u c (by omega)]
theorem undS_psub {n : Nat} {x : UInt8} {u : Tm} (hz : sfree u = []) (ns : Text) (b : Tm) (ih : subS n x u b = (psub x u b, true)) : undS (subS n) ns b x u = (ns, if x ∈ ns then b else psub x u b, true) := by
  rw [undS_closed _ _ _ _ _ hz, ih]
  by_cases h1 : x ∈ ns
  · rw [if_pos (.inl h1), if_pos h1]
  · by_cases h2 : cntF b x = 0
    · rw [if_pos (.inr h2), if_neg h1, psub_none _ _ b h2]
    · rw [if_neg (fun h => h.elim h1 h2), if_neg h1]
theorem subS_psub {x : UInt8} {u : Tm} (hz : sfree u = []) : ∀ (n : Nat) (t : Tm), t.depth ≤ n → subS n x u t = (psub x u t, true)
  | 0, t, h => absurd h (by have := t.depth_pos; omega)
  | n + 1, t, h => by
    have ih := subS_psub (x := x) hz n
    cases t with
    | num k => rfl
    | var c => rfl
    | fn c b =>
      simp only [Tm.depth] at h
      simp only [subS, undS_psub hz _ b (ih b (by omega)), psub, List.headD_cons]
      split <;> rfl
    | fix f c b =>
      simp only [Tm.depth] at h
      simp only [subS, undS_psub hz _ b (ih b (by omega)), psub, List.headD_cons, List.drop_succ_cons, List.drop_zero]
      split <;> rfl
    | app f a =>
      simp only [Tm.depth] at h
      simp [subS, psub, ih f (by omega), ih a (by omega)]
    | bind c v b =>
      simp only [Tm.depth] at h
      simp only [subS, undS_psub hz _ b (ih b (by omega)), ih v (by omega), psub, List.headD_cons]
      split <;> rfl
    | op o f a =>
      simp only [Tm.depth] at h
      simp [subS, psub, ih f (by omega), ih a (by omega)]
    | sel a b c =>
      simp only [Tm.depth] at h
      simp [subS, psub, ih a (by omega), ih b (by omega), ih c (by omega)]
/-- Closed terms can be put in any order. -/
theorem psub_comm {x y : UInt8} {u v : Tm} (hu : ∀ z, cntF u z = 0) (hv : ∀ z, cntF v z = 0) (hxy : x ≠ y) : ∀ t : Tm, psub x u (psub y v t) = psub y v (psub x u t)
  | .num _ => rfl
  | .var c => by
    by_cases h1 : c = x
    · subst h1
      have h2 : ¬ c = y := hxy
      simp [psub, h2, psub_none _ _ u (hu y)]
    · by_cases h2 : c = y
      · subst h2
        simp [psub, h1, psub_none _ _ v (hv x)]
      · simp [psub, h1, h2]
  | .fn c b => by
    have ih := psub_comm hu hv hxy b
    by_cases h1 : x ∈ [c] <;> by_cases h2 : y ∈ [c] <;> simp only [psub, h1, h2, if_true, if_false, ih]
  | .fix f c b => by
    have ih := psub_comm hu hv hxy b
    by_cases h1 : x ∈ [f, c] <;> by_cases h2 : y ∈ [f, c] <;> simp only [psub, h1, h2, if_true, if_false, ih]
  | .app f a => by simp only [psub, psub_comm hu hv hxy f, psub_comm hu hv hxy a]
  | .bind c w b => by
    have ih := psub_comm hu hv hxy b
    have ih2 := psub_comm hu hv hxy w
    by_cases h1 : x ∈ [c] <;> by_cases h2 : y ∈ [c] <;> simp only [psub, h1, h2, if_true, if_false, ih, ih2]
  | .op o f a => by simp only [psub, psub_comm hu hv hxy f, psub_comm hu hv hxy a]
  | .sel a b c => by simp only [psub, psub_comm hu hv hxy a, psub_comm hu hv hxy b, psub_comm hu hv hxy c]
end Go.Proofs.Ytcabmcpalgpfpaa
