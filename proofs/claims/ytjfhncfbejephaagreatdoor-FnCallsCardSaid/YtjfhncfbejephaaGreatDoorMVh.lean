import Derived.Test.YtjfhncfbejephaaGreatDoorMEa
import Derived.Test.YtjfhncfbejephaaGreatDoorMSn
import Derived.Test.YtjfhncfbejephaaGreatDoorMEq
/- Two runs of one term that differ in how much has been done ahead of them come to the same, if neither is too long. No program in sight. -/
namespace Go.Proofs.YtjfhncfbejephaaGreatDoor
open Ff
set_option linter.unusedVariables false

/-- The same value but for the functions' indices, and for names that no one reads. -/
inductive VSim : Vl → Vl → Prop
  | num (n : Nat) : VSim (.num n) (.num n)
  | clo (i j : Nat) (t : Tm) (e e' : En) (f f' : UInt8 → Vl) (hg : t.good) (h1 : ∀ c ∈ sfree t, e.find c = some (f c)) (h2 : ∀ c ∈ sfree t, e'.find c = some (f' c)) (h : ∀ c ∈ sfree t, VSim (f c) (f' c)) : VSim (.clo i t e) (.clo j t e')
def ESim (N : Text) (e e' : En) : Prop := ∀ c ∈ N, ∃ v v', e.find c = some v ∧ e'.find c = some v' ∧ VSim v v'
theorem ESim.clo {t : Tm} {e e' : En} (hg : t.good) (h : ESim (sfree t) e e') (i j : Nat) : VSim (.clo i t e) (.clo j t e') :=
  .clo i j t e e' (fun c => (e.find c).getD (.num 0)) (fun c => (e'.find c).getD (.num 0)) hg
    (fun c hc => by obtain ⟨v, v', h1, h2, _⟩ := h c hc; simp [h1])
    (fun c hc => by obtain ⟨v, v', h1, h2, _⟩ := h c hc; simp [h2])
    (fun c hc => by obtain ⟨v, v', h1, h2, h3⟩ := h c hc; simpa [h1, h2] using h3)
theorem VSim.env {i j : Nat} {t t' : Tm} {e e' : En} (h : VSim (.clo i t e) (.clo j t' e')) : t' = t ∧ t.good ∧ ESim (sfree t) e e' := by
  cases h with
  | clo _ _ _ _ _ f f' hg h1 h2 h => exact ⟨rfl, hg, fun c hc => ⟨_, _, h1 c hc, h2 c hc, h c hc⟩⟩
theorem ESim.sub {N N' : Text} {e e' : En} (h : ESim N e e') (hN : ∀ x ∈ N', x ∈ N) : ESim N' e e' := fun c hc => h c (hN c hc)
theorem ESim.cons {N N' : Text} {e e' : En} {c : UInt8} {v v' : Vl} (h : ESim N e e') (hv : VSim v v') (hN : ∀ x ∈ N', x ≠ c → x ∈ N) : ESim N' (.cons c v e) (.cons c v' e') := fun x hx => by
  by_cases hc : c = x
  · exact ⟨v, v', by simp [En.find, hc], by simp [En.find, hc], hv⟩
  · obtain ⟨u, u', h1, h2, h3⟩ := h x (hN x hx (fun e => hc e.symm))
    exact ⟨u, u', by simp [En.find, hc, h1], by simp [En.find, hc, h2], h3⟩
theorem ESim.nil (e e' : En) : ESim [] e e' := fun c hc => by simp at hc
/-- What two runs have made more is as much. -/
structure SSim (s s' z z' : St) : Prop where
  steps : z.steps + s'.steps = z'.steps + s.steps
  up : s.steps ≤ z.steps
  depth : z.depth = s.depth
  depth' : z'.depth = s'.depth
theorem SSim.refl (s s' : St) : SSim s s' s s' := ⟨by omega, Nat.le_refl _, rfl, rfl⟩
theorem SSim.trans {s s' z z' y y' : St} (h : SSim s s' z z') (k : SSim z z' y y') : SSim s s' y y' :=
  ⟨by have := h.1; have := k.1; omega, Nat.le_trans h.2 k.2, k.3.trans h.3, k.4.trans h.4⟩
def OSim (s s' : St) (o o' : Ou) : Prop := match o, o' with
  | .ok v z, .ok v' z' => VSim v v' ∧ SSim s s' z z'
  | .ok _ _, .fault => False
  | .fault, .ok _ _ => False
  | _, _ => True
/-- Two runs: they come to the same if neither is too long; and where more has been done before, what is too long stays so. -/
structure Sim (n : Nat) (s s' : St) (o o' : Ou) : Prop where
  both : OSim s s' o o'
  mono : 1501 ≤ s.steps + n → s.steps ≤ s'.steps → s.depth ≤ s'.depth → o = .long → o' = .long
theorem OSim.long_right (s s' : St) (o : Ou) : OSim s s' o .long := by cases o <;> trivial
theorem Sim.long_right {n : Nat} {s s' : St} {o : Ou} : Sim n s s' o .long := ⟨OSim.long_right _ _ _, fun _ _ _ _ => rfl⟩
theorem Sim.faults {n : Nat} {s s' : St} : Sim n s s' .fault .fault := ⟨trivial, fun _ _ _ h => by cases h⟩
theorem Sim.oks {n : Nat} {s s' z z' : St} {v v' : Vl} (hv : VSim v v') (hs : SSim s s' z z') : Sim n s s' (.ok v z) (.ok v' z') := ⟨⟨hv, hs⟩, fun _ _ _ h => by cases h⟩
theorem Sim.next {n : Nat} {s s' : St} {o o' : Ou} {k k' : Vl → St → Ou} (h : Sim n s s' o o') (hk : ∀ v v' z z', VSim v v' → SSim s s' z z' → Sim n z z' (k v z) (k' v' z')) : Sim n s s' (o.next k) (o'.next k') := by
  obtain ⟨hb, hm⟩ := h
  cases o with
  | ok v z =>
    cases o' with
    | ok v' z' =>
      obtain ⟨hv, hs⟩ := hb
      obtain ⟨kb, km⟩ := hk v v' z z' hv hs
      show Sim n s s' (k v z) (k' v' z')
      obtain ⟨a1, a2, a3, a4⟩ := hs
      refine ⟨?_, fun b1 b2 b3 b4 => km (by omega) (by omega) (by omega) b4⟩
      generalize k v z = r at kb
      generalize k' v' z' = r' at kb
      cases r <;> cases r' <;> first | exact kb | exact ⟨kb.1, SSim.trans ⟨a1, a2, a3, a4⟩ kb.2⟩
    | fault => exact hb.elim
    | long => exact .long_right
  | fault =>
    cases o' with
    | ok v' z' => exact hb.elim
    | fault => exact .faults
    | long => exact .long_right
  | long => exact ⟨by show OSim s s' .long _; cases o'.next k' <;> trivial, fun b1 b2 b3 _ => by rw [hm b1 b2 b3 rfl]; rfl⟩
theorem Sim.leave {n p p' j j' : Nat} {s s' : St} {o o' : Ou} (h : Sim n (s.enter p j) (s'.enter p' j') o o') : Sim n s s' (o.next fun z s => .ok z s.leave) (o'.next fun z s => .ok z s.leave) := by
  obtain ⟨hb, hm⟩ := h
  cases o with
  | ok v z =>
    cases o' with
    | ok v' z' =>
      obtain ⟨hv, a1, a2, a3, a4⟩ := hb
      simp only [St.enter] at a1 a2 a3 a4
      exact .oks hv ⟨by simp only [St.leave]; omega, by simp only [St.leave]; omega, by simp only [St.leave]; omega, by simp only [St.leave]; omega⟩
    | fault => exact hb.elim
    | long => exact .long_right
  | fault =>
    cases o' with
    | ok v' z' => exact hb.elim
    | fault => exact .faults
    | long => exact .long_right
  | long => exact ⟨by show OSim s s' .long _; cases o'.next _ <;> trivial, fun b1 b2 b3 _ => by rw [hm (by simp only [St.enter]; omega) (by simp only [St.enter]; omega) (by simp only [St.enter]; omega) rfl]; rfl⟩
theorem body_good {g : Tm} (h : g.good) (hf : isFun g = true) : (bodyOf g).good := by
  cases g with
  | fn c b => exact h.2
  | fix f c b => exact h.2.2.2
  | _ => cases hf
def SimAt (n : Nat) : Prop := ∀ n' (t : Tm) i i' e e' s s', t.good → ESim (sfree t) e e' → Sim n s s' (ev n t i e s) (ev n' t i' e' s')
theorem sim_call {n : Nat} (ih : SimAt n) (n' p p' : Nat) {x x' y y' : Vl} (s s' : St) (hx : VSim x x') (hy : VSim y y') : Sim n s s' (callV (ev n) p x y s) (callV (ev n') p' x' y' s') := by
  cases x with
  | num a => cases hx; exact .faults
  | clo j g e =>
    cases x' with
    | num a => cases hx
    | clo j' g' e' =>
      obtain ⟨rfl, hg, he⟩ := hx.env
      show Sim n s s' (if 50 ≤ s.depth then .long else _) (if 50 ≤ s'.depth then .long else _)
      by_cases h' : 50 ≤ s'.depth
      · rw [if_pos h']; exact .long_right
      · rw [if_neg h']
        by_cases h : 50 ≤ s.depth
        · rw [if_pos h]
          exact ⟨by cases (ev n' _ _ _ _).next _ <;> trivial, fun _ _ b3 _ => by omega⟩
        · rw [if_neg h]
          refine Sim.leave (p := p) (p' := p') (j := j) (j' := j') ?_
          cases g' with
          | fn c b => exact ih n' b _ _ _ _ _ _ hg.2 (he.cons hy fun x hx hc => (mem_less _ _ _).2 ⟨hx, by simpa using hc⟩)
          | fix f c b =>
            refine ih n' b _ _ _ _ _ _ hg.2.2.2 ?_
            refine ESim.cons (N := lessN (sfree b) [c]) (ESim.cons he (he.clo hg j j') fun x hx hc => ?_) hy fun x hx hc => (mem_less _ _ _).2 ⟨hx, by simpa using hc⟩
            obtain ⟨h1, h2⟩ := (mem_less _ _ _).1 hx
            exact (mem_less _ _ _).2 ⟨h1, by simp only [List.mem_cons, List.not_mem_nil, or_false, not_or] at h2 ⊢; exact ⟨hc, h2⟩⟩
          | num k => exact ih n' _ _ _ _ _ _ _ hg he
          | var c => exact ih n' _ _ _ _ _ _ _ hg he
          | app f a => exact ih n' _ _ _ _ _ _ _ hg he
          | bind c v b => exact ih n' _ _ _ _ _ _ _ hg he
          | op o l r => exact ih n' _ _ _ _ _ _ _ hg he
          | sel a b c => exact ih n' _ _ _ _ _ _ _ hg he
theorem Sim.step {n : Nat} {s s' : St} {o o' : Ou} (h : Sim n s.step s'.step o o') : Sim (n + 1) s s' o o' := by
  obtain ⟨hb, hm⟩ := h
  refine ⟨?_, fun b1 b2 b3 b4 => hm (by simp only [St.step]; omega) (by simp only [St.step]; omega) b3 b4⟩
  cases o <;> cases o' <;> first | exact hb | skip
  obtain ⟨hv, a1, a2, a3, a4⟩ := hb
  simp only [St.step] at a1 a2 a3 a4
  exact ⟨hv, by omega, by omega, a3, a4⟩
theorem sim : ∀ n, SimAt n := by
  intro n
  induction n with
  | zero =>
    intro n' t i i' e e' s s' hg he
    refine ⟨by show OSim s s' .long _; cases ev n' t i' e' s' <;> trivial, fun b1 b2 b3 _ => ?_⟩
    cases n' with
    | zero => rfl
    | succ n' => unfold ev; rw [if_pos (by omega)]
  | succ n ih =>
    intro n' t i i' e e' s s' hg he
    cases n' with
    | zero => exact .long_right
    | succ n' =>
      unfold ev
      by_cases h' : 1500 ≤ s'.steps
      · rw [if_pos h']; exact .long_right
      · rw [if_neg h']
        by_cases h : 1500 ≤ s.steps
        · rw [if_pos h]
          exact ⟨by cases evB (ev n') t i' e' s'.step <;> trivial, fun _ b2 _ _ => by omega⟩
        · rw [if_neg h]
          refine Sim.step ?_
          generalize s.step = s
          generalize s'.step = s'
          cases t with
          | num k => exact .oks (.num k) (.refl _ _)
          | var c =>
            obtain ⟨v, v', h1, h2, h3⟩ := he c (by simp [sfree])
            show Sim n s s' (match e.find c with | some v => .ok v s | none => .fault) (match e'.find c with | some v => .ok v s' | none => .fault)
            rw [h1, h2]
            exact .oks h3 (.refl _ _)
          | fn c b => exact .oks (he.clo hg _ _) ⟨by simp only [St.made]; omega, Nat.le_refl _, rfl, rfl⟩
          | fix f c b => exact .oks (he.clo hg _ _) ⟨by simp only [St.made]; omega, Nat.le_refl _, rfl, rfl⟩
          | app f a =>
            have hm : ∀ x, x ∈ sfree f ∨ x ∈ sfree a → x ∈ sfree (.app f a) := fun x hx => (mem_sort _ _).2 ⟨hx.elim (free_letters hg.1) (free_letters hg.2), List.mem_append.2 hx⟩
            refine Sim.next (ih n' f _ _ e e' s s' hg.1 (he.sub fun x hx => hm x (.inl hx))) fun x x' z z' hx hz => ?_
            refine Sim.next (ih n' a _ _ e e' z z' hg.2 (he.sub fun x hx => hm x (.inr hx))) fun y y' q q' hy hq => ?_
            exact sim_call ih n' _ _ q q' hx hy
          | bind c v b =>
            have hm : ∀ x, x ∈ sfree v ∨ x ∈ lessN (sfree b) [c] → x ∈ sfree (.bind c v b) := fun x hx => (mem_sort _ _).2 ⟨hx.elim (free_letters hg.2.1) (fun h => free_letters hg.2.2 ((mem_less _ _ _).1 h).1), List.mem_append.2 hx⟩
            refine Sim.next (ih n' v _ _ e e' s s' hg.2.1 (he.sub fun x hx => hm x (.inl hx))) fun x x' z z' hx hz => ?_
            exact ih n' b _ _ _ _ z z' hg.2.2 (he.cons hx fun y hy hc => hm y (.inr ((mem_less _ _ _).2 ⟨hy, by simpa using hc⟩)))
          | op o l r =>
            have hm : ∀ x, x ∈ sfree l ∨ x ∈ sfree r → x ∈ sfree (.op o l r) := fun x hx => (mem_sort _ _).2 ⟨hx.elim (free_letters hg.2.1) (free_letters hg.2.2), List.mem_append.2 hx⟩
            refine Sim.next (ih n' l _ _ e e' s s' hg.2.1 (he.sub fun x hx => hm x (.inl hx))) fun x x' z z' hx hz => ?_
            refine Sim.next (ih n' r _ _ e e' z z' hg.2.2 (he.sub fun x hx => hm x (.inr hx))) fun y y' q q' hy hq => ?_
            cases hx with
            | num a =>
              cases hy with
              | num b => exact .oks (.num _) (.refl _ _)
              | clo => exact .faults
            | clo => exact .faults
          | sel a b c =>
            have hm : ∀ x, x ∈ sfree a ∨ x ∈ sfree b ∨ x ∈ sfree c → x ∈ sfree (.sel a b c) := fun x hx => (mem_sort _ _).2 ⟨hx.elim (free_letters hg.1) (fun h => h.elim (free_letters hg.2.1) (free_letters hg.2.2)), by simp only [List.mem_append]; exact hx⟩
            refine Sim.next (ih n' a _ _ e e' s s' hg.1 (he.sub fun x hx => hm x (.inl hx))) fun x x' z z' hx hz => ?_
            cases hx with
            | num k =>
              show Sim n z z' (if k = 0 then _ else _) (if k = 0 then _ else _)
              by_cases hk : k = 0
              · rw [if_pos hk, if_pos hk]; exact ih n' b _ _ e e' z z' hg.2.1 (he.sub fun x hx => hm x (.inr (.inl hx)))
              · rw [if_neg hk, if_neg hk]; exact ih n' c _ _ e e' z z' hg.2.2 (he.sub fun x hx => hm x (.inr (.inr hx)))
            | clo => exact .faults
end Go.Proofs.YtjfhncfbejephaaGreatDoor

/- FnExactRunTerm, FnExactCountTerm. -/
namespace Go.Proofs.YtjfhncfbejephaaGreatDoor
open Go.RowKit Go.Shelf
open Ff
set_option linter.unusedVariables false
attribute [local irreducible] Calls

theorem resP_form (o : Option Ou) : ∃ a0 a1 a2 b, resP o = .tuple #[rV a0 a1 a2, .bool b] := by
  rcases o with _ | o
  · exact ⟨_, _, _, _, rfl⟩
  · obtain ⟨a0, a1, a2, h⟩ := resO_form o
    exact ⟨a0, a1, a2, true, by show Value.tuple #[resO o, .bool true] = _; rw [h]⟩
theorem cntP_form (o : Option St) : ∃ a b c d e f, cntP o = .tuple #[.agg #[.int .i64 a, .int .i64 b, .int .i64 c, .int .i64 d, .int .i64 e], .bool f] := by
  rcases o with _ | s
  · exact ⟨_, _, _, _, _, _, rfl⟩
  · exact ⟨_, _, _, _, _, _, rfl⟩
end Go.Proofs.YtjfhncfbejephaaGreatDoor
