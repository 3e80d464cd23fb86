import Derived.Test.YtjfhncfbejephaaGreatDoorMEa
/- What a run calls is a function among the term's parts, told by its index. No program in sight. -/
namespace Go.Proofs.YtjfhncfbejephaaGreatDoor
open Ff
set_option linter.unusedVariables false

/-- The parts of t stand in T from number i on. -/
def StandsAt (T t : Tm) (i : Nat) : Prop := ∀ k, k < (parts t).length → (parts T)[i + k]? = (parts t)[k]?
theorem StandsAt.top (T : Tm) : StandsAt T T 0 := fun k _ => by rw [Nat.zero_add]
theorem parts_head (t : Tm) : (parts t)[0]? = some t := by cases t <;> simp [parts]
theorem StandsAt.here {T t : Tm} {i : Nat} (h : StandsAt T t i) : (parts T)[i]? = some t := by
  have := h 0 (parts_pos t)
  rw [parts_head] at this
  simpa using this
/-- A stretch of the parts. -/
theorem StandsAt.sub {T t u : Tm} {i : Nat} (h : StandsAt T t i) (pre post : List Tm) (hp : parts t = pre ++ parts u ++ post) : StandsAt T u (i + pre.length) := fun k hk => by
  have hl : pre.length + k < (parts t).length := by rw [hp]; simp; omega
  have := h (pre.length + k) hl
  rw [Nat.add_assoc, this, hp, List.append_assoc, List.getElem?_append_right (by omega), Nat.add_sub_cancel_left, List.getElem?_append_left hk]
theorem StandsAt.body {T g : Tm} {j : Nat} (h : StandsAt T g j) (hf : isFun g = true) : StandsAt T (bodyOf g) (j + 1) := by
  cases g with
  | fn c b => exact h.sub [.fn c b] [] (by simp [parts, bodyOf])
  | fix f c b => exact h.sub [.fix f c b] [] (by simp [parts, bodyOf])
  | _ => cases hf
mutual
inductive VlAt (T : Tm) : Vl → Prop
  | num (n : Nat) : VlAt T (.num n)
  | clo (i : Nat) (t : Tm) (e : En) (hf : isFun t = true) (hs : StandsAt T t i) (he : EnAt T e) : VlAt T (.clo i t e)
inductive EnAt (T : Tm) : En → Prop
  | nil : EnAt T .nil
  | cons (c : UInt8) (v : Vl) (e : En) (hv : VlAt T v) (he : EnAt T e) : EnAt T (.cons c v e)
end
theorem EnAt.find {T : Tm} {e : En} (h : EnAt T e) {c : UInt8} {v : Vl} (hf : e.find c = some v) : VlAt T v := by
  induction e using En.rec (motive_1 := fun _ => True) with
  | nil => simp [En.find] at hf
  | cons d u e _ ih =>
    cases h with
    | cons _ _ _ hv he =>
      by_cases hd : d = c
      · simp only [En.find, if_pos hd] at hf
        injection hf with hf
        subst hf
        exact hv
      · simp only [En.find, if_neg hd] at hf
        exact ih he hf
  | num n => trivial
  | clo i t e _ => trivial
/-- All that has been called are functions among the parts. -/
def CalledIn (T : Tm) (s : St) : Prop := ∀ j ∈ s.called, ∃ t, (parts T)[j]? = some t ∧ isFun t = true
def WellAt (T : Tm) (o : Ou) : Prop := match o with
  | .ok v s => VlAt T v ∧ CalledIn T s
  | _ => True
theorem WellAt.next {T : Tm} {o : Ou} {k : Vl → St → Ou} (h : WellAt T o) (hk : ∀ v s, VlAt T v → CalledIn T s → WellAt T (k v s)) : WellAt T (o.next k) := by
  cases o with
  | ok v s => exact hk v s h.1 h.2
  | _ => trivial
theorem ev_at (T : Tm) : ∀ (n : Nat) (t : Tm) (i : Nat) (e : En) (s : St), StandsAt T t i → EnAt T e → CalledIn T s → WellAt T (ev n t i e s) := by
  intro n
  induction n with
  | zero => intro t i e s _ _ _; trivial
  | succ n ih =>
    intro t i e s hs he hc
    unfold ev
    split
    · trivial
    · have hc : CalledIn T s.step := hc
      generalize s.step = s at hc
      cases t with
      | num k => exact ⟨.num k, hc⟩
      | var c =>
        show WellAt T (match e.find c with | some v => .ok v s | none => .fault)
        rcases hf : e.find c with _ | v
        · trivial
        · exact ⟨he.find hf, hc⟩
      | fn c b => exact ⟨.clo i _ e rfl hs he, hc⟩
      | fix f c b => exact ⟨.clo i _ e rfl hs he, hc⟩
      | app f a =>
        have h1 : StandsAt T f (i + 1) := hs.sub [.app f a] (parts a) (by simp [parts])
        have h2 : StandsAt T a (i + 1 + (parts f).length) := by
          have := hs.sub (u := a) (.app f a :: parts f) [] (by simp [parts])
          rw [List.length_cons] at this
          rwa [show i + 1 + (parts f).length = i + ((parts f).length + 1) by omega]
        refine WellAt.next (ih f _ e s h1 he hc) fun x s1 hx c1 => WellAt.next (ih a _ e s1 h2 he c1) fun y s2 hy c2 => ?_
        cases x with
        | num k => trivial
        | clo j g e' =>
          cases hx with
          | clo _ _ _ hf hg he' =>
            show WellAt T (if 50 ≤ s2.depth then .long else _)
            split
            · trivial
            · have he2 : EnAt T (bodyEn g j e' y) := by
                cases g with
                | fn c b => exact .cons _ _ _ hy he'
                | fix f c b => exact .cons _ _ _ hy (.cons _ _ _ (.clo j _ e' hf hg he') he')
                | _ => exact he'
              have hc2 : CalledIn T (s2.enter i j) := fun k hk => by
                simp only [St.enter, List.mem_append, List.mem_singleton] at hk
                rcases hk with hk | rfl
                · exact c2 k hk
                · exact ⟨g, hg.here, hf⟩
              exact WellAt.next (ih (bodyOf g) (j + 1) (bodyEn g j e' y) (s2.enter i j) (hg.body hf) he2 hc2) fun z s3 hz c3 => ⟨hz, c3⟩
      | bind c v b =>
        have h1 : StandsAt T v (i + 1) := hs.sub [.bind c v b] (parts b) (by simp [parts])
        have h2 : StandsAt T b (i + 1 + (parts v).length) := by
          have := hs.sub (u := b) (.bind c v b :: parts v) [] (by simp [parts])
          rw [List.length_cons] at this
          rwa [show i + 1 + (parts v).length = i + ((parts v).length + 1) by omega]
        exact WellAt.next (ih v _ e s h1 he hc) fun x s1 hx c1 => ih b _ _ s1 h2 (.cons _ _ _ hx he) c1
      | op o l r =>
        have h1 : StandsAt T l (i + 1) := hs.sub [.op o l r] (parts r) (by simp [parts])
        have h2 : StandsAt T r (i + 1 + (parts l).length) := by
          have := hs.sub (u := r) (.op o l r :: parts l) [] (by simp [parts])
          rw [List.length_cons] at this
          rwa [show i + 1 + (parts l).length = i + ((parts l).length + 1) by omega]
        refine WellAt.next (ih l _ e s h1 he hc) fun x s1 hx c1 => WellAt.next (ih r _ e s1 h2 he c1) fun y s2 hy c2 => ?_
        cases x with
        | num a =>
          cases y with
          | num b => exact ⟨.num _, c2⟩
          | clo _ _ _ => trivial
        | clo _ _ _ => trivial
      | sel a b c =>
        have h1 : StandsAt T a (i + 1) := hs.sub [.sel a b c] (parts b ++ parts c) (by simp [parts])
        have h2 : StandsAt T b (i + 1 + (parts a).length) := by
          have := hs.sub (u := b) (.sel a b c :: parts a) (parts c) (by simp [parts])
          rw [List.length_cons] at this
          rwa [show i + 1 + (parts a).length = i + ((parts a).length + 1) by omega]
        have h3 : StandsAt T c (i + 1 + (parts a).length + (parts b).length) := by
          have := hs.sub (u := c) (.sel a b c :: (parts a ++ parts b)) [] (by simp [parts])
          rw [List.length_cons, List.length_append] at this
          rwa [show i + 1 + (parts a).length + (parts b).length = i + ((parts a).length + (parts b).length + 1) by omega]
        refine WellAt.next (ih a _ e s h1 he hc) fun x s1 hx c1 => ?_
        cases x with
        | num k =>
          show WellAt T (if k = 0 then _ else _)
          split
          · exact ih b _ e s1 h2 he c1
          · exact ih c _ e s1 h3 he c1
        | clo _ _ _ => trivial
/-- What a run has called: functions among the parts. -/
theorem called_in {T : Tm} {n : Nat} {s s2 : St} {v : Vl} (h : ev n T 0 .nil s = .ok v s2) (h0 : s.called = []) : CalledIn T s2 := by
  have := ev_at T n T 0 .nil s (.top T) .nil (fun j hj => by rw [h0] at hj; cases hj)
  rw [h] at this
  exact this.2
end Go.Proofs.YtjfhncfbejephaaGreatDoor
