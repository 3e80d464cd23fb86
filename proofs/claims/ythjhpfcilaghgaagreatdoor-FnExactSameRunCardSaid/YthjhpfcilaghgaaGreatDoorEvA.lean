import Derived.Test.YthjhpfcilaghgaaGreatDoorMCt
import Derived.Test.YthjhpfcilaghgaaGreatDoorCal
import Derived.Test.YthjhpfcilaghgaaGreatDoorMYi
/- What a run comes to, as plain functions. No program in sight. -/
namespace Go.Proofs.YthjhpfcilaghgaaGreatDoor
open Ff
set_option linter.unusedVariables false

mutual
/-- A value: a number, or a function (with its index among all parts) together with what its free names are. -/
inductive Vl where
  | num (n : Nat)
  | clo (i : Nat) (t : Tm) (e : En)
/-- What names are; what is bound last stands first. -/
inductive En where
  | nil
  | cons (c : UInt8) (v : Vl) (e : En)
end
def En.find : En → UInt8 → Option Vl
  | .nil, _ => none
  | .cons c v e, x => if c = x then some v else e.find x
def En.names : En → Text
  | .nil => []
  | .cons c _ e => c :: e.names
/-- What a run has done. -/
structure St where
  steps : Nat
  calls : Nat
  clos : Nat
  capt : Nat
  deepest : Nat
  depth : Nat
  called : List Nat
  froms : List Nat
  encl : List Nat
def St.step (s : St) : St := { s with steps := s.steps + 1 }
def St.made (s : St) (i n : Nat) : St := { s with clos := s.clos + 1, capt := s.capt + n, encl := s.encl ++ [i] }
def St.enter (s : St) (p i : Nat) : St := { s with calls := s.calls + 1, depth := s.depth + 1, deepest := max s.deepest (s.depth + 1), called := s.called ++ [i], froms := s.froms ++ [p] }
def St.leave (s : St) : St := { s with depth := s.depth - 1 }
/-- What is evaluated comes to. -/
inductive Ou where
  | ok (v : Vl) (s : St)
  | fault
  | long
def Ou.next (o : Ou) (k : Vl → St → Ou) : Ou := match o with | .ok v s => k v s | .fault => .fault | .long => .long
/-- What a function is called with: its body, and what names are there. -/
def bodyOf : Tm → Tm
  | .fn _ b => b
  | .fix _ _ b => b
  | t => t
def bodyEn (g : Tm) (j : Nat) (e : En) (y : Vl) : En := match g with
  | .fn c _ => .cons c y e
  | .fix f c _ => .cons c y (.cons f (.clo j g e) e)
  | _ => e
/-- A call, from a part; what evaluates is handed in. -/
def callV (E : Tm → Nat → En → St → Ou) (p : Nat) (x y : Vl) (s : St) : Ou := match x with
  | .num _ => .fault
  | .clo j g e => if 50 ≤ s.depth then .long else (E (bodyOf g) (j + 1) (bodyEn g j e y) (s.enter p j)).next fun z s => .ok z s.leave
def opV (o : UInt8) (x y : Vl) (s : St) : Ou := match x, y with
  | .num a, .num b => .ok (.num (calN o a b)) s
  | _, _ => .fault
def evB (E : Tm → Nat → En → St → Ou) (t : Tm) (i : Nat) (e : En) (s : St) : Ou := match t with
  | .num k => .ok (.num k) s
  | .var c => match e.find c with | some v => .ok v s | none => .fault
  | .fn c b => .ok (.clo i (.fn c b) e) (s.made i (sfree (.fn c b)).length)
  | .fix f c b => .ok (.clo i (.fix f c b) e) (s.made i (sfree (.fix f c b)).length)
  | .app f a => (E f (i + 1) e s).next fun x s => (E a (i + 1 + (parts f).length) e s).next fun y s => callV E i x y s
  | .bind c v b => (E v (i + 1) e s).next fun x s => E b (i + 1 + (parts v).length) (.cons c x e) s
  | .op o l r => (E l (i + 1) e s).next fun x s => (E r (i + 1 + (parts l).length) e s).next fun y s => opV o x y s
  | .sel a b c => (E a (i + 1) e s).next fun x s => match x with
    | .num n => if n = 0 then E b (i + 1 + (parts a).length) e s else E c (i + 1 + (parts a).length + (parts b).length) e s
    | .clo _ _ _ => .fault
/-- How many steps may still be made is no more than n. -/
def ev : Nat → Tm → Nat → En → St → Ou
  | 0, _, _, _, _ => .long
  | n + 1, t, i, e, s => if 1500 ≤ s.steps then .long else evB (ev n) t i e s.step

mutual
inductive VlOk : Vl → Prop
  | num (n : Nat) (h : n ≤ 99) : VlOk (.num n)
  | clo (i : Nat) (t : Tm) (e : En) (hf : isFun t = true) (hg : t.good) (hi : i + (parts t).length ≤ 200) (hl : e.names.length + 2 * t.depth ≤ 100) (hx : ∀ c ∈ sfree t, c ∈ e.names) (he : EnOk e) : VlOk (.clo i t e)
inductive EnOk : En → Prop
  | nil : EnOk .nil
  | cons (c : UInt8) (v : Vl) (e : En) (hv : VlOk v) (he : EnOk e) : EnOk (.cons c v e)
end
structure TmOk (t : Tm) (i : Nat) (e : En) : Prop where
  good : t.good
  place : i + (parts t).length ≤ 200
  room : e.names.length + 2 * t.depth ≤ 100
  free : ∀ c ∈ sfree t, c ∈ e.names
  env : EnOk e
theorem find_ok {e : En} (h : EnOk e) {c : UInt8} (hc : c ∈ e.names) : ∃ v, e.find c = some v ∧ VlOk v := by
  induction e using En.rec (motive_1 := fun _ => True) with
  | nil => simp [En.names] at hc
  | cons d v e _ ih =>
    cases h with
    | cons _ _ _ hv he =>
      by_cases hd : d = c
      · exact ⟨v, by simp [En.find, hd], hv⟩
      · obtain ⟨u, h1, h2⟩ := ih he (by simp only [En.names, List.mem_cons] at hc; rcases hc with h | h; exact absurd h.symm hd; exact h)
        exact ⟨u, by simp [En.find, hd, h1], h2⟩
  | num n => trivial
  | clo i t e _ => trivial
/-- How the counts go. -/
structure Goes (s s' : St) : Prop where
  steps : s.steps ≤ s'.steps
  top : s.steps ≤ 1500 → s'.steps ≤ 1500
  calls : s.calls ≤ s'.calls ∧ s'.calls + s.steps ≤ s.calls + s'.steps
  clos : s'.clos + s.steps ≤ s.clos + s'.steps
  capt : s'.capt + 16 * s.steps ≤ s.capt + 16 * s'.steps
  depth : s'.depth = s.depth
  deepest : s.deepest ≤ 50 → s'.deepest ≤ 50
  called : s'.called.length + s.calls = s.called.length + s'.calls
  froms : s'.froms.length + s.calls = s.froms.length + s'.calls
  encl : s'.encl.length + s.clos = s.encl.length + s'.clos
theorem Goes.refl (s : St) : Goes s s := ⟨Nat.le_refl _, id, ⟨Nat.le_refl _, Nat.le_refl _⟩, Nat.le_refl _, Nat.le_refl _, rfl, id, rfl, rfl, rfl⟩
theorem Goes.trans {a b c : St} (h : Goes a b) (k : Goes b c) : Goes a c := by
  obtain ⟨h1, h2, h3, h4, h5, h6, h7, h8, h9, h0⟩ := h
  obtain ⟨k1, k2, k3, k4, k5, k6, k7, k8, k9, k0⟩ := k
  exact ⟨by omega, fun h => k2 (h2 h), by omega, by omega, by omega, by omega, fun h => k7 (h7 h), by omega, by omega, by omega⟩
theorem Goes.step {s s' : St} (hs : s.steps < 1500) (h : Goes s.step s') : Goes s s' := by
  obtain ⟨h1, h2, h3, h4, h5, h6, h7, h8, h9, h0⟩ := h
  simp only [St.step] at h1 h2 h3 h4 h5 h6 h7 h8 h9 h0
  exact ⟨by omega, fun _ => h2 (by omega), by omega, by omega, by omega, h6, h7, h8, h9, h0⟩
/-- What is evaluated is well, and so are the counts. -/
def Well (s : St) (o : Ou) : Prop := match o with
  | .ok v s' => VlOk v ∧ Goes s s'
  | _ => True
/-- .. behind a first step. -/
def Well1 (s : St) (o : Ou) : Prop := match o with
  | .ok v s' => VlOk v ∧ s.steps ≤ s'.steps ∧ (s.steps ≤ 1500 → s'.steps ≤ 1500) ∧ s.calls ≤ s'.calls ∧ s'.calls + s.steps ≤ s.calls + s'.steps + 1 ∧ s'.clos + s.steps ≤ s.clos + s'.steps + 1 ∧ s'.capt + 16 * s.steps ≤ s.capt + 16 * s'.steps + 16 ∧ s'.depth = s.depth ∧ (s.deepest ≤ 50 → s'.deepest ≤ 50) ∧ s'.called.length + s.calls = s.called.length + s'.calls ∧ s'.froms.length + s.calls = s.froms.length + s'.calls ∧ s'.encl.length + s.clos = s.encl.length + s'.clos
  | _ => True
theorem well1 {s : St} {o : Ou} (h : Well s o) : Well1 s o := by
  cases o with
  | ok v s' => obtain ⟨hv, h1, h2, h3, h4, h5, h6, h7, h8, h9, h0⟩ := h; exact ⟨hv, h1, h2, h3.1, by omega, by omega, by omega, h6, h7, h8, h9, h0⟩
  | _ => trivial
theorem well_step {s : St} {o : Ou} (hs : s.steps < 1500) (h : Well1 s.step o) : Well s o := by
  cases o with
  | ok v s' =>
    obtain ⟨hv, h1, h2, h3, h4, h5, h6, h7, h8, h9, ha, hb⟩ := h
    simp only [St.step] at h1 h2 h3 h4 h5 h6 h7 h8 h9 ha hb
    exact ⟨hv, by omega, fun _ => h2 (by omega), by omega, by omega, by omega, h7, h8, h9, ha, hb⟩
  | _ => trivial
theorem well_next {s : St} {o : Ou} {k : Vl → St → Ou} (h : Well s o) (hk : ∀ v s', o = .ok v s' → VlOk v → Goes s s' → Well1 s' (k v s')) : Well1 s (o.next k) := by
  cases o with
  | ok v s' =>
    have h2 := hk v s' rfl h.1 h.2
    show Well1 s (k v s')
    obtain ⟨_, a1, a2, a3, a4, a5, a6, a7, a8, a9, a0⟩ := h
    generalize k v s' = r at h2
    cases r with
    | ok u s2 =>
      obtain ⟨hv, h1, h2, h3, h4, h5, h6, h7, h8, h9, ha, hb⟩ := h2
      exact ⟨hv, by omega, fun h => h2 (a2 h), by omega, by omega, by omega, by omega, by omega, fun h => h8 (a7 h), by omega, by omega, by omega⟩
    | _ => trivial
  | _ => trivial
theorem sfree_16 {t : Tm} (hg : t.good) : (sfree t).length ≤ 16 := sfree_len t
/-- The kids' conditions. -/
theorem TmOk.app {f a : Tm} {i : Nat} {e : En} (h : TmOk (.app f a) i e) : TmOk f (i + 1) e ∧ TmOk a (i + 1 + (parts f).length) e := by
  obtain ⟨hg, hp, hr, hf, he⟩ := h
  simp only [parts, List.length_cons, List.length_append, Tm.depth] at hp hr
  have hm : ∀ x, x ∈ sfree f ∨ x ∈ sfree a → x ∈ e.names := fun x hx => hf x ((mem_sort _ _).2 ⟨hx.elim (free_letters hg.1) (free_letters hg.2), List.mem_append.2 hx⟩)
  exact ⟨⟨hg.1, by omega, by omega, fun c hc => hm c (.inl hc), he⟩, ⟨hg.2, by omega, by omega, fun c hc => hm c (.inr hc), he⟩⟩
theorem TmOk.op {o : UInt8} {f a : Tm} {i : Nat} {e : En} (h : TmOk (.op o f a) i e) : TmOk f (i + 1) e ∧ TmOk a (i + 1 + (parts f).length) e := by
  obtain ⟨hg, hp, hr, hf, he⟩ := h
  simp only [parts, List.length_cons, List.length_append, Tm.depth] at hp hr
  have hm : ∀ x, x ∈ sfree f ∨ x ∈ sfree a → x ∈ e.names := fun x hx => hf x ((mem_sort _ _).2 ⟨hx.elim (free_letters hg.2.1) (free_letters hg.2.2), List.mem_append.2 hx⟩)
  exact ⟨⟨hg.2.1, by omega, by omega, fun c hc => hm c (.inl hc), he⟩, ⟨hg.2.2, by omega, by omega, fun c hc => hm c (.inr hc), he⟩⟩
theorem TmOk.bind {c : UInt8} {v b : Tm} {i : Nat} {e : En} (h : TmOk (.bind c v b) i e) : TmOk v (i + 1) e ∧ ∀ x, VlOk x → TmOk b (i + 1 + (parts v).length) (.cons c x e) := by
  obtain ⟨hg, hp, hr, hf, he⟩ := h
  simp only [parts, List.length_cons, List.length_append, Tm.depth] at hp hr
  have hm : ∀ x, x ∈ sfree v ∨ x ∈ lessN (sfree b) [c] → x ∈ e.names := fun x hx => hf x ((mem_sort _ _).2 ⟨hx.elim (free_letters hg.2.1) (fun h => free_letters hg.2.2 ((mem_less _ _ _).1 h).1), List.mem_append.2 hx⟩)
  refine ⟨⟨hg.2.1, by omega, by omega, fun c hc => hm c (.inl hc), he⟩, fun x hx => ⟨hg.2.2, by omega, by simp only [En.names, List.length_cons]; omega, fun y hy => ?_, .cons _ _ _ hx he⟩⟩
  simp only [En.names, List.mem_cons]
  by_cases hc : y = c
  · exact .inl hc
  · exact .inr (hm y (.inr ((mem_less _ _ _).2 ⟨hy, by simpa using hc⟩)))
theorem TmOk.sel {a b c : Tm} {i : Nat} {e : En} (h : TmOk (.sel a b c) i e) : TmOk a (i + 1) e ∧ TmOk b (i + 1 + (parts a).length) e ∧ TmOk c (i + 1 + (parts a).length + (parts b).length) e := by
  obtain ⟨hg, hp, hr, hf, he⟩ := h
  simp only [parts, List.length_cons, List.length_append, Tm.depth] at hp hr
  have hm : ∀ x, x ∈ sfree a ∨ x ∈ sfree b ∨ x ∈ sfree c → x ∈ e.names := fun x hx => hf x ((mem_sort _ _).2 ⟨hx.elim (free_letters hg.1) (fun h => h.elim (free_letters hg.2.1) (free_letters hg.2.2)), by simp only [List.mem_append]; exact hx⟩)
  exact ⟨⟨hg.1, by omega, by omega, fun c hc => hm c (.inl hc), he⟩, ⟨hg.2.1, by omega, by omega, fun c hc => hm c (.inr (.inl hc)), he⟩, ⟨hg.2.2, by omega, by omega, fun c hc => hm c (.inr (.inr hc)), he⟩⟩
/-- A function is well where it stands; its body is, where it is called. -/
theorem TmOk.clo {t : Tm} {i : Nat} {e : En} (h : TmOk t i e) (hf : isFun t = true) : VlOk (.clo i t e) := .clo i t e hf h.good h.place h.room h.free h.env
theorem clo_body {g : Tm} {j : Nat} {e : En} {y : Vl} (h : VlOk (.clo j g e)) (hy : VlOk y) : TmOk (bodyOf g) (j + 1) (bodyEn g j e y) := by
  cases h with
  | clo _ _ _ hf hg hi hl hx he =>
    cases g with
    | fn c b =>
      simp only [parts, List.length_cons, Tm.depth] at hi hl
      refine ⟨hg.2, by show j + 1 + (parts b).length ≤ 200; omega, by simp only [bodyEn, En.names, List.length_cons, bodyOf]; omega, fun x hx2 => ?_, .cons _ _ _ hy he⟩
      simp only [bodyEn, En.names, List.mem_cons]
      by_cases hc : x = c
      · exact .inl hc
      · exact .inr (hx x ((mem_less _ _ _).2 ⟨hx2, by simpa using hc⟩))
    | fix f c b =>
      simp only [parts, List.length_cons, Tm.depth] at hi hl
      refine ⟨hg.2.2.2, by show j + 1 + (parts b).length ≤ 200; omega, by simp only [bodyEn, En.names, List.length_cons, bodyOf]; omega, fun x hx2 => ?_, .cons _ _ _ hy (.cons _ _ _ (.clo j (.fix f c b) e hf hg (by simp only [parts, List.length_cons]; omega) (by simp only [Tm.depth]; omega) hx he) he)⟩
      simp only [bodyEn, En.names, List.mem_cons]
      by_cases hc : x = c
      · exact .inl hc
      · by_cases hd : x = f
        · exact .inr (.inl hd)
        · exact .inr (.inr (hx x ((mem_less _ _ _).2 ⟨hx2, by simp [hc, hd]⟩)))
    | _ => cases hf
theorem ev_ok : ∀ (n : Nat) (t : Tm) (i : Nat) (e : En) (s : St), TmOk t i e → Well s (ev n t i e s) := by
  intro n
  induction n with
  | zero => intro t i e s h; trivial
  | succ n ih =>
    intro t i e s h
    unfold ev
    split
    · trivial
    · rename_i hs
      refine well_step (by omega) ?_
      generalize s.step = s
      cases t with
      | num k => exact ⟨.num k (by simpa [Tm.good] using h.good), by omega, id, by omega, by omega, by omega, by omega, rfl, id, rfl, rfl, rfl⟩
      | var c =>
        obtain ⟨v, hv, hok⟩ := find_ok h.env (h.free c (by simp [sfree]))
        show Well1 s (match e.find c with | some v => .ok v s | none => .fault)
        rw [hv]
        exact ⟨hok, by omega, id, by omega, by omega, by omega, by omega, rfl, id, rfl, rfl, rfl⟩
      | fn c b =>
        have := sfree_16 h.good
        exact ⟨h.clo rfl, by simp [St.made], id, by simp [St.made], by simp [St.made], by simp [St.made]; omega, by simp only [St.made]; omega, rfl, id, rfl, rfl, by simp [St.made]; omega⟩
      | fix f c b =>
        have := sfree_16 h.good
        exact ⟨h.clo rfl, by simp [St.made], id, by simp [St.made], by simp [St.made], by simp [St.made]; omega, by simp only [St.made]; omega, rfl, id, rfl, rfl, by simp [St.made]; omega⟩
      | app f a =>
        refine well_next (ih f _ e s h.app.1) fun x s1 _ hx g1 => ?_
        refine well_next (ih a _ e s1 h.app.2) fun y s2 _ hy g2 => ?_
        cases x with
        | num k => trivial
        | clo j g e' =>
          show Well1 s2 (if 50 ≤ s2.depth then .long else _)
          split
          · trivial
          · rename_i hd
            have hw := ih (bodyOf g) (j + 1) (bodyEn g j e' y) (s2.enter i j) (clo_body hx hy)
            generalize ev n (bodyOf g) (j + 1) (bodyEn g j e' y) (s2.enter i j) = o at hw
            cases o with
            | ok z s3 =>
              obtain ⟨hz, a1, a2, a3, a4, a5, a6, a7, a8, a9, a0⟩ := hw
              simp only [St.enter, List.length_append, List.length_cons, List.length_nil] at a1 a2 a3 a4 a5 a6 a7 a8 a9 a0
              refine ⟨hz, by simp only [St.leave]; omega, by simp only [St.leave]; exact a2, by simp only [St.leave]; omega, by simp only [St.leave]; omega, by simp only [St.leave]; omega, by simp only [St.leave]; omega, by simp only [St.leave]; omega, by simp only [St.leave]; intro h; exact a7 (by omega), by simp only [St.leave]; omega, by simp only [St.leave]; omega, by simp only [St.leave]; omega⟩
            | _ => trivial
      | bind c v b =>
        refine well_next (ih v _ e s h.bind.1) fun x s1 _ hx g1 => ?_
        exact well1 (ih b _ _ s1 (h.bind.2 x hx))
      | op o l r =>
        refine well_next (ih l _ e s h.op.1) fun x s1 _ hx g1 => ?_
        refine well_next (ih r _ e s1 h.op.2) fun y s2 _ hy g2 => ?_
        cases x with
        | num a =>
          cases y with
          | num b => exact ⟨.num _ (calN_le _ _ _), by omega, id, by omega, by omega, by omega, by omega, rfl, id, rfl, rfl, rfl⟩
          | clo _ _ _ => trivial
        | clo _ _ _ => trivial
      | sel a b c =>
        refine well_next (ih a _ e s h.sel.1) fun x s1 _ hx g1 => ?_
        cases x with
        | num k =>
          show Well1 s1 (if k = 0 then _ else _)
          split
          · exact well1 (ih b _ e s1 h.sel.2.1)
          · exact well1 (ih c _ e s1 h.sel.2.2)
        | clo _ _ _ => trivial
end Go.Proofs.YthjhpfcilaghgaaGreatDoor
