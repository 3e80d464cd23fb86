import Derived.Test.YtjfhncfbejephaaGreatDoorMCt
import Derived.Test.YtjfhncfbejephaaGreatDoorCal
import Derived.Test.YtjfhncfbejephaaGreatDoorMYi
import Derived.Test.YtjfhncfbejephaaGreatDoorMDp
import Derived.Defers
import Derived.Recover
import Derived.Maps.AppendAt
import Derived.Deep.AppendLies
import Derived.Deep.RegionLaw
import Derived.Deep.RegionHeld3
/- What a run comes to, as plain functions. No program in sight. -/
namespace Go.Proofs.YtjfhncfbejephaaGreatDoor
open Ff
set_option linter.unusedVariables false

mutual
/-- A value: a number, or a function (with its index among all parts) together with what its free names are. -/
inductive Vl where
  | num (n : Nat)
  | clo (i : Nat) (t : Tm) (e : En)
/-- What names are; what is bound last stands first. -/
inductive En where
  | nil
  | cons (c : UInt8) (v : Vl) (e : En)
end
def En.find : En → UInt8 → Option Vl
  | .nil, _ => none
  | .cons c v e, x => if c = x then some v else e.find x
def En.names : En → Text
  | .nil => []
  | .cons c _ e => c :: e.names
/-- What a run has done. -/
structure St where
  steps : Nat
  calls : Nat
  clos : Nat
  capt : Nat
  deepest : Nat
  depth : Nat
  called : List Nat
  froms : List Nat
  encl : List Nat
def St.step (s : St) : St := { s with steps := s.steps + 1 }
def St.made (s : St) (i n : Nat) : St := { s with clos := s.clos + 1, capt := s.capt + n, encl := s.encl ++ [i] }
def St.enter (s : St) (p i : Nat) : St := { s with calls := s.calls + 1, depth := s.depth + 1, deepest := max s.deepest (s.depth + 1), called := s.called ++ [i], froms := s.froms ++ [p] }
def St.leave (s : St) : St := { s with depth := s.depth - 1 }
/-- What is evaluated comes to. -/
inductive Ou where
  | ok (v : Vl) (s : St)
  | fault
  | long
def Ou.next (o : Ou) (k : Vl → St → Ou) : Ou := match o with | .ok v s => k v s | .fault => .fault | .long => .long
/-- What a function is called with: its body, and what names are there. -/
def bodyOf : Tm → Tm
  | .fn _ b => b
  | .fix _ _ b => b
  | t => t
def bodyEn (g : Tm) (j : Nat) (e : En) (y : Vl) : En := match g with
  | .fn c _ => .cons c y e
  | .fix f c _ => .cons c y (.cons f (.clo j g e) e)
  | _ => e
/-- A call, from a part; what evaluates is handed in. -/
def callV (E : Tm → Nat → En → St → Ou) (p : Nat) (x y : Vl) (s : St) : Ou := match x with
  | .num _ => .fault
  | .clo j g e => if 50 ≤ s.depth then .long else (E (bodyOf g) (j + 1) (bodyEn g j e y) (s.enter p j)).next fun z s => .ok z s.leave
def opV (o : UInt8) (x y : Vl) (s : St) : Ou := match x, y with
  | .num a, .num b => .ok (.num (calN o a b)) s
  | _, _ => .fault
def evB (E : Tm → Nat → En → St → Ou) (t : Tm) (i : Nat) (e : En) (s : St) : Ou := match t with
  | .num k => .ok (.num k) s
  | .var c => match e.find c with | some v => .ok v s | none => .fault
  | .fn c b => .ok (.clo i (.fn c b) e) (s.made i (sfree (.fn c b)).length)
  | .fix f c b => .ok (.clo i (.fix f c b) e) (s.made i (sfree (.fix f c b)).length)
  | .app f a => (E f (i + 1) e s).next fun x s => (E a (i + 1 + (parts f).length) e s).next fun y s => callV E i x y s
  | .bind c v b => (E v (i + 1) e s).next fun x s => E b (i + 1 + (parts v).length) (.cons c x e) s
  | .op o l r => (E l (i + 1) e s).next fun x s => (E r (i + 1 + (parts l).length) e s).next fun y s => opV o x y s
  | .sel a b c => (E a (i + 1) e s).next fun x s => match x with
    | .num n => if n = 0 then E b (i + 1 + (parts a).length) e s else E c (i + 1 + (parts a).length + (parts b).length) e s
    | .clo _ _ _ => .fault
/-- How many steps may still be made is no more than n. -/
def ev : Nat → Tm → Nat → En → St → Ou
  | 0, _, _, _, _ => .long
  | n + 1, t, i, e, s => if 1500 ≤ s.steps then .long else evB (ev n) t i e s.step

mutual
inductive VlOk : Vl → Prop
  | num (n : Nat) (h : n ≤ 99) : VlOk (.num n)
  | clo (i : Nat) (t : Tm) (e : En) (hf : isFun t = true) (hg : t.good) (hi : i + (parts t).length ≤ 200) (hl : e.names.length + 2 * t.depth ≤ 100) (hx : ∀ c ∈ sfree t, c ∈ e.names) (he : EnOk e) : VlOk (.clo i t e)
inductive EnOk : En → Prop
  | nil : EnOk .nil
  | cons (c : UInt8) (v : Vl) (e : En) (hv : VlOk v) (he : EnOk e) : EnOk (.cons c v e)
end
structure TmOk (t : Tm) (i : Nat) (e : En) : Prop where
  good : t.good
  place : i + (parts t).length ≤ 200
  room : e.names.length + 2 * t.depth ≤ 100
  free : ∀ c ∈ sfree t, c ∈ e.names
  env : EnOk e
theorem find_ok {e : En} (h : EnOk e) {c : UInt8} (hc : c ∈ e.names) : ∃ v, e.find c = some v ∧ VlOk v := by
  induction e using En.rec (motive_1 := fun _ => True) with
  | nil => simp [En.names] at hc
  | cons d v e _ ih =>
    cases h with
    | cons _ _ _ hv he =>
      by_cases hd : d = c
      · exact ⟨v, by simp [En.find, hd], hv⟩
      · obtain ⟨u, h1, h2⟩ := ih he (by simp only [En.names, List.mem_cons] at hc; rcases hc with h | h; exact absurd h.symm hd; exact h)
        exact ⟨u, by simp [En.find, hd, h1], h2⟩
  | num n => trivial
  | clo i t e _ => trivial
/-- How the counts go. -/
structure Goes (s s' : St) : Prop where
  steps : s.steps ≤ s'.steps
  top : s.steps ≤ 1500 → s'.steps ≤ 1500
  calls : s.calls ≤ s'.calls ∧ s'.calls + s.steps ≤ s.calls + s'.steps
  clos : s'.clos + s.steps ≤ s.clos + s'.steps
  capt : s'.capt + 16 * s.steps ≤ s.capt + 16 * s'.steps
  depth : s'.depth = s.depth
  deepest : s.deepest ≤ 50 → s'.deepest ≤ 50
  called : s'.called.length + s.calls = s.called.length + s'.calls
  froms : s'.froms.length + s.calls = s.froms.length + s'.calls
  encl : s'.encl.length + s.clos = s.encl.length + s'.clos
theorem Goes.refl (s : St) : Goes s s := ⟨Nat.le_refl _, id, ⟨Nat.le_refl _, Nat.le_refl _⟩, Nat.le_refl _, Nat.le_refl _, rfl, id, rfl, rfl, rfl⟩
theorem Goes.trans {a b c : St} (h : Goes a b) (k : Goes b c) : Goes a c := by
  obtain ⟨h1, h2, h3, h4, h5, h6, h7, h8, h9, h0⟩ := h
  obtain ⟨k1, k2, k3, k4, k5, k6, k7, k8, k9, k0⟩ := k
  exact ⟨by omega, fun h => k2 (h2 h), by omega, by omega, by omega, by omega, fun h => k7 (h7 h), by omega, by omega, by omega⟩
theorem Goes.step {s s' : St} (hs : s.steps < 1500) (h : Goes s.step s') : Goes s s' := by
  obtain ⟨h1, h2, h3, h4, h5, h6, h7, h8, h9, h0⟩ := h
  simp only [St.step] at h1 h2 h3 h4 h5 h6 h7 h8 h9 h0
  exact ⟨by omega, fun _ => h2 (by omega), by omega, by omega, by omega, h6, h7, h8, h9, h0⟩
/-- What is evaluated is well, and so are the counts. -/
def Well (s : St) (o : Ou) : Prop := match o with
  | .ok v s' => VlOk v ∧ Goes s s'
  | _ => True
/-- .. behind a first step. -/
def Well1 (s : St) (o : Ou) : Prop := match o with
  | .ok v s' => VlOk v ∧ s.steps ≤ s'.steps ∧ (s.steps ≤ 1500 → s'.steps ≤ 1500) ∧ s.calls ≤ s'.calls ∧ s'.calls + s.steps ≤ s.calls + s'.steps + 1 ∧ s'.clos + s.steps ≤ s.clos + s'.steps + 1 ∧ s'.capt + 16 * s.steps ≤ s.capt + 16 * s'.steps + 16 ∧ s'.depth = s.depth ∧ (s.deepest ≤ 50 → s'.deepest ≤ 50) ∧ s'.called.length + s.calls = s.called.length + s'.calls ∧ s'.froms.length + s.calls = s.froms.length + s'.calls ∧ s'.encl.length + s.clos = s.encl.length + s'.clos
  | _ => True
theorem well1 {s : St} {o : Ou} (h : Well s o) : Well1 s o := by
  cases o with
  | ok v s' => obtain ⟨hv, h1, h2, h3, h4, h5, h6, h7, h8, h9, h0⟩ := h; exact ⟨hv, h1, h2, h3.1, by omega, by omega, by omega, h6, h7, h8, h9, h0⟩
  | _ => trivial
theorem well_step {s : St} {o : Ou} (hs : s.steps < 1500) (h : Well1 s.step o) : Well s o := by
  cases o with
  | ok v s' =>
    obtain ⟨hv, h1, h2, h3, h4, h5, h6, h7, h8, h9, ha, hb⟩ := h
    simp only [St.step] at h1 h2 h3 h4 h5 h6 h7 h8 h9 ha hb
    exact ⟨hv, by omega, fun _ => h2 (by omega), by omega, by omega, by omega, h7, h8, h9, ha, hb⟩
  | _ => trivial
theorem well_next {s : St} {o : Ou} {k : Vl → St → Ou} (h : Well s o) (hk : ∀ v s', o = .ok v s' → VlOk v → Goes s s' → Well1 s' (k v s')) : Well1 s (o.next k) := by
  cases o with
  | ok v s' =>
    have h2 := hk v s' rfl h.1 h.2
    show Well1 s (k v s')
    obtain ⟨_, a1, a2, a3, a4, a5, a6, a7, a8, a9, a0⟩ := h
    generalize k v s' = r at h2
    cases r with
    | ok u s2 =>
      obtain ⟨hv, h1, h2, h3, h4, h5, h6, h7, h8, h9, ha, hb⟩ := h2
      exact ⟨hv, by omega, fun h => h2 (a2 h), by omega, by omega, by omega, by omega, by omega, fun h => h8 (a7 h), by omega, by omega, by omega⟩
    | _ => trivial
  | _ => trivial
theorem sfree_16 {t : Tm} (hg : t.good) : (sfree t).length ≤ 16 := sfree_len t
/-- The kids' conditions. -/
theorem TmOk.app {f a : Tm} {i : Nat} {e : En} (h : TmOk (.app f a) i e) : TmOk f (i + 1) e ∧ TmOk a (i + 1 + (parts f).length) e := by
  obtain ⟨hg, hp, hr, hf, he⟩ := h
  simp only [parts, List.length_cons, List.length_append, Tm.depth] at hp hr
  have hm : ∀ x, x ∈ sfree f ∨ x ∈ sfree a → x ∈ e.names := fun x hx => hf x ((mem_sort _ _).2 ⟨hx.elim (free_letters hg.1) (free_letters hg.2), List.mem_append.2 hx⟩)
  exact ⟨⟨hg.1, by omega, by omega, fun c hc => hm c (.inl hc), he⟩, ⟨hg.2, by omega, by omega, fun c hc => hm c (.inr hc), he⟩⟩
theorem TmOk.op {o : UInt8} {f a : Tm} {i : Nat} {e : En} (h : TmOk (.op o f a) i e) : TmOk f (i + 1) e ∧ TmOk a (i + 1 + (parts f).length) e := by
  obtain ⟨hg, hp, hr, hf, he⟩ := h
  simp only [parts, List.length_cons, List.length_append, Tm.depth] at hp hr
  have hm : ∀ x, x ∈ sfree f ∨ x ∈ sfree a → x ∈ e.names := fun x hx => hf x ((mem_sort _ _).2 ⟨hx.elim (free_letters hg.2.1) (free_letters hg.2.2), List.mem_append.2 hx⟩)
  exact ⟨⟨hg.2.1, by omega, by omega, fun c hc => hm c (.inl hc), he⟩, ⟨hg.2.2, by omega, by omega, fun c hc => hm c (.inr hc), he⟩⟩
theorem TmOk.bind {c : UInt8} {v b : Tm} {i : Nat} {e : En} (h : TmOk (.bind c v b) i e) : TmOk v (i + 1) e ∧ ∀ x, VlOk x → TmOk b (i + 1 + (parts v).length) (.cons c x e) := by
  obtain ⟨hg, hp, hr, hf, he⟩ := h
  simp only [parts, List.length_cons, List.length_append, Tm.depth] at hp hr
  have hm : ∀ x, x ∈ sfree v ∨ x ∈ lessN (sfree b) [c] → x ∈ e.names := fun x hx => hf x ((mem_sort _ _).2 ⟨hx.elim (free_letters hg.2.1) (fun h => free_letters hg.2.2 ((mem_less _ _ _).1 h).1), List.mem_append.2 hx⟩)
  refine ⟨⟨hg.2.1, by omega, by omega, fun c hc => hm c (.inl hc), he⟩, fun x hx => ⟨hg.2.2, by omega, by simp only [En.names, List.length_cons]; omega, fun y hy => ?_, .cons _ _ _ hx he⟩⟩
  simp only [En.names, List.mem_cons]
  by_cases hc : y = c
  · exact .inl hc
  · exact .inr (hm y (.inr ((mem_less _ _ _).2 ⟨hy, by simpa using hc⟩)))
theorem TmOk.sel {a b c : Tm} {i : Nat} {e : En} (h : TmOk (.sel a b c) i e) : TmOk a (i + 1) e ∧ TmOk b (i + 1 + (parts a).length) e ∧ TmOk c (i + 1 + (parts a).length + (parts b).length) e := by
  obtain ⟨hg, hp, hr, hf, he⟩ := h
  simp only [parts, List.length_cons, List.length_append, Tm.depth] at hp hr
  have hm : ∀ x, x ∈ sfree a ∨ x ∈ sfree b ∨ x ∈ sfree c → x ∈ e.names := fun x hx => hf x ((mem_sort _ _).2 ⟨hx.elim (free_letters hg.1) (fun h => h.elim (free_letters hg.2.1) (free_letters hg.2.2)), by simp only [List.mem_append]; exact hx⟩)
  exact ⟨⟨hg.1, by omega, by omega, fun c hc => hm c (.inl hc), he⟩, ⟨hg.2.1, by omega, by omega, fun c hc => hm c (.inr (.inl hc)), he⟩, ⟨hg.2.2, by omega, by omega, fun c hc => hm c (.inr (.inr hc)), he⟩⟩
/-- A function is well where it stands; its body is, where it is called. -/
theorem TmOk.clo {t : Tm} {i : Nat} {e : En} (h : TmOk t i e) (hf : isFun t = true) : VlOk (.clo i t e) := .clo i t e hf h.good h.place h.room h.free h.env
theorem clo_body {g : Tm} {j : Nat} {e : En} {y : Vl} (h : VlOk (.clo j g e)) (hy : VlOk y) : TmOk (bodyOf g) (j + 1) (bodyEn g j e y) := by
  cases h with
  | clo _ _ _ hf hg hi hl hx he =>
    cases g with
    | fn c b =>
      simp only [parts, List.length_cons, Tm.depth] at hi hl
      refine ⟨hg.2, by show j + 1 + (parts b).length ≤ 200; omega, by simp only [bodyEn, En.names, List.length_cons, bodyOf]; omega, fun x hx2 => ?_, .cons _ _ _ hy he⟩
      simp only [bodyEn, En.names, List.mem_cons]
      by_cases hc : x = c
      · exact .inl hc
      · exact .inr (hx x ((mem_less _ _ _).2 ⟨hx2, by simpa using hc⟩))
    | fix f c b =>
      simp only [parts, List.length_cons, Tm.depth] at hi hl
      refine ⟨hg.2.2.2, by show j + 1 + (parts b).length ≤ 200; omega, by simp only [bodyEn, En.names, List.length_cons, bodyOf]; omega, fun x hx2 => ?_, .cons _ _ _ hy (.cons _ _ _ (.clo j (.fix f c b) e hf hg (by simp only [parts, List.length_cons]; omega) (by simp only [Tm.depth]; omega) hx he) he)⟩
      simp only [bodyEn, En.names, List.mem_cons]
      by_cases hc : x = c
      · exact .inl hc
      · by_cases hd : x = f
        · exact .inr (.inl hd)
        · exact .inr (.inr (hx x ((mem_less _ _ _).2 ⟨hx2, by simp [hc, hd]⟩)))
    | _ => cases hf
theorem ev_ok : ∀ (n : Nat) (t : Tm) (i : Nat) (e : En) (s : St), TmOk t i e → Well s (ev n t i e s) := by
  intro n
  induction n with
  | zero => intro t i e s h; trivial
  | succ n ih =>
    intro t i e s h
    unfold ev
    split
    · trivial
    · rename_i hs
      refine well_step (by omega) ?_
      generalize s.step = s
      cases t with
      | num k => exact ⟨.num k (by simpa [Tm.good] using h.good), by omega, id, by omega, by omega, by omega, by omega, rfl, id, rfl, rfl, rfl⟩
      | var c =>
        obtain ⟨v, hv, hok⟩ := find_ok h.env (h.free c (by simp [sfree]))
        show Well1 s (match e.find c with | some v => .ok v s | none => .fault)
        rw [hv]
        exact ⟨hok, by omega, id, by omega, by omega, by omega, by omega, rfl, id, rfl, rfl, rfl⟩
      | fn c b =>
        have := sfree_16 h.good
        exact ⟨h.clo rfl, by simp [St.made], id, by simp [St.made], by simp [St.made], by simp [St.made]; omega, by simp only [St.made]; omega, rfl, id, rfl, rfl, by simp [St.made]; omega⟩
      | fix f c b =>
        have := sfree_16 h.good
        exact ⟨h.clo rfl, by simp [St.made], id, by simp [St.made], by simp [St.made], by simp [St.made]; omega, by simp only [St.made]; omega, rfl, id, rfl, rfl, by simp [St.made]; omega⟩
      | app f a =>
        refine well_next (ih f _ e s h.app.1) fun x s1 _ hx g1 => ?_
        refine well_next (ih a _ e s1 h.app.2) fun y s2 _ hy g2 => ?_
        cases x with
        | num k => trivial
        | clo j g e' =>
          show Well1 s2 (if 50 ≤ s2.depth then .long else _)
          split
          · trivial
          · rename_i hd
            have hw := ih (bodyOf g) (j + 1) (bodyEn g j e' y) (s2.enter i j) (clo_body hx hy)
            generalize ev n (bodyOf g) (j + 1) (bodyEn g j e' y) (s2.enter i j) = o at hw
            cases o with
            | ok z s3 =>
              obtain ⟨hz, a1, a2, a3, a4, a5, a6, a7, a8, a9, a0⟩ := hw
              simp only [St.enter, List.length_append, List.length_cons, List.length_nil] at a1 a2 a3 a4 a5 a6 a7 a8 a9 a0
              refine ⟨hz, by simp only [St.leave]; omega, by simp only [St.leave]; exact a2, by simp only [St.leave]; omega, by simp only [St.leave]; omega, by simp only [St.leave]; omega, by simp only [St.leave]; omega, by simp only [St.leave]; omega, by simp only [St.leave]; intro h; exact a7 (by omega), by simp only [St.leave]; omega, by simp only [St.leave]; omega, by simp only [St.leave]; omega⟩
            | _ => trivial
      | bind c v b =>
        refine well_next (ih v _ e s h.bind.1) fun x s1 _ hx g1 => ?_
        exact well1 (ih b _ _ s1 (h.bind.2 x hx))
      | op o l r =>
        refine well_next (ih l _ e s h.op.1) fun x s1 _ hx g1 => ?_
        refine well_next (ih r _ e s1 h.op.2) fun y s2 _ hy g2 => ?_
        cases x with
        | num a =>
          cases y with
          | num b => exact ⟨.num _ (calN_le _ _ _), by omega, id, by omega, by omega, by omega, by omega, rfl, id, rfl, rfl, rfl⟩
          | clo _ _ _ => trivial
        | clo _ _ _ => trivial
      | sel a b c =>
        refine well_next (ih a _ e s h.sel.1) fun x s1 _ hx g1 => ?_
        cases x with
        | num k =>
          show Well1 s1 (if k = 0 then _ else _)
          split
          · exact well1 (ih b _ e s1 h.sel.2.1)
          · exact well1 (ih c _ e s1 h.sel.2.2)
        | clo _ _ _ => trivial
end Go.Proofs.YtjfhncfbejephaaGreatDoor

/- The program's runner in memory: counts, places, bindings, closures. -/
namespace Go.Proofs.YtjfhncfbejephaaGreatDoor
open Go.RowKit Go.Shelf
open Ff
set_option linter.unusedVariables false
variable {X : Nat → Prop}

abbrev ptr (b : Nat) : Value := .pointer (some ⟨b, 0, none⟩)
/-- The row of a list of numbers. -/
def intsV (l : List Nat) : List Value := l.map fun (n : Nat) => Value.int .i64 (n : Int)
/-- The row of the calls: who calls, and what. -/
def pairsV : List Nat → List Nat → List Value
  | p :: ps, i :: is => .int .i64 (p : Int) :: .int .i64 (i : Int) :: pairsV ps is
  | _, _ => []
theorem pairsV_add : ∀ (ps is : List Nat) (p i : Nat), ps.length = is.length → pairsV (ps ++ [p]) (is ++ [i]) = pairsV ps is ++ [.int .i64 (p : Int), .int .i64 (i : Int)]
  | [], [], _, _, _ => rfl
  | a :: ps, b :: is, p, i, h => by
    have := pairsV_add ps is p i (by simpa using h)
    simp only [List.cons_append, pairsV, this]
  | [], _ :: _, _, _, h => by simp at h
  | _ :: _, [], _, _, h => by simp at h
/-- An interface that holds something, or nothing. -/
def IF : Option (TypeId × Value) → Value
  | none => .nilIface
  | some (t, v) => .iface t v
theorem storeIF {P : Program} {w : World} {a : Addr} {m : Mode} (o : Option (TypeId × Value)) : (store a (IF o) m).run P w = stored P w a (IF o) m := by
  rcases o with _ | ⟨t, v⟩
  · exact run_store P w a _ m rfl
  · exact run_store P w a _ m rfl
/-- The runner's rows: its calls, and what it has enclosed. -/
structure Rw where
  c : Value
  d : Value
def Rw.own (v : Rw) (j : Nat) : Prop := v.c.ownBlock = some j ∨ v.d.ownBlock = some j
/-- The runner's cells. -/
abbrev runC (s : St) (cv : Rw) (k : Int) : Array Value := #[.int .i64 (s.steps : Int), .int .i64 (s.calls : Int), .int .i64 (s.clos : Int), .int .i64 (s.capt : Int), .int .i64 (s.deepest : Int), .int .i64 1500, .int .i64 (s.depth : Int), cv.c, cv.d, .int .i64 k, .nilFunc]
/-- The runner r has done s; cv lists the calls that it has made, and what it has enclosed. -/
structure RunAt (X : Nat → Prop) (r : Nat) (cv : Rw) (w : World) (s : St) : Prop where
  cells : ∃ k, w.heap[r]? = some (.cells (runC s cv k) 50 (0, 0))
  row : w.ownsRow (r + 1) 51 2 cv.c s.called.length (pairsV s.froms s.called)
  rowD : w.ownsRow (r + 1) 3 1 cv.d s.encl.length (intsV s.encl)
  len : s.froms.length = s.called.length
  sep : ∀ j, cv.c.ownBlock = some j → cv.d.ownBlock ≠ some j
  priv : ∀ g, X g → g < w.heap.size
theorem RunAt.lt {X : Nat → Prop} {r : Nat} {cv : Rw} {w : World} {s : St} (h : RunAt X r cv w s) : r < w.heap.size := by
  obtain ⟨k, h⟩ := h.cells
  exact (Array.getElem?_eq_some_iff.1 h).1
theorem RunAt.owns {X : Nat → Prop} {r : Nat} {cv : Rw} {w : World} {s : St} (h : RunAt X r cv w s) (j : Nat) (hj : cv.own j) : r + 1 ≤ j ∧ j < w.heap.size :=
  hj.elim (World.ownsRow.lt h.row j) (World.ownsRow.lt h.rowD j)
/-- What lay elsewhere lies as it lay. -/
structure Kep (r : Nat) (cv : Rw) (w : World) (cv' : Rw) (w' : World) : Prop where
  os : w'.os = w.os
  tape : w'.tape = w.tape
  output : w'.output = w.output
  size : w.heap.size ≤ w'.heap.size
  block : ∀ j, j < w.heap.size → j ≠ r → ¬ cv.own j → w'.heap[j]? = w.heap[j]?
  own : ∀ j, cv'.own j → cv.own j ∨ w.heap.size ≤ j
theorem Kep.refl (r : Nat) (cv : Rw) (w : World) : Kep r cv w cv w := ⟨rfl, rfl, rfl, Nat.le_refl _, fun _ _ _ _ => rfl, fun _ h => .inl h⟩
theorem Kep.trans {r : Nat} {c0 c1 c2 : Rw} {w0 w1 w2 : World} (h : Kep r c0 w0 c1 w1) (k : Kep r c1 w1 c2 w2) : Kep r c0 w0 c2 w2 := by
  refine ⟨k.os.trans h.os, k.tape.trans h.tape, k.output.trans h.output, Nat.le_trans h.size k.size, fun j hj hr hc => ?_, fun j hj => ?_⟩
  · rw [k.block j (Nat.lt_of_lt_of_le hj h.size) hr (fun e => (h.own j e).elim hc (fun h => by omega))]
    exact h.block j hj hr hc
  · rcases k.own j hj with h1 | h1
    · exact h.own j h1
    · exact .inr (Nat.le_trans h.size h1)
theorem Kep.below {r : Nat} {cv : Rw} {w w' : World} (h : Below w.heap.size w w') : Kep r cv w cv w' := ⟨h.os, h.tape, h.output, h.size, fun j hj _ _ => h.block j hj, fun _ h => .inl h⟩
/-- The blocks that a run leaves alone. -/
def Safe (X : Nat → Prop) (r : Nat) (cv : Rw) (w : World) (g : Nat) : Prop := g < w.heap.size ∧ g ≠ r ∧ ¬ cv.own g ∧ ¬ X g
def NoX : Nat → Prop := fun _ => False
/-- .. and one block more that is its own. -/
def AndX (X : Nat → Prop) (b : Nat) : Nat → Prop := fun g => X g ∨ g = b
theorem Kep.safe {r : Nat} {c0 c1 : Rw} {w0 w1 : World} (h : Kep r c0 w0 c1 w1) {g : Nat} (hs : Safe X r c0 w0 g) : w1.heap[g]? = w0.heap[g]? ∧ Safe X r c1 w1 g :=
  ⟨h.block g hs.1 hs.2.1 hs.2.2.1, Nat.lt_of_lt_of_le hs.1 h.size, hs.2.1, fun e => (h.own g e).elim hs.2.2.1 (fun k => by have := hs.1; omega), hs.2.2.2⟩

/-- A part where it stands. -/
inductive PlaceR (S : Nat → Prop) (w : World) : Tm → Nat → Value → Prop
  | mk (t : Tm) (i b g cap : Nat) (kv : Value) (pk : Nat → Value) (hb : S b) (c0 : w.cell? ⟨b, 0, none⟩ = some (enc t)) (c1 : w.cell? ⟨b, 1, none⟩ = some (.int .i64 (i : Int))) (c3 : w.cell? ⟨b, 3, none⟩ = some kv)
      (c4 : w.cell? ⟨b, 4, none⟩ = some (.int .i64 (if isFun t then ((sfree t).length : Nat) else 0)))
      (hkv : t.kids ≠ [] → kv = .slice (some ⟨g, 0, none⟩) t.kids.length cap ∧ S g)
      (hc : ∀ k s, t.kids[k]? = some s → w.cell? ⟨g, k, none⟩ = some (pk k)) (hk : ∀ k s, t.kids[k]? = some s → PlaceR S w s (i + (before t k).length) (pk k)) : PlaceR S w t i (ptr b)
/-- Where a pointer leads. -/
def ptrN : Value → Nat
  | .pointer (some a) => a.block + 1
  | _ => 0
/-- How a closure's names lie: the function itself may be one. -/
def CloEnv (S : Nat → Prop) (w : World) (t : Tm) (b : Nat) (ee e0 : Value) : Prop := match t with
  | .fix f _ _ => ∃ bs, ee = ptr bs ∧ S bs ∧ w.cell? ⟨bs, 0, none⟩ = some (.int .u8 (f.toNat : Int)) ∧ w.cell? ⟨bs, 1, none⟩ = some (.int .i64 0) ∧ w.cell? ⟨bs, 2, none⟩ = some (.iface 180 (ptr b)) ∧ w.cell? ⟨bs, 3, none⟩ = some e0 ∧ ptrN e0 ≤ bs
  | _ => ee = e0
def paramOf : Tm → UInt8
  | .fn c _ => c
  | .fix _ c _ => c
  | _ => 0
mutual
/-- A value of a run. -/
inductive RepV (r : Nat) (S : Nat → Prop) (w : World) : Vl → Value → Prop
  | num (n : Nat) : RepV r S w (.num n) (.agg #[.int .i64 (n : Int), .nilIface])
  | clo (i : Nat) (t : Tm) (e : En) (b br bp be bx : Nat) (pl ee e0 : Value) (hb : S b)
      (c1 : w.cell? ⟨b, 0, none⟩ = some (.func (.func 89) #[] #[ptr br, ptr bp, ptr be, ptr bx]))
      (hbr : S br) (cr : w.cell? ⟨br, 0, none⟩ = some (ptr r)) (hbp : S bp) (cp : w.cell? ⟨bp, 0, none⟩ = some pl) (hp : PlaceR S w t i pl)
      (hbe : S be) (ce : w.cell? ⟨be, 0, none⟩ = some ee) (hbx : S bx) (cx : w.cell? ⟨bx, 1, none⟩ = some (.int .u8 ((paramOf t).toNat : Int)))
      (hee : CloEnv S w t b ee e0) (he : RepE r S w e e0) : RepV r S w (.clo i t e) (.agg #[.int .i64 0, .iface 180 (ptr b)])
/-- What names are. -/
inductive RepE (r : Nat) (S : Nat → Prop) (w : World) : En → Value → Prop
  | nil : RepE r S w .nil (.pointer none)
  | cons (c : UInt8) (v : Vl) (e : En) (b : Nat) (a0 a1 e0 : Value) (hb : S b) (c0 : w.cell? ⟨b, 0, none⟩ = some (.int .u8 (c.toNat : Int))) (c1 : w.cell? ⟨b, 1, none⟩ = some a0) (c2 : w.cell? ⟨b, 2, none⟩ = some a1) (c3 : w.cell? ⟨b, 3, none⟩ = some e0) (ho : ptrN e0 ≤ b)
      (hv : RepV r S w v (.agg #[a0, a1])) (he : RepE r S w e e0) : RepE r S w (.cons c v e) (ptr b)
end
section
variable {S S' : Nat → Prop} {w w' : World} (H : ∀ g, S g → w'.heap[g]? = w.heap[g]? ∧ S' g)
include H
theorem cell_keep {b k : Nat} {v : Value} (hb : S b) (h : w.cell? ⟨b, k, none⟩ = some v) : w'.cell? ⟨b, k, none⟩ = some v := (World.cell?_of_block (a := ⟨b, k, none⟩) (H b hb).1).trans h
theorem PlaceR.keep {t : Tm} {i : Nat} {v : Value} (h : PlaceR S w t i v) : PlaceR S' w' t i v := by
  induction h with
  | mk t i b g cap kv pk hb c0 c1 c3 c4 hkv hc hk ih =>
    refine .mk t i b g cap kv pk (H b hb).2 (cell_keep H hb c0) (cell_keep H hb c1) (cell_keep H hb c3) (cell_keep H hb c4) (fun h => ⟨(hkv h).1, (H g (hkv h).2).2⟩) (fun k s hs => ?_) ih
    exact cell_keep H (hkv (fun e => by rw [e] at hs; simp at hs)).2 (hc k s hs)
theorem CloEnv.keep {t : Tm} {b : Nat} {ee e0 : Value} (h : CloEnv S w t b ee e0) : CloEnv S' w' t b ee e0 := by
  cases t with
  | fix f c b' =>
    obtain ⟨bs, h1, h2, h3, h4, h5, h6, h7⟩ := h
    exact ⟨bs, h1, (H bs h2).2, cell_keep H h2 h3, cell_keep H h2 h4, cell_keep H h2 h5, cell_keep H h2 h6, h7⟩
  | _ => exact h
mutual
theorem RepV.keep {r : Nat} {v : Vl} {x : Value} (h : RepV r S w v x) : RepV r S' w' v x := by
  cases h with
  | num n => exact .num n
  | clo i t e b br bp be bx pl ee e0 hb c1 hbr cr hbp cp hp hbe ce hbx cx hee he =>
    exact .clo i t e b br bp be bx pl ee e0 (H b hb).2 (cell_keep H hb c1) (H br hbr).2 (cell_keep H hbr cr) (H bp hbp).2 (cell_keep H hbp cp) (hp.keep H) (H be hbe).2 (cell_keep H hbe ce) (H bx hbx).2 (cell_keep H hbx cx) (hee.keep H) (RepE.keep he)
theorem RepE.keep {r : Nat} {e : En} {x : Value} (h : RepE r S w e x) : RepE r S' w' e x := by
  cases h with
  | nil => exact .nil
  | cons c v e b a0 a1 e0 hb c0 c1 c2 c3 ho hv he =>
    exact .cons c v e b a0 a1 e0 (H b hb).2 (cell_keep H hb c0) (cell_keep H hb c1) (cell_keep H hb c2) (cell_keep H hb c3) ho (RepV.keep hv) (RepE.keep he)
end
end
theorem RepE.form {r : Nat} {S : Nat → Prop} {w : World} {e : En} {x : Value} (h : RepE r S w e x) : ∃ p, x = .pointer p := by cases h <;> exact ⟨_, rfl⟩
theorem RepE.top {r : Nat} {S : Nat → Prop} {w : World} {e : En} {x : Value} (h : RepE r S w e x) {B : Nat} (hB : ∀ g, S g → g < B) : ptrN x ≤ B := by
  cases h with
  | nil => exact Nat.zero_le _
  | cons c v e b a0 a1 e0 hb => exact hB b hb
theorem RepV.form {r : Nat} {S : Nat → Prop} {w : World} {v : Vl} {x : Value} (h : RepV r S w v x) : ∃ a0 a1, x = .agg #[a0, a1] ∧ (∃ n, a0 = .int .i64 n) ∧ ∃ o, a1 = IF o := by
  cases h
  · exact ⟨_, _, rfl, ⟨_, rfl⟩, none, rfl⟩
  · exact ⟨_, _, rfl, ⟨_, rfl⟩, some (_, _), rfl⟩
end Go.Proofs.YtjfhncfbejephaaGreatDoor

/- The program's meter. -/
namespace Go.Proofs.YtjfhncfbejephaaGreatDoor
open Go.RowKit Go.Shelf
open Ff
set_option linter.unusedVariables false
variable {X : Nat → Prop}

theorem row_set_r {w : World} {r sz : Nat} {e : TypeId} {cv : Value} {n : Nat} {xs : List Value} (h : w.ownsRow (r + 1) e sz cv n xs) (k : Nat) (u : Value) : (w.setCell ⟨r, k, none⟩ u).ownsRow (r + 1) e sz cv n xs := by
  obtain ⟨h1, h2 | ⟨g, cap, cur, hv, hb, hh, rest⟩⟩ := h
  · exact ⟨h1, .inl h2⟩
  · exact ⟨h1, .inr ⟨g, cap, cur, hv, hb, by rw [Below.heap_setCell _ _ _ _ (by show g ≠ r; omega)]; exact hh, rest⟩⟩
theorem kep_set {r : Nat} {cv c0 : Rw} {w0 w : World} (h : Kep r c0 w0 cv w) (k : Nat) (u : Value) : Kep r c0 w0 cv (w.setCell ⟨r, k, none⟩ u) := by
  refine h.trans ⟨rfl, rfl, rfl, by simp, fun j _ hr _ => Below.heap_setCell _ _ _ _ hr, fun j h => .inl h⟩
theorem RunAt.at {r : Nat} {cv : Rw} {w : World} {s : St} (h : RunAt X r cv w s) : w.cell? ⟨r, 0, none⟩ = some (.int .i64 (s.steps : Int)) ∧ w.cell? ⟨r, 1, none⟩ = some (.int .i64 (s.calls : Int)) ∧ w.cell? ⟨r, 2, none⟩ = some (.int .i64 (s.clos : Int)) ∧ w.cell? ⟨r, 3, none⟩ = some (.int .i64 (s.capt : Int)) ∧ w.cell? ⟨r, 4, none⟩ = some (.int .i64 (s.deepest : Int)) ∧ w.cell? ⟨r, 5, none⟩ = some (.int .i64 1500) ∧ w.cell? ⟨r, 6, none⟩ = some (.int .i64 (s.depth : Int)) ∧ w.cell? ⟨r, 7, none⟩ = some cv.c ∧ w.cell? ⟨r, 8, none⟩ = some cv.d ∧ (∃ z : Int, w.cell? ⟨r, 9, none⟩ = some (.int .i64 z)) ∧ ∀ k, w.frozen? ⟨r, k, none⟩ = false := by
  obtain ⟨z, q⟩ := h.cells
  refine ⟨?_, ?_, ?_, ?_, ?_, ?_, ?_, ?_, ?_, ⟨z, ?_⟩, fun k => ?_⟩ <;> simp [World.cell?, World.frozen?, q]
theorem RunAt.set {r : Nat} {cv : Rw} {w : World} {s s' : St} (h : RunAt X r cv w s) (k : Nat) (u : Value) (hk : ∀ z, ∃ z', (runC s cv z).setIfInBounds k u = runC s' cv z') (hc : s'.called = s.called ∧ s'.froms = s.froms ∧ s'.encl = s.encl) : RunAt X r cv (w.setCell ⟨r, k, none⟩ u) s' := by
  obtain ⟨z, q⟩ := h.cells
  obtain ⟨z', hz⟩ := hk z
  obtain ⟨h1, h2, h3⟩ := hc
  exact ⟨⟨z', by rw [heap_setCell_same _ _ _ _ _ _ q, hz]⟩, by rw [h1, h2]; exact row_set_r h.row k u, by rw [h3]; exact row_set_r h.rowD k u, by rw [h1, h2]; exact h.len, h.sep, fun g hg => by simpa using h.priv g hg⟩
theorem RunAt.drew {r : Nat} {cv : Rw} {w : World} {s : St} (h : RunAt X r cv w s) : RunAt X r cv w.drew s := ⟨h.cells, h.row, h.rowD, h.len, h.sep, h.priv⟩
theorem kep_drew {r : Nat} {cv c0 : Rw} {w0 w : World} (h : Kep r c0 w0 cv w) : Kep r c0 w0 cv w.drew := h.trans (Kep.below ((Below.refl _ w).drew))
def faultC : List PanicEntry := [{ v := .iface 184 (.agg #[]), recovered := false }]
def longC : List PanicEntry := [{ v := .iface 127 (.agg #[]), recovered := false }]
set_option maxHeartbeats 1000000 in
theorem step_c (r : Nat) (cv : Rw) (s : St) (w : World) (h : RunAt X r cv w s) (hs : s.steps ≤ 1500) :
    Calls Tryz.prog 56 #[ptr r] w fun e w' => (1500 ≤ s.steps ∧ e = .panicked longC ∧ RunAt X r cv w' s ∧ Kep r cv w cv w') ∨ (s.steps < 1500 ∧ e = .returned (.tuple #[]) ∧ RunAt X r cv w' s.step ∧ Kep r cv w cv w') := by
  obtain ⟨c0, _, _, _, _, c5, _, _, _, _, cf⟩ := h.at
  by_cases hlt : s.steps < 1500
  · have hb : ((s.steps : Int) == 1500) = false := by rw [beq_eq_false_iff_ne]; omega
    have e1 : IntKind.i64.wrap ((s.steps : Int) + 1) = (s.steps : Int) + 1 := by rw [IntKind.wrap_i64]; omega
    go_enter Tryz.func56, Tryz.ntmps56
    go_wp2_with fail
    go_region
    all_goals go_wp2_with fail
    all_goals refine bodyPost_end (results_none rfl _ _ _) rfl ?_
    all_goals refine .inr ⟨hlt, rfl, h.drew.set 0 _ (fun z => ⟨z, ?_⟩) ⟨rfl, rfl, rfl⟩, kep_set (kep_drew (Kep.refl _ _ _)) _ _⟩
    all_goals simp [runC, St.step]
  · have he : s.steps = 1500 := by omega
    have hb : ((s.steps : Int) == 1500) = true := by rw [he]; rfl
    go_enter Tryz.func56, Tryz.ntmps56
    go_wp2_with fail
    go_region
    all_goals go_wp2_with fail
    all_goals exact ⟨rfl, .inl ⟨by omega, rfl, h.drew, kep_drew (Kep.refl _ _ _)⟩⟩
set_option maxHeartbeats 1000000 in
theorem addClosure_c (r : Nat) (cv : Rw) (s : St) (n : Nat) (w : World) (h : RunAt X r cv w s) (h1 : s.clos ≤ 100000) (h2 : s.capt ≤ 100000) (h3 : n ≤ 16) :
    Calls Tryz.prog 88 #[ptr r, .int .i64 (n : Int)] w fun e w' => e = .returned (.tuple #[]) ∧ RunAt X r cv w' { s with clos := s.clos + 1, capt := s.capt + n } ∧ Kep r cv w cv w' := by
  obtain ⟨_, _, c2, c3, _, _, _, _, _, _, cf⟩ := h.at
  have e1 : IntKind.i64.wrap ((s.clos : Int) + 1) = (s.clos : Int) + 1 := by rw [IntKind.wrap_i64]; omega
  have e2 : IntKind.i64.wrap ((s.capt : Int) + (n : Int)) = (s.capt : Int) + (n : Int) := by rw [IntKind.wrap_i64]; omega
  go_enter Tryz.func88, Tryz.ntmps88
  go_wp2_with fail
  refine bodyPost_end (results_none rfl _ _ _) rfl ?_
  refine ⟨rfl, RunAt.set (s := { s with clos := s.clos + 1 }) (h.set 2 _ (fun z => ⟨z, ?_⟩) ⟨rfl, rfl, rfl⟩) 3 _ (fun z => ⟨z, ?_⟩) ⟨rfl, rfl, rfl⟩, kep_set (kep_set (Kep.refl _ _ _) _ _) _ _⟩
  · simp [runC]
  · simp [runC]
set_option maxHeartbeats 1000000 in
theorem enterCall_c (r : Nat) (cv : Rw) (s : St) (w : World) (hR : RunAt X r cv w s) (h1 : s.calls ≤ 100000) (h2 : s.depth ≤ 50) :
    Calls Tryz.prog 97 #[ptr r] w fun e w' => (50 ≤ s.depth ∧ e = .panicked longC ∧ w' = w) ∨ (s.depth < 50 ∧ e = .returned (.tuple #[]) ∧ RunAt X r cv w' { s with calls := s.calls + 1, depth := s.depth + 1, deepest := max s.deepest (s.depth + 1) } ∧ Kep r cv w cv w') := by
  obtain ⟨_, c1, _, _, c4, _, c5, _, _, _, cf⟩ := hR.at
  by_cases hlt : s.depth < 50
  · have hb : ((s.depth : Int) == 50) = false := by rw [beq_eq_false_iff_ne]; omega
    have e1 : IntKind.i64.wrap ((s.depth : Int) + 1) = (s.depth : Int) + 1 := by rw [IntKind.wrap_i64]; omega
    have e2 : IntKind.i64.wrap ((s.calls : Int) + 1) = (s.calls : Int) + 1 := by rw [IntKind.wrap_i64]; omega
    go_enter Tryz.func97, Tryz.ntmps97
    go_wp2_with fail
    go_region
    all_goals go_wp2_with fail
    all_goals refine bodyPost_end (results_none rfl _ _ _) rfl ?_
    · refine .inr ⟨rfl, RunAt.drew (RunAt.set (s := { s with depth := s.depth + 1, calls := s.calls + 1 }) (RunAt.set (s := { s with depth := s.depth + 1 }) (hR.set 6 _ (fun z => ⟨z, ?_⟩) ⟨rfl, rfl, rfl⟩) 1 _ (fun z => ⟨z, ?_⟩) ⟨rfl, rfl, rfl⟩) 4 _ (fun z => ⟨z, ?_⟩) ⟨rfl, rfl, rfl⟩), kep_drew (kep_set (kep_set (kep_set (Kep.refl _ _ _) _ _) _ _) _ _)⟩
      · simp [runC]
      · simp [runC]
      · have e : max s.deepest (s.depth + 1) = s.depth + 1 := by omega
        simp [runC, e]
    · refine .inr ⟨rfl, RunAt.drew (RunAt.set (s := { s with depth := s.depth + 1, calls := s.calls + 1 }) (RunAt.set (s := { s with depth := s.depth + 1 }) (hR.set 6 _ (fun z => ⟨z, ?_⟩) ⟨rfl, rfl, rfl⟩) 1 _ (fun z => ⟨z, ?_⟩) ⟨rfl, rfl, rfl⟩) 4 _ (fun z => ⟨z, ?_⟩) ⟨rfl, rfl, rfl⟩), kep_drew (kep_set (kep_set (kep_set (Kep.refl _ _ _) _ _) _ _) _ _)⟩
      · simp [runC]
      · simp [runC]
      · have e : max s.deepest (s.depth + 1) = s.deepest := by omega
        simp [runC, e]
  · have he : s.depth = 50 := by omega
    have hb : ((s.depth : Int) == 50) = true := by rw [he]; rfl
    go_enter Tryz.func97, Tryz.ntmps97
    go_wp2_with fail
    exact ⟨rfl, .inl ⟨by omega, rfl, rfl⟩⟩
set_option maxHeartbeats 1000000 in
theorem leaveCall_c (r : Nat) (cv : Rw) (s : St) (w : World) (h : RunAt X r cv w s) (h2 : 1 ≤ s.depth) (h3 : s.depth ≤ 4000) (u : FrameMode) :
    CallsD Tryz.prog 98 #[ptr r] u w fun e u' w' => u' = u ∧ e = .returned (.tuple #[]) ∧ RunAt X r cv w' s.leave ∧ Kep r cv w cv w' := by
  obtain ⟨_, c1, _, _, c4, _, c5, _, _, _, cf⟩ := h.at
  have e1 : IntKind.i64.wrap ((s.depth : Int) - 1) = ((s.depth - 1 : Nat) : Int) := by rw [IntKind.wrap_i64]; omega
  refine callsD_of_wp Tryz.func98 rfl ?_
  simp only [Tryz.ntmps98, List.size_toArray, List.length_cons, List.length_nil, Nat.reduceAdd, Nat.reduceSub, Array.replicate_succ, Array.replicate_zero, List.push_toArray, List.append_toArray, List.nil_append, List.cons_append]
  go_wp2_with fail
  refine bodyPost_end (results_none rfl _ _ _) rfl ?_
  refine ⟨rfl, h.set 6 _ (fun z => ⟨z, ?_⟩) ⟨rfl, rfl, rfl⟩, kep_set (Kep.refl _ _ _) _ _⟩
  simp [runC, St.leave]
end Go.Proofs.YtjfhncfbejephaaGreatDoor

/- The program's bindings and small functions of a run. -/
namespace Go.Proofs.YtjfhncfbejephaaGreatDoor
open Go.RowKit Go.Shelf
open Ff
set_option linter.unusedVariables false
variable {X : Nat → Prop}
attribute [local go_sem] storeIF

theorem newAt (w : World) (B : Nat) (hB : w.heap.size = B) (l : List Value) (t : TypeId) (k : Nat) (v : Value) (h : l[k]? = some v) : (w.alloc (.cells l.toArray t)).cell? ⟨B, k, none⟩ = some v := by subst hB; exact (cell_new w l t k).trans h
set_option maxHeartbeats 1000000 in
/-- One name more. -/
theorem with_c (e0 : Value) (c : UInt8) (a0 a1 : Value) (h0 : ∃ n, a0 = .int .i64 n) (h1 : ∃ o, a1 = IF o) (he : ∃ p, e0 = .pointer p) (w : World) :
    Calls Tryz.prog 60 #[e0, .int .u8 (c.toNat : Int), .agg #[a0, a1]] w fun e w' => ∃ b, e = .returned (ptr b) ∧ w.heap.size ≤ b ∧ b < w'.heap.size ∧ Below w.heap.size w w' ∧
      w'.cell? ⟨b, 0, none⟩ = some (.int .u8 (c.toNat : Int)) ∧ w'.cell? ⟨b, 1, none⟩ = some a0 ∧ w'.cell? ⟨b, 2, none⟩ = some a1 ∧ w'.cell? ⟨b, 3, none⟩ = some e0 := by
  obtain ⟨n, rfl⟩ := h0
  obtain ⟨p, rfl⟩ := h1
  obtain ⟨q, rfl⟩ := he
  go_enter Tryz.func60, Tryz.ntmps60
  go_wp2_with fail
  go_ret
  refine ⟨_, rfl, by simp, by simp, ((Below.refl _ w).alloc (Nat.le_refl _) _).alloc (by simp) _, ?_, ?_, ?_, ?_⟩
  all_goals exact newAt (w.alloc _) _ (by simp) _ _ _ _ rfl
def MustP : Vl → Ending → Prop
  | .num n, e => e = .returned (.int .i64 (n : Int))
  | .clo _ _ _, e => e = .panicked faultC
set_option maxHeartbeats 1000000 in
theorem mustNumber_c (r : Nat) (S : Nat → Prop) (v : Vl) (x : Value) (w : World) (h : RepV r S w v x) :
    Calls Tryz.prog 62 #[x] w fun e w' => MustP v e ∧ Below w.heap.size w w' := by
  cases h with
  | num n =>
    go_enter Tryz.func62, Tryz.ntmps62
    go_wp2_with fail
    go_ret
    exact ⟨rfl, (Below.refl _ w).alloc (Nat.le_refl _) _⟩
  | clo i t e b br bp be bx pl ee e0 hb c1 hbr cr hbp cp hp hbe ce hbx cx hee he =>
    go_enter Tryz.func62, Tryz.ntmps62
    go_wp2_with fail
    exact ⟨rfl, rfl, (Below.refl _ w).alloc (Nat.le_refl _) _⟩
theorem two_of {w : World} {b : Nat} {z0 z1 : Value} {t : TypeId} (h : w.heap[b]? = some (.cells #[z0, z1] t (0, 0))) : w.cell? ⟨b, 0, none⟩ = some z0 ∧ w.cell? ⟨b, 1, none⟩ = some z1 ∧ w.frozen? ⟨b, 0, none⟩ = false ∧ w.frozen? ⟨b, 1, none⟩ = false := by
  refine ⟨?_, ?_, ?_, ?_⟩ <;> simp [World.cell?, World.frozen?, h]
/-- What a name is. -/
def FindP (r : Nat) (S : Nat → Prop) (w0 : World) (c : UInt8) (v : Vl) (B : Nat) (ep : Value) (w : World) : Prop := ∃ e, RepE r S w0 e ep ∧ e.find c = some v ∧ Below B w0 w
set_option maxHeartbeats 2000000 in
theorem valueOf_c (r : Nat) (S : Nat → Prop) (e : En) (ep : Value) (c : UInt8) (v : Vl) (w : World) (h : RepE r S w e ep) (hf : e.find c = some v) (hS : ∀ g, S g → g < w.heap.size) :
    Calls Tryz.prog 57 #[ep, .int .u8 (c.toNat : Int)] w fun u w' => ∃ x, u = .returned x ∧ RepV r S w v x ∧ Below w.heap.size w w' := by
  go_enter Tryz.func57, Tryz.ntmps57
  go_wp2_with fail
  have z : ∃ c0 c1, (w.alloc (.cells #[.int .i64 0, .nilIface] 106)).heap[w.heap.size]? = some (.cells #[c0, c1] 106 (0, 0)) := ⟨_, _, World.alloc_heap_new w _⟩
  have hb := (Below.refl w.heap.size w).alloc (Nat.le_refl _) (.cells #[.int .i64 0, .nilIface] 106)
  generalize w.alloc (.cells #[.int .i64 0, .nilIface] 106) = W1 at z hb ⊢
  obtain ⟨z0, z1, hz⟩ := z
  obtain ⟨y0, y1, y2, y3⟩ := two_of hz
  go_loopw [0] (fun p wr => FindP r S w c v w.heap.size p W1 ∧ wr = W1) (fun p _ => ptrN p)
  case atStart => exact ⟨⟨e, h, hf, hb⟩, rfl⟩
  case round =>
    obtain ⟨⟨e, h, hf, hb⟩, rfl⟩ := hrel
    cases h with
    | nil => simp [En.find] at hf
    | cons d u e b a0 a1 e0 hS0 c0 c1 c2 c3 ho hv he =>
      have hlt := hS b hS0
      have d0 := (hb.cell (p := ⟨b, 0, none⟩) hlt).trans c0
      have d1 := (hb.cell (p := ⟨b, 1, none⟩) hlt).trans c1
      have d2 := (hb.cell (p := ⟨b, 2, none⟩) hlt).trans c2
      have d3 := (hb.cell (p := ⟨b, 3, none⟩) hlt).trans c3
      clear c0 c1 c2 c3
      obtain ⟨_, _, hx, ⟨m, hm⟩, ⟨q, hq⟩⟩ := hv.form
      simp only [Value.agg.injEq, Array.mk.injEq, List.cons.injEq, and_true] at hx
      obtain ⟨q2, hq2⟩ := he.form
      obtain ⟨rfl, rfl⟩ := hx
      subst hm hq hq2
      by_cases hc : d = c
      · have hd : ((d.toNat : Int) == (c.toNat : Int)) = true := by rw [hc]; simp
        simp only [En.find, if_pos hc] at hf
        injection hf with hf
        subst hf
        clear he
        go_wp2_with fail
        refine bodyPost_ret (v := .agg #[.int .i64 m, IF q]) (by simp [results, Tryz.results57, go_sem, y0, y1]) rfl ?_
        exact ⟨_, rfl, hv, (hb.setCell (p := ⟨w.heap.size, 0, none⟩) (Nat.le_refl _) _).setCell (p := ⟨w.heap.size, 1, none⟩) (Nat.le_refl _) _⟩
      · have hd : ((d.toNat : Int) == (c.toNat : Int)) = false := by
          rw [beq_eq_false_iff_ne]
          intro e; exact hc (UInt8.toNat_inj.1 (by omega))
        simp only [En.find, if_neg hc] at hf
        go_wp2_with fail
        exact ⟨⟨⟨e, he, hf, hb⟩, trivial⟩, by show ptrN (.pointer q2) < b + 1; omega⟩
end Go.Proofs.YtjfhncfbejephaaGreatDoor

/- The program's places: all parts of a term where they stand. -/
namespace Go.Proofs.YtjfhncfbejephaaGreatDoor
open Go.RowKit Go.Shelf
open Ff
set_option linter.unusedVariables false
variable {X : Nat → Prop}

/-- What lay elsewhere than in r and in a row lies as it lay. -/
structure KepP (r : Nat) (cv : Value) (w : World) (cv' : Value) (w' : World) : Prop where
  os : w'.os = w.os
  tape : w'.tape = w.tape
  output : w'.output = w.output
  size : w.heap.size ≤ w'.heap.size
  block : ∀ j, j < w.heap.size → j ≠ r → cv.ownBlock ≠ some j → w'.heap[j]? = w.heap[j]?
  own : ∀ j, cv'.ownBlock = some j → cv.ownBlock = some j ∨ w.heap.size ≤ j
theorem KepP.refl (r : Nat) (cv : Value) (w : World) : KepP r cv w cv w := ⟨rfl, rfl, rfl, Nat.le_refl _, fun _ _ _ _ => rfl, fun _ h => .inl h⟩
theorem KepP.trans {r : Nat} {c0 c1 c2 : Value} {w0 w1 w2 : World} (h : KepP r c0 w0 c1 w1) (k : KepP r c1 w1 c2 w2) : KepP r c0 w0 c2 w2 := by
  refine ⟨k.os.trans h.os, k.tape.trans h.tape, k.output.trans h.output, Nat.le_trans h.size k.size, fun j hj hr hc => ?_, fun j hj => ?_⟩
  · rw [k.block j (Nat.lt_of_lt_of_le hj h.size) hr (fun e => (h.own j e).elim hc (fun h => by omega))]
    exact h.block j hj hr hc
  · rcases k.own j hj with h1 | h1
    · exact h.own j h1
    · exact .inr (Nat.le_trans h.size h1)
theorem KepP.below {r : Nat} {cv : Value} {w w' : World} (h : Below w.heap.size w w') : KepP r cv w cv w' := ⟨h.os, h.tape, h.output, h.size, fun j hj _ _ => h.block j hj, fun _ h => .inl h⟩
def SafeP (X : Nat → Prop) (r : Nat) (cv : Value) (w : World) (g : Nat) : Prop := g < w.heap.size ∧ g ≠ r ∧ cv.ownBlock ≠ some g ∧ ¬ X g
theorem KepP.safe {r : Nat} {c0 c1 : Value} {w0 w1 : World} (h : KepP r c0 w0 c1 w1) {g : Nat} (hs : SafeP X r c0 w0 g) : w1.heap[g]? = w0.heap[g]? ∧ SafeP X r c1 w1 g :=
  ⟨h.block g hs.1 hs.2.1 hs.2.2.1, Nat.lt_of_lt_of_le hs.1 h.size, hs.2.1, fun e => (h.own g e).elim hs.2.2.1 (fun k => by have := hs.1; omega), hs.2.2.2⟩
theorem kepP_set {r : Nat} {cv c0 : Value} {w0 w : World} (h : KepP r c0 w0 cv w) (k : Nat) (u : Value) : KepP r c0 w0 cv (w.setCell ⟨r, k, none⟩ u) := by
  refine h.trans ⟨rfl, rfl, rfl, by simp, fun j _ hr _ => Below.heap_setCell _ _ _ _ hr, fun j h => .inl h⟩
theorem nodup_le {α : Type} [DecidableEq α] : ∀ (l m : List α), l.Nodup → (∀ x ∈ l, x ∈ m) → l.length ≤ m.length
  | [], m, _, _ => Nat.zero_le _
  | a :: l, m, hn, hs => by
    have ha := hs a (by simp)
    have hn2 := List.nodup_cons.1 hn
    have := nodup_le l (m.erase a) hn2.2 (fun x hx => (List.mem_erase_of_ne (fun e => hn2.1 (by rw [← e]; exact hx))).2 (hs x (by simp [hx])))
    rw [List.length_erase_of_mem ha] at this
    have : 0 < m.length := List.length_pos_of_mem ha
    simp only [List.length_cons]
    omega
theorem tally_count {w : World} {b n : Nat} {D : DataW Unit} (hown : w.ownsMap Tryz.prog 5 (plainElem Tryz.prog 3) b n D) {m : UInt8 → Nat} (h : (∀ c, D.atKey (lk c) (.lit (.int .i64 0)) = .lit (.int .i64 (m c : Int)) ∧ Maps.has D (lk c) = decide (m c ≠ 0)) ∧ ∀ kl, Maps.has D kl = true → ∃ c, kl = lk c) (hl : ∀ c, m c ≠ 0 → c ∈ letters) :
    Maps.size D = (namesIn m).length := by
  obtain ⟨es, rfl, hnd, hk⟩ := hown.entries Tryz.law8
  have _ : DecidableEq Lit := fun a b => Classical.propDecidable _
  have n1 : (es.map (·.1)).Nodup := List.pairwise_map.2 hnd
  have n2 : ((namesIn m).map lk).Nodup := by
    refine List.pairwise_map.2 (List.Pairwise.imp (fun {a b} (hne : a ≠ b) (e : lk a = lk b) => hne (lk_inj e)) ?_)
    exact List.Pairwise.filter _ (by decide : letters.Nodup)
  have s1 : ∀ x ∈ es.map (·.1), x ∈ (namesIn m).map lk := fun x hx => by
    obtain ⟨p, hp, rfl⟩ := List.mem_map.1 hx
    have hh : Maps.has (.map es) p.1 = true := by
      rw [Maps.has_eq, List.any_eq_true]
      exact ⟨p, hp, WideAt.sameKey_self (hk p hp)⟩
    obtain ⟨c, hc⟩ := h.2 _ hh
    have h2 := (h.1 c).2
    rw [← hc, hh] at h2
    have h3 : m c ≠ 0 := by simpa using h2.symm
    rw [hc]
    exact List.mem_map.2 ⟨c, List.mem_filter.2 ⟨hl c h3, by simpa using h3⟩, rfl⟩
  have s2 : ∀ x ∈ (namesIn m).map lk, x ∈ es.map (·.1) := fun x hx => by
    obtain ⟨c, hc, rfl⟩ := List.mem_map.1 hx
    have h3 : m c ≠ 0 := by simpa using (List.mem_filter.1 hc).2
    have h2 := (h.1 c).2
    rw [decide_eq_true h3, Maps.has_eq, List.any_eq_true] at h2
    obtain ⟨p, hp, he⟩ := h2
    exact List.mem_map.2 ⟨p, hp, WideAt.sameKey_eq he⟩
  have h1 := nodup_le _ _ n1 s1
  have h2 := nodup_le _ _ n2 s2
  simp only [List.length_map] at h1 h2
  show es.length = _
  omega
/-- 'len' of a tally. -/
theorem Tally.count {w : World} {b n : Nat} {m : UInt8 → Nat} (h : Tally w b n m) (hl : ∀ c, m c ≠ 0 → c ∈ letters) (t : TypeId) : (Builtin.len_ #[98] t #[.map (some b)]).run Tryz.prog w = .ok (.int .i64 ((namesIn m).length : Nat)) w := by
  obtain ⟨D, hown, h1⟩ := h
  rw [← tally_count hown h1 hl]
  exact hown.len Tryz.underTally t
theorem Tryz.infoPl : (Tryz.prog.info? 108).map (fun i => (i.zero, i.size, i.bytes)) = some (some (.pointer none), 1, 8) := by kernel_rfl
/-- A place in the making: k of its kids are there. -/
structure PlAt (t : Tm) (i : Nat) (w0 : World) (b : Nat) (k : Nat) (kv : Value) (ps : List Value) (W : World) : Prop where
  cells : W.heap[b]? = some (.cells #[.iface (ty t) (pl t), .int .i64 (i : Int), .int .i64 ((i + (before t k).length : Nat) : Int), kv, .int .i64 0] 135 (0, 0))
  row : W.ownsRow (b + 1) 108 1 kv k ps
  kids : ∀ j s, j < k → t.kids[j]? = some s → ∃ pj, ps[j]? = some pj ∧ PlaceR (fun g => w0.heap.size ≤ g ∧ SafeP NoX b kv W g) W s (i + (before t j).length) pj
  below : Below w0.heap.size w0 W
  at_ : w0.heap.size ≤ b
/-- What a place comes to. -/
def PlacePost (t : Tm) (i : Nat) (w : World) (e : Ending) (w' : World) : Prop :=
  ∃ b, e = .returned (ptr b) ∧ PlaceR (fun g => w.heap.size ≤ g ∧ g < w'.heap.size) w' t i (ptr b) ∧ w'.cell? ⟨b, 2, none⟩ = some (.int .i64 ((i + (parts t).length : Nat) : Int)) ∧ Below w.heap.size w w'
def PlaceC (n : Nat) : Prop := ∀ (t : Tm) (i : Nat) (w : World), t.depth ≤ n → n ≤ 4000 → i + (parts t).length ≤ 4000 → t.good → Calls Tryz.prog 43 #[.int .i64 (i : Int), enc t] w (PlacePost t i w)
theorem row_set_e {w : World} {r : Nat} {cv : Value} {e : TypeId} {n : Nat} {xs : List Value} (h : w.ownsRow (r + 1) e 1 cv n xs) (k : Nat) (u : Value) : (w.setCell ⟨r, k, none⟩ u).ownsRow (r + 1) e 1 cv n xs := by
  obtain ⟨h1, h2 | ⟨g, cap, cur, hv, hb, hh, rest⟩⟩ := h
  · exact ⟨h1, .inl h2⟩
  · exact ⟨h1, .inr ⟨g, cap, cur, hv, hb, by rw [Below.heap_setCell _ _ _ _ (by show g ≠ r; omega)]; exact hh, rest⟩⟩
theorem row_not {w : World} {r : Nat} {cv : Value} {e : TypeId} {n : Nat} {xs : List Value} (h : w.ownsRow (r + 1) e 1 cv n xs) : cv.ownBlock ≠ some r := by
  rcases h.2 with ⟨h2, _⟩ | ⟨g, cap, cur, hv, hb, _⟩
  · subst h2; simp [Value.ownBlock]
  · subst hv; simp [Value.ownBlock]; omega
theorem kepP_grown {r : Nat} {cv cv' : Value} {w w' : World} (h : w.grownBy w' cv.ownBlock) (ho : cv'.ownBlock = cv.ownBlock ∨ cv'.ownBlock = some w.heap.size) : KepP r cv w cv' w' :=
  ⟨h.os, h.tape, h.output, h.size, fun j hj _ hc => h.block j hj (fun e => hc e.symm), fun j hj => ho.elim (fun e => .inl (by rw [← e]; exact hj)) (fun e => .inr (by rw [e] at hj; injection hj with hj; omega))⟩
theorem five_of {w : World} {b : Nat} {z0 z1 z2 z3 z4 : Value} {t : TypeId} (h : w.heap[b]? = some (.cells #[z0, z1, z2, z3, z4] t (0, 0))) : w.cell? ⟨b, 0, none⟩ = some z0 ∧ w.cell? ⟨b, 1, none⟩ = some z1 ∧ w.cell? ⟨b, 2, none⟩ = some z2 ∧ w.cell? ⟨b, 3, none⟩ = some z3 ∧ w.cell? ⟨b, 4, none⟩ = some z4 ∧ ∀ k, w.frozen? ⟨b, k, none⟩ = false := by
  refine ⟨?_, ?_, ?_, ?_, ?_, fun k => ?_⟩ <;> simp [World.cell?, World.frozen?, h]
theorem kidsV {w : World} {r : Nat} {cv : Value} {e : TypeId} {n : Nat} {xs : List Value} (h : w.ownsRow r e 1 cv n xs) : ∃ a c, cv = .slice a n c := by
  rcases h.2 with ⟨h2, h3⟩ | ⟨g, cap, cur, hv, _⟩
  · exact ⟨none, 0, by rw [h2, h3]⟩
  · exact ⟨_, _, hv⟩
theorem below_kep {B n : Nat} {kv kv' : Value} {w w' : World} (h : KepP B kv w kv' w') (hB : n ≤ B) (hn : n ≤ w.heap.size) (ho : ∀ j, kv.ownBlock = some j → n ≤ j) : Below n w w' :=
  ⟨h.os, h.tape, h.output, h.size, fun j hj => h.block j (by omega) (by omega) (fun e => by have := ho j e; omega)⟩
/-- One kid more. -/
theorem plat_next {t s : Tm} {i k : Nat} {w wr w2 w3 w4 : World} {kv kv' : Value} {ps : List Value} {b2 idx : Nat} (hP : PlAt t i w w.heap.size k kv ps wr) (hs : t.kids[k]? = some s) (hidx : i + (before t k).length = idx)
    (hb2 : Below wr.heap.size wr w2) (hb3 : Below w2.heap.size w2 w3) (hp2 : PlaceR (fun g => wr.heap.size ≤ g ∧ g < w2.heap.size) w2 s idx (ptr b2)) (hrow4 : w4.ownsRow (w.heap.size + 1) 108 1 kv' (k + 1) (ps ++ [ptr b2])) (hK4 : KepP w.heap.size kv w3 kv' w4)
    (hc4 : w4.heap[w.heap.size]? = wr.heap[w.heap.size]?) (hlb : w.heap.size < wr.heap.size) :
    PlAt t i w w.heap.size (k + 1) kv' (ps ++ [ptr b2]) ((w4.setCell ⟨w.heap.size, 3, none⟩ kv').setCell ⟨w.heap.size, 2, none⟩ (.int .i64 ((idx : Int) + ((parts s).length : Int)))) ∧ KepP w.heap.size kv wr kv' ((w4.setCell ⟨w.heap.size, 3, none⟩ kv').setCell ⟨w.heap.size, 2, none⟩ (.int .i64 ((idx : Int) + ((parts s).length : Int)))) := by
  have KB := kepP_set (kepP_set ((KepP.below (r := w.heap.size) (cv := kv) hb3).trans hK4) 3 kv') 2 (.int .i64 ((idx : Int) + ((parts s).length : Int)))
  have KA := (KepP.below (r := w.heap.size) (cv := kv) hb2).trans KB
  have hown : ∀ j, kv.ownBlock = some j → w.heap.size + 1 ≤ j ∧ j < wr.heap.size := fun j hj => World.ownsRow.lt hP.row j hj
  refine ⟨⟨?_, row_set_e (row_set_e hrow4 _ _) _ _, fun j s' hj hs' => ?_, hP.below.trans (below_kep KA (Nat.le_refl _) (by omega) (fun j hj => by have := hown j hj; omega)), Nat.le_refl _⟩, KA⟩
  · have e : ((idx : Int) + ((parts s).length : Int)) = ((i + (before t (k + 1)).length : Nat) : Int) := by rw [before_succ t k s hs, List.length_append]; omega
    rw [heap_setCell_same _ _ _ _ _ _ (heap_setCell_same _ _ _ _ _ _ (hc4.trans hP.cells)), e]
    simp
  · have hlen := hP.row.1
    by_cases hjk : j < k
    · obtain ⟨pj, h1, h2⟩ := hP.kids j s' hjk hs'
      refine ⟨pj, by rw [List.getElem?_append_left (by omega)]; exact h1, h2.keep (fun g hg => ?_)⟩
      have := KA.safe hg.2
      exact ⟨this.1, hg.1, this.2⟩
    · obtain rfl : j = k := by omega
      rw [hs] at hs'
      injection hs' with hs'
      subst hs'
      refine ⟨ptr b2, by rw [List.getElem?_append_right (by omega)]; simp [show ps.length = j by omega], ?_⟩
      rw [hidx]
      refine hp2.keep (fun g hg => ?_)
      have hsf : SafeP NoX w.heap.size kv w2 g := ⟨hg.2, by omega, fun e => by have := hown g e; omega, id⟩
      have := KB.safe hsf
      exact ⟨this.1, by omega, this.2⟩
theorem plat_done {t : Tm} {i : Nat} {w W W' : World} {kv : Value} {ps : List Value} (hP : PlAt t i w w.heap.size t.kids.length kv ps W) (hK : KepP w.heap.size kv W kv W') (n : Nat) (hn : n = if isFun t then (sfree t).length else 0)
    (hc : W'.heap[w.heap.size]? = some (.cells #[.iface (ty t) (pl t), .int .i64 (i : Int), .int .i64 ((i + (before t t.kids.length).length : Nat) : Int), kv, .int .i64 (n : Int)] 135 (0, 0))) (hlb : w.heap.size < W.heap.size) (ho : ∀ j, kv.ownBlock = some j → W'.heap[j]? = W.heap[j]?) :
    PlacePost t i w (.returned (ptr w.heap.size)) W' := by
  obtain ⟨a0, a1, a2, a3, a4, _⟩ := five_of hc
  have hown : ∀ j, kv.ownBlock = some j → w.heap.size + 1 ≤ j ∧ j < W.heap.size := fun j hj => World.ownsRow.lt hP.row j hj
  have hlen := hP.row.1
  refine ⟨_, rfl, ?_, by rw [a2, before_all], hP.below.trans (below_kep hK (Nat.le_refl _) (by omega) (fun j hj => by have := hown j hj; omega))⟩
  have hrow : ∃ g cap, (t.kids ≠ [] → kv = .slice (some ⟨g, 0, none⟩) t.kids.length cap ∧ w.heap.size + 1 ≤ g ∧ g < W.heap.size) ∧ ∀ j pj, j < t.kids.length → ps[j]? = some pj → W.cell? ⟨g, j, none⟩ = some pj := by
    rcases hP.row.2 with ⟨h2, h3⟩ | ⟨g, cap, cur, hv, hb, hh, _, _, _, ht⟩
    · exact ⟨0, 0, fun h => absurd (List.eq_nil_of_length_eq_zero h3) h, fun j pj hj => by omega⟩
    · refine ⟨g, cap, fun _ => ⟨hv, hb, (Array.getElem?_eq_some_iff.1 hh).1⟩, fun j pj hj hpj => ?_⟩
      have h := hP.row.cells (g := g) (by rw [hv]; rfl) j pj hpj
      rwa [show (⟨g, 0, none⟩ : Addr).add j = ⟨g, j, none⟩ by simp [Addr.add]; omega] at h
  obtain ⟨g, cap, hg, hcell⟩ := hrow
  have key : ∀ j s, t.kids[j]? = some s → ∃ pj, ps[j]? = some pj ∧ PlaceR (fun g => w.heap.size ≤ g ∧ g < W'.heap.size) W' s (i + (before t j).length) pj := fun j s hs => by
    obtain ⟨pj, h1, h2⟩ := hP.kids j s (List.getElem?_eq_some_iff.1 hs).1 hs
    refine ⟨pj, h1, h2.keep (fun g hg => ?_)⟩
    have := hK.safe hg.2
    exact ⟨this.1, hg.1, this.2.1⟩
  refine .mk t i w.heap.size g cap kv (fun j => (ps[j]?).getD undef) ⟨Nat.le_refl _, Nat.lt_of_lt_of_le hlb hK.size⟩ (by rw [a0, enc_ty]) a1 a3 (by rw [a4, hn]; split <;> simp) (fun h => ?_) (fun j s hs => ?_) (fun j s hs => ?_)
  · obtain ⟨h1, h2, h3⟩ := hg h
    exact ⟨h1, by omega, Nat.lt_of_lt_of_le h3 hK.size⟩
  · obtain ⟨pj, h1, _⟩ := key j s hs
    have hj := (List.getElem?_eq_some_iff.1 hs).1
    obtain ⟨h3, h4, h5⟩ := hg (fun e => by rw [e] at hs; simp at hs)
    have h2 := hcell j pj hj h1
    rw [h1]
    exact (World.cell?_of_block (a := ⟨g, j, none⟩) (ho g (by rw [h3]; rfl))).trans h2
  · obtain ⟨pj, h1, h2⟩ := key j s hs
    rw [h1]
    exact h2
theorem one_new (W : World) (v : Value) (t : TypeId) : ∀ j u, [v][j]? = some u → (W.alloc (.cells #[v] t)).cell? ((⟨W.heap.size, 0, none⟩ : Addr).add j) = some u := by
  intro j u hj
  cases j with
  | zero => exact (cell_new W [v] t 0).trans hj
  | succ j => simp at hj
theorem wpList_append_ptr {w : World} {ops : Array Oper} {rest : List Oper} {o : Oper} {a : Act} {Q : Exit → Act → World → Prop} {B : Nat} {kv : Value} {k : Nat} {ps : List Value} {b2 : Nat} {i : TypeInfo}
    (hg : o.guard = none) (s x : Operand) (hop : o.op = Op.call { callee := Callee.builtin Builtin.append, args := #[s, x], argTypes := #[133, 133] })
    (hi : Tryz.prog.info? 108 = some i) (hz0 : i.zero = some (.pointer none)) (hz1 : i.size = 1) (hz2 : i.bytes = 8) (hs : a.eval s = kv) (hrow : w.ownsRow (B + 1) 108 1 kv k ps) (ad : Addr) (hx : a.eval x = .slice (some ad) 1 1) (hc : ∀ j u, [ptr b2][j]? = some u → w.cell? (ad.add j) = some u) (hB : B + 1 ≤ w.heap.size) (hk : k ≤ 4000)
    (hK : ∀ v' w', w'.ownsRow (B + 1) 108 1 v' (k + 1) (ps ++ [ptr b2]) → KepP B kv w v' w' → w'.heap[B]? = w.heap[B]? → wpList Tryz.prog ops Q rest (a.put o.dst v') w') : wpList Tryz.prog ops Q (o :: rest) a w := by
  refine wpList_append_own_at w hg s x _ hop (B + 1) 108 i _ 1 8 Tryz.underlying133 hi hz0 hz1 hz2 rfl (by decide) kv k ps hs hrow ad 1 1 [ptr b2] hx rfl hc (by simp [Value.oneCell']) (by unfold maxLen; omega) (by omega) hB ?_
  intro v' w' hown hgr _ ho
  exact hK v' w' hown (kepP_grown hgr ho) (hgr.block B (by omega) (fun e => row_not hrow e.symm))
set_option maxRecDepth 100000 in
set_option maxHeartbeats 4000000 in
theorem place_step (n : Nat) (ih : PlaceC n) : PlaceC (n + 1) := by
  intro t i w ht hn hpp hgd
  have hk3 : t.kids.length ≤ 3 := by cases t <;> simp [Tm.kids]
  have e1 : IntKind.i64.wrap ((i : Int) + 1) = (i : Int) + 1 := by rw [IntKind.wrap_i64]; omega
  obtain ⟨i0, hi0, hz0, hz1, hz2⟩ := info_parts Tryz.infoPl
  rw [enc_ty t]
  go_enter Tryz.func43, Tryz.ntmps43
  have z := World.alloc_heap_new w (.cells #[.iface (ty t) (pl t), .int .i64 (i : Int), .int .i64 ((i : Int) + 1), .slice none 0 0, .int .i64 0] 135)
  have hb0 := (Below.refl w.heap.size w).alloc (Nat.le_refl _) (.cells #[.iface (ty t) (pl t), .int .i64 (i : Int), .int .i64 ((i : Int) + 1), .slice none 0 0, .int .i64 0] 135)
  have hs0 : w.heap.size < (w.alloc (.cells #[.iface (ty t) (pl t), .int .i64 (i : Int), .int .i64 ((i : Int) + 1), .slice none 0 0, .int .i64 0] 135)).heap.size := by simp
  generalize hW0 : w.alloc (.cells #[.iface (ty t) (pl t), .int .i64 (i : Int), .int .i64 ((i : Int) + 1), .slice none 0 0, .int .i64 0] 135) = W0 at z hb0 hs0
  go_wp2_with (refine wpList_invoke rfl _ _ (ty t) (pl t) rfl rfl (kf t) (kids_m t _ (by unfold KidsName; kernel_rfl) _) (kids_f t _) (fun v w' => SliceOf W0.heap.size w' v (t.kids.map enc) ∧ Below W0.heap.size W0 w') (by rw [← hW0]; exact kids_c t _) ?_; rintro x w1 ⟨hs, hb⟩; obtain ⟨a, rfl, hcell⟩ := hs.uni; clear hs; have HC := Lib.hid hcell; clear hcell)
  go_loopw [18] (fun j wr => ∃ (k : Nat) (kv : Value) (ps : List Value), k ≤ t.kids.length ∧ j = .int .i64 k ∧ PlAt t i w w.heap.size k kv ps wr ∧ KepP w.heap.size (.slice none 0 0) w1 kv wr) (fun j _ => t.kids.length - (intOf j).toNat)
  case atStart =>
    refine ⟨0, _, [], Nat.zero_le _, rfl, ⟨?_, ⟨rfl, .inl ⟨rfl, rfl⟩⟩, fun j s hj => by omega, hb0.trans (hb.mono hb0.size), Nat.le_refl _⟩, KepP.refl _ _ _⟩
    rw [hb.block _ hs0, z]
    simp [before]
  case round =>
    obtain ⟨k, kv, ps, hkl, rfl, hP, hK⟩ := hrel
    by_cases hlt : k < t.kids.length
    · obtain ⟨s, hs⟩ : ∃ s, t.kids[k]? = some s := ⟨_, List.getElem?_eq_getElem hlt⟩
      obtain ⟨g, rfl, hg1, hg2, hc⟩ := HC.out k (enc s) (by simp [hs])
      have hc2 := (World.cell?_of_block (a := ⟨g, k, none⟩) (hK.block g hg2 (by omega) (by simp [Value.ownBlock]))).trans hc
      obtain ⟨a0, a1, a2, a3, a4, af⟩ := five_of hP.cells
      have hbl := before_le t k
      have hbs := before_succ t k s hs
      have hpk := parts_kid_le (List.mem_of_getElem? hs)
      have hbl2 := before_le t (k + 1)
      rw [hbs, List.length_append] at hbl2
      have C := ih s (i + (before t k).length) wr (by have := kid_depth (List.mem_of_getElem? hs); omega) (by omega) (by omega) (Tm.kid_good hgd (List.mem_of_getElem? hs))
      have hbs2 : (before t (k + 1)).length = (before t k).length + (parts s).length := by rw [hbs, List.length_append]
      have hps := hP.row.1
      have HS := Lib.hid hs
      have HN := Lib.hid hbs2
      have HL := Lib.hid hbl2
      clear hs hc HC hbs hbs2 hbl2 z hW0
      generalize hidx : i + (before t k).length = idx at C a2
      have HX := Lib.hid hidx
      clear hidx
      go_wp2_with fail
      refine C.mono ?_
      rintro e w2 ⟨b2, rfl, hp2, hc22, hb2⟩
      have hlb : w.heap.size < wr.heap.size := by have := hK.size; have := hb.size; omega
      have f2 : w2.heap[w.heap.size]? = wr.heap[w.heap.size]? := hb2.block _ hlb
      obtain ⟨d0, d1, d2, d3, d4, df⟩ := five_of (f2.trans hP.cells)
      have hrow2 := World.ownsRow.kept (row := none) hP.row (grown_none hb2) (by rcases ho : Value.ownBlock kv with _ | j; exact .inl rfl; exact .inr (by simp))
      have hK2 := hK.trans (KepP.below hb2)
      have hlt2 : b2 < w2.heap.size := by cases hp2 with | mk _ _ _ _ _ _ _ hb _ _ _ _ _ _ _ => exact hb.2
      have hge2 : wr.heap.size ≤ b2 := by cases hp2 with | mk _ _ _ _ _ _ _ hb _ _ _ _ _ _ _ => exact hb.1
      clear C a0 a1 a2 a3 a4 af
      have hrow3 := World.ownsRow.kept (row := none) hrow2 (World.grownBy_alloc w2 (.cells #[ptr b2] 108) none) (by rcases ho : Value.ownBlock kv with _ | j; exact .inl rfl; exact .inr (by simp))
      have hkk : k ≤ 4000 := by omega
      have f3 : (w2.alloc (.cells #[ptr b2] 108)).heap[w.heap.size]? = w2.heap[w.heap.size]? := ((Below.refl _ w2).alloc (Nat.le_refl _) _).block _ (by have := hb2.size; omega)
      have hsafe : SafeP NoX w.heap.size kv (w2.alloc (.cells #[ptr b2] 108)) b2 := ⟨by simp; omega, by omega, fun e => by have := (World.ownsRow.lt hP.row b2 e).2; omega, id⟩
      have h22 : (w2.alloc (.cells #[ptr b2] 108)).cell? ⟨b2, 2, none⟩ = some (.int .i64 ((idx + (parts s).length : Nat) : Int)) := (((Below.refl _ w2).alloc (Nat.le_refl _) _).cell (p := ⟨b2, 2, none⟩) hlt2).trans hc22
      go_wp2_with (at_builtin; refine wpList_append_ptr rfl _ _ rfl hi0 hz0 hz1 hz2 rfl hrow3 ⟨w2.heap.size, 0, none⟩ rfl (one_new w2 _ _) (by simp; omega) hkk ?_; intro kv' w4 hrow4 hK4 hb4; obtain ⟨ka, kc, rfl⟩ := kidsV hrow4; obtain ⟨g0, g1, g2, g3, g4, gf⟩ := five_of (hb4.trans (f3.trans (f2.trans hP.cells))); have h42 := cell_keep (S := SafeP NoX w.heap.size kv (w2.alloc (.cells #[ptr b2] 108))) (S' := fun _ => True) (fun g hg => ⟨(hK4.safe hg).1, trivial⟩) hsafe h22; have hne : b2 ≠ w.heap.size := (by omega))
      obtain ⟨r1, r2⟩ := plat_next hP HS.out HX.out hb2 ((Below.refl _ w2).alloc (Nat.le_refl _) _) hp2 hrow4 hK4 (hb4.trans (f3.trans f2)) hlb
      exact ⟨⟨k + 1, _, _, by omega, by go_num, r1, hK.trans r2⟩, by simp [intOf]; omega⟩
    · obtain rfl : k = t.kids.length := by omega
      have hlb : w.heap.size < wr.heap.size := by have := hK.size; have := hb.size; omega
      have hIF := isFunction_c t wr
      obtain ⟨f, hf⟩ : ∃ f, isFun t = f := ⟨_, rfl⟩
      rw [hf] at hIF
      have HF := Lib.hid hf
      clear hf z hW0 HC
      cases f
      · go_wp2_with fail
        refine hIF.mono ?_
        rintro e w2 ⟨rfl, hb2⟩
        go_wp2_with fail
        go_ret
        refine plat_done hP (KepP.below hb2) 0 (by rw [HF.out]; rfl) ((hb2.block _ hlb).trans hP.cells) hlb (fun j hj => hb2.block j (World.ownsRow.lt hP.row j hj).2)
      · go_wp2_with fail
        refine hIF.mono ?_
        rintro e w2 ⟨rfl, hb2⟩
        have C := freeIn_c 4000 t w2 (by omega) (by omega) (by omega) hgd
        rw [enc_ty t] at C
        go_wp2_with fail
        refine C.mono ?_
        rintro e w3 ⟨bt, kt, rfl, hbt, hkt, hT, hb3⟩
        have hcount := fun ty => hT.count (fun c hc => free_letters hgd ((mem_free hgd c).2 hc)) ty
        rw [← free_names hgd] at hcount
        have f3 : w3.heap[w.heap.size]? = _ := (hb3.block _ (by have := hb2.size; omega)).trans ((hb2.block _ hlb).trans hP.cells)
        obtain ⟨g0, g1, g2, g3, g4, gf⟩ := five_of f3
        go_wp2_with fail
        go_ret
        refine plat_done hP (kepP_set ((KepP.below hb2).trans (KepP.below hb3)) _ _) (sfree t).length (by rw [HF.out]; rfl) ?_ hlb (fun j hj => ?_)
        · rw [heap_setCell_same _ _ _ _ _ _ f3]
          simp
        · have h1 := World.ownsRow.lt hP.row j hj
          rw [Below.heap_setCell _ _ _ _ (by show j ≠ w.heap.size; omega)]
          exact (hb3.block j (by have := hb2.size; omega)).trans (hb2.block j h1.2)
theorem place_c : ∀ n, PlaceC n
  | 0 => fun t _ _ ht => absurd ht (by have := t.depth_pos; omega)
  | n + 1 => place_step n (place_c n)
end Go.Proofs.YtjfhncfbejephaaGreatDoor

/- The runner's rows grow: its calls, and what it has enclosed. -/
namespace Go.Proofs.YtjfhncfbejephaaGreatDoor
open Go.RowKit Go.Shelf
open Ff
set_option linter.unusedVariables false
variable {X : Nat → Prop}
attribute [local irreducible] Calls

theorem nine_block {W : World} {B : Nat} {cs : List Value} {t : TypeId} (h : W.heap[B]? = some (.cells cs.toArray t (0, 0))) : ∀ j u, cs[j]? = some u → W.cell? ((⟨B, 0, none⟩ : Addr).add j) = some u := fun j u hu => by
  rw [show (⟨B, 0, none⟩ : Addr).add j = ⟨B, j, none⟩ by simp [Addr.add]; omega]
  simp [World.cell?, h, hu]
theorem alloc_at (W : World) (o : Obj) : (W.alloc o).heap[W.heap.size]? = some o := World.alloc_heap_new W o
theorem alloc_old {W : World} {o : Obj} {j : Nat} {c : Obj} (h : W.heap[j]? = some c) : (W.alloc o).heap[j]? = some c := by
  rw [Below.heap_alloc _ _ _ (Array.getElem?_eq_some_iff.1 h).1]; exact h
theorem row_not2 {w : World} {r sz : Nat} {cv : Value} {e : TypeId} {n : Nat} {xs : List Value} (h : w.ownsRow (r + 1) e sz cv n xs) : cv.ownBlock ≠ some r := by
  rcases h.2 with ⟨h2, _⟩ | ⟨g, cap, cur, hv, hb, _⟩
  · subst h2; simp [Value.ownBlock]
  · subst hv; simp [Value.ownBlock]; omega
theorem wp_cut {P : Program} {c : Code} {K : Act → World → Prop} {R : Exit → Act → World → Prop} {a : Act} {w : World} {G : Nat → Nat → Act} (Φ : Nat → Nat → World → Prop) (H : Nat → Nat → World → World)
    (h : c.wp P (Exit.then (fun a w' => ∃ g cr w5, Φ g cr w5 ∧ a = G g cr ∧ w' = H g cr w5) R) a w) (hk : ∀ g cr w5, Φ g cr w5 → K (G g cr) (H g cr w5)) : c.wp P (Exit.then K R) a w :=
  Code.wp_mono (fun e a w q => by cases e <;> first | exact q | (obtain ⟨g, cr, w5, q1, rfl, rfl⟩ := q; exact hk g cr w5 q1)) h
theorem row_up {b sz n : Nat} {e : TypeId} {v : Value} {xs : List Value} {W : World} (h : W.ownsRow b e sz v n xs) (o : Obj) : (W.alloc o).drew.ownsRow b e sz v n xs :=
  World.ownsRow.kept (row := none) h (grown_none (((Below.refl _ W).alloc (Nat.le_refl _) o).drew)) (by rcases ho : v.ownBlock with _ | j; exact .inl rfl; exact .inr (by simp))
theorem Tryz.infoInt : (Tryz.prog.info? 3).map (fun i => (i.zero, i.size, i.bytes)) = some (some (.int .i64 0), 1, 8) := by kernel_rfl
theorem step_app_int {ops : Array Oper} {o : Oper} {a : Act} {K : Act → World → Prop} {Q : Exit → Act → World → Prop} {E : Prop} (W : World) (hgd : o.guard = none) (s x : Operand)
    (ho : o.op = .call { callee := .builtin .append, args := #[s, x], argTypes := #[24, 24] })
    (base : Nat) (v : Value) (n : Nat) (xs : List Value) (hs : a.eval s = v) (hown : W.ownsRow base 3 1 v n xs) (ad : Addr) (news : List Value) (hx : a.eval x = .slice (some ad) 1 1) (hl : news.length = 1 * 1) (hnews : ∀ j u, news[j]? = some u → W.cell? (ad.add j) = some u) (h1 : ∀ u ∈ news, u.oneCell' = true)
    (hn : n ≤ 10000) (hbase : base ≤ W.heap.size)
    (h : ∀ g c w', w'.ownsRow base 3 1 (.slice (some ⟨g, 0, none⟩) (n + 1) c) (n + 1) (xs ++ news) → W.grownBy w' v.ownBlock → ((Value.slice (some ⟨g, 0, none⟩) (n + 1) c).ownBlock = v.ownBlock ∨ (Value.slice (some ⟨g, 0, none⟩) (n + 1) c).ownBlock = some W.heap.size) → K (a.put o.dst (.slice (some ⟨g, 0, none⟩) (n + 1) c)) w') :
    if Region.wanted o (yielded ops a.tmps) = true then Oper.wp Tryz.prog o a W K Q else E := by
  obtain ⟨i0, hi0, hz0, hz1, hz2⟩ := info_parts Tryz.infoInt
  have hw : Region.wanted o (yielded ops a.tmps) = true := by simp [Region.wanted, hgd]
  rw [if_pos hw]
  obtain ⟨v', w', hr, h2, h3, h4, h5⟩ := run_append_own_at (P := Tryz.prog) W base 24 o.type 3 i0 _ 1 8 Tryz.underlying24 hi0 hz0 hz1 hz2 rfl (by decide) v n xs hown ad 1 1 news hl hnews h1 (by unfold maxLen; omega) (by omega) hbase
  obtain ⟨g, c, rfl, _, _⟩ := h2.form (by omega)
  unfold Oper.wp execOp
  simp only [ho, resolve, invoke, builtin, Sem.run_bind, Sem.run_pure, Result.andThen_ok, List.map_toArray, List.map_cons, List.map_nil, hs, hx, hr]
  exact h g c w' h2 h3 h5
theorem Tryz.infoPair : (Tryz.prog.info? 51).map (fun i => (i.zero, i.size, i.bytes)) = some (some (.agg #[.int .i64 0, .int .i64 0]), 2, 16) := by kernel_rfl
theorem step_app_pair {ops : Array Oper} {o : Oper} {a : Act} {K : Act → World → Prop} {Q : Exit → Act → World → Prop} {E : Prop} (W : World) (hgd : o.guard = none) (s x : Operand)
    (ho : o.op = .call { callee := .builtin .append, args := #[s, x], argTypes := #[47, 47] })
    (base : Nat) (v : Value) (n : Nat) (xs : List Value) (hs : a.eval s = v) (hown : W.ownsRow base 51 2 v n xs) (ad : Addr) (news : List Value) (hx : a.eval x = .slice (some ad) 1 1) (hl : news.length = 1 * 2) (hnews : ∀ j u, news[j]? = some u → W.cell? (ad.add j) = some u) (h1 : ∀ u ∈ news, u.oneCell' = true)
    (hn : n ≤ 10000) (hbase : base ≤ W.heap.size)
    (h : ∀ g c w', w'.ownsRow base 51 2 (.slice (some ⟨g, 0, none⟩) (n + 1) c) (n + 1) (xs ++ news) → W.grownBy w' v.ownBlock → ((Value.slice (some ⟨g, 0, none⟩) (n + 1) c).ownBlock = v.ownBlock ∨ (Value.slice (some ⟨g, 0, none⟩) (n + 1) c).ownBlock = some W.heap.size) → K (a.put o.dst (.slice (some ⟨g, 0, none⟩) (n + 1) c)) w') :
    if Region.wanted o (yielded ops a.tmps) = true then Oper.wp Tryz.prog o a W K Q else E := by
  obtain ⟨i0, hi0, hz0, hz1, hz2⟩ := info_parts Tryz.infoPair
  have hw : Region.wanted o (yielded ops a.tmps) = true := by simp [Region.wanted, hgd]
  rw [if_pos hw]
  obtain ⟨v', w', hr, h2, h3, h4, h5⟩ := run_append_own_at (P := Tryz.prog) W base 47 o.type 51 i0 _ 2 16 Tryz.underlying47 hi0 hz0 hz1 hz2 rfl (by decide) v n xs hown ad 1 1 news hl hnews h1 (by unfold maxLen; omega) (by omega) hbase
  obtain ⟨g, c, rfl, _, _⟩ := h2.form (by omega)
  unfold Oper.wp execOp
  simp only [ho, resolve, invoke, builtin, Sem.run_bind, Sem.run_pure, Result.andThen_ok, List.map_toArray, List.map_cons, List.map_nil, hs, hx, hr]
  exact h g c w' h2 h3 h5
theorem RunAt.below {r : Nat} {cv : Rw} {w w' : World} {s : St} (h : RunAt X r cv w s) (hb : Below w.heap.size w w') : RunAt X r cv w' s :=
  ⟨h.cells.imp fun k q => (hb.block _ h.lt).trans q, World.ownsRow.kept (row := none) h.row (grown_none hb) (by rcases ho : cv.c.ownBlock with _ | j; exact .inl rfl; exact .inr (by simp)), World.ownsRow.kept (row := none) h.rowD (grown_none hb) (by rcases ho : cv.d.ownBlock with _ | j; exact .inl rfl; exact .inr (by simp)), h.len, h.sep, fun g hg => Nat.lt_of_lt_of_le (h.priv g hg) hb.size⟩
theorem grown_block {W w5 : World} {o : Obj} {row : Option Nat} (hg : (W.alloc o).drew.grownBy w5 row) {b : Nat} (hb : b < W.heap.size) (hn : some b ≠ row) : w5.heap[b]? = W.heap[b]? := by
  have hz : (W.alloc o).drew.heap.size = W.heap.size + 1 := by simp
  exact (hg.block b (by omega) hn).trans (((Below.refl _ W).alloc (Nat.le_refl _) o).drew.block b hb)
/-- One closure more is noted. -/
theorem RunAt.addEncl {r : Nat} {cv : Rw} {d' : Value} {W w5 : World} {s : St} {o : Obj} {j : Nat} (hR : RunAt X r cv W s) (hrow : w5.ownsRow (r + 1) 3 1 d' (s.encl.length + 1) (intsV s.encl ++ [.int .i64 (j : Int)])) (hg : (W.alloc o).drew.grownBy w5 cv.d.ownBlock) (ho : d'.ownBlock = cv.d.ownBlock ∨ d'.ownBlock = some (W.alloc o).drew.heap.size) :
    RunAt X r ⟨cv.c, d'⟩ (w5.setCell ⟨r, 8, none⟩ d') { s with encl := s.encl ++ [j] } ∧ Kep r cv W ⟨cv.c, d'⟩ (w5.setCell ⟨r, 8, none⟩ d') := by
  obtain ⟨k, hc⟩ := hR.cells
  have hr := hR.lt
  have hz : (W.alloc o).drew.heap.size = W.heap.size + 1 := by simp
  have hsz := hg.size
  have hrh : w5.heap[r]? = W.heap[r]? := grown_block hg hr (fun e => row_not2 hR.rowD e.symm)
  have hown : ∀ m, cv.own m → m < W.heap.size := fun m hm => (hR.owns m hm).2
  have hC : w5.ownsRow (r + 1) 51 2 cv.c s.called.length (pairsV s.froms s.called) := World.ownsRow.kept (row := cv.d.ownBlock) (row_up hR.row o) hg (by
    rcases ha : cv.c.ownBlock with _ | m
    · exact .inl rfl
    · exact .inr (fun e => hR.sep m ha e.symm))
  refine ⟨⟨⟨k, ?_⟩, row_set_r hC 8 d', row_set_r (by simpa [intsV] using hrow) 8 d', hR.len, fun m hm hd => ?_, fun g hg2 => by have := hR.priv g hg2; simp; omega⟩, ?_⟩
  · rw [heap_setCell_same _ _ _ _ _ _ (hrh.trans hc)]
    simp [runC]
  · rcases ho with h | h
    · exact hR.sep m hm (by rw [← h]; exact hd)
    · rw [h] at hd; injection hd with hd; have := hown m (.inl hm); omega
  · refine kep_set (cv := ⟨cv.c, d'⟩) (c0 := cv) (w0 := W) (w := w5) ⟨hg.os, hg.tape, hg.output, by omega, fun m hm hr hc => grown_block hg hm (fun e => hc (.inr e.symm)), fun m hm => ?_⟩ 8 d'
    rcases hm with hm | hm
    · exact .inl (.inl hm)
    · rcases ho with h | h
      · exact .inl (.inr (by rw [← h]; exact hm))
      · have hm : d'.ownBlock = some m := hm
        rw [h] at hm; injection hm with hm; exact .inr (by omega)
/-- One call more is noted. -/
theorem RunAt.addCall {r : Nat} {cv : Rw} {c' : Value} {W w5 : World} {s : St} {o : Obj} {p j : Nat} (hR : RunAt X r cv W s) (hrow : w5.ownsRow (r + 1) 51 2 c' (s.called.length + 1) (pairsV s.froms s.called ++ [.int .i64 (p : Int), .int .i64 (j : Int)])) (hg : (W.alloc o).drew.grownBy w5 cv.c.ownBlock) (ho : c'.ownBlock = cv.c.ownBlock ∨ c'.ownBlock = some (W.alloc o).drew.heap.size) :
    RunAt X r ⟨c', cv.d⟩ (w5.setCell ⟨r, 7, none⟩ c') { s with called := s.called ++ [j], froms := s.froms ++ [p] } ∧ Kep r cv W ⟨c', cv.d⟩ (w5.setCell ⟨r, 7, none⟩ c') := by
  obtain ⟨k, hc⟩ := hR.cells
  have hr := hR.lt
  have hz : (W.alloc o).drew.heap.size = W.heap.size + 1 := by simp
  have hsz := hg.size
  have hrh : w5.heap[r]? = W.heap[r]? := grown_block hg hr (fun e => row_not2 hR.row e.symm)
  have hown : ∀ m, cv.own m → m < W.heap.size := fun m hm => (hR.owns m hm).2
  have hD : w5.ownsRow (r + 1) 3 1 cv.d s.encl.length (intsV s.encl) := World.ownsRow.kept (row := cv.c.ownBlock) (row_up hR.rowD o) hg (by
    rcases ha : cv.d.ownBlock with _ | m
    · exact .inl rfl
    · exact .inr (fun e => hR.sep m e.symm ha))
  refine ⟨⟨⟨k, ?_⟩, row_set_r (by rw [pairsV_add _ _ _ _ hR.len]; simpa using hrow) 7 c', row_set_r hD 7 c', by simp [hR.len], fun m hm hd => ?_, fun g hg2 => by have := hR.priv g hg2; simp; omega⟩, ?_⟩
  · rw [heap_setCell_same _ _ _ _ _ _ (hrh.trans hc)]
    simp [runC]
  · rcases ho with h | h
    · exact hR.sep m (by rw [← h]; exact hm) hd
    · have hm : c'.ownBlock = some m := hm
      rw [h] at hm; injection hm with hm; have := hown m (.inr hd); omega
  · refine kep_set (cv := ⟨c', cv.d⟩) (c0 := cv) (w0 := W) (w := w5) ⟨hg.os, hg.tape, hg.output, by omega, fun m hm hr hc => grown_block hg hm (fun e => hc (.inl e.symm)), fun m hm => ?_⟩ 7 c'
    rcases hm with hm | hm
    · rcases ho with h | h
      · exact .inl (.inl (by rw [← h]; exact hm))
      · have hm : c'.ownBlock = some m := hm
        rw [h] at hm; injection hm with hm; exact .inr (by omega)
    · exact .inl (.inr hm)
/-- The runner's cells, behind what has grown. -/
theorem RunAt.cellD {r : Nat} {cv : Rw} {W w5 : World} {s : St} {o : Obj} (hR : RunAt X r cv W s) (hg : (W.alloc o).drew.grownBy w5 cv.d.ownBlock) : w5.cell? ⟨r, 8, none⟩ = some cv.d ∧ w5.frozen? ⟨r, 8, none⟩ = false := by
  have hrh : w5.heap[r]? = W.heap[r]? := grown_block hg hR.lt (fun e => row_not2 hR.rowD e.symm)
  obtain ⟨_, _, _, _, _, _, _, _, c8, _, fz⟩ := hR.at
  exact ⟨(World.cell?_of_block (a := ⟨r, 8, none⟩) hrh).trans c8, (World.frozen?_of_block (a := ⟨r, 8, none⟩) hrh).trans (fz 8)⟩
theorem RunAt.cellC {r : Nat} {cv : Rw} {W w5 : World} {s : St} {o : Obj} (hR : RunAt X r cv W s) (hg : (W.alloc o).drew.grownBy w5 cv.c.ownBlock) : w5.cell? ⟨r, 7, none⟩ = some cv.c ∧ w5.frozen? ⟨r, 7, none⟩ = false := by
  have hrh : w5.heap[r]? = W.heap[r]? := grown_block hg hR.lt (fun e => row_not2 hR.row e.symm)
  obtain ⟨_, _, _, _, _, _, _, c7, _, _, fz⟩ := hR.at
  exact ⟨(World.cell?_of_block (a := ⟨r, 7, none⟩) hrh).trans c7, (World.frozen?_of_block (a := ⟨r, 7, none⟩) hrh).trans (fz 7)⟩
theorem alloc_far {W : World} {o : Obj} {g k : Nat} {v : Value} (hg : g < W.heap.size) (h : W.cell? ⟨g, k, none⟩ = some v) : (W.alloc o).cell? ⟨g, k, none⟩ = some v := (World.cell?_alloc_lt W o ⟨g, k, none⟩ hg).trans h
end Go.Proofs.YtjfhncfbejephaaGreatDoor
