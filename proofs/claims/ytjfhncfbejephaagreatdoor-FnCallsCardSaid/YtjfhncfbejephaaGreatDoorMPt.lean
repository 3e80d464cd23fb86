import Derived.Test.YtjfhncfbejephaaGreatDoorMCt
import Derived.Test.YtjfhncfbejephaaGreatDoorMUq
/- Putting a term for a name, as plain data: what both sides do. No program in sight. -/
namespace Go.Proofs.YtjfhncfbejephaaGreatDoor
open Ff
set_option linter.unusedVariables false

/-- A state of a binder that gets other names: its names, its body, is all well, was it left. -/
structure Bs where
  ns : Text
  b : Tm
  ok : Bool
  left : Bool
/-- One name gets another one, if it stands free in what is put. -/
def stepS (sub : UInt8 → Tm → Tm → Tm × Bool) (fr : Text) (x : UInt8) (k : Nat) (s : Bs) : Bs :=
  if s.left = true then s else
  match s.ns[k]? with
  | none => s
  | some c => if c ∈ fr then
      match newO (fr ++ sfree s.b ++ s.ns ++ [x]) with
      | none => ⟨s.ns, s.b, false, true⟩
      | some d => ⟨s.ns.set k d, (sub c (.var d) s.b).1, s.ok && (sub c (.var d) s.b).2, false⟩
    else s
/-- After so many names. -/
def stepsS (sub : UInt8 → Tm → Tm → Tm × Bool) (fr : Text) (x : UInt8) (ns : Text) (b : Tm) : Nat → Bs
  | 0 => ⟨ns, b, true, false⟩
  | k + 1 => stepS sub fr x k (stepsS sub fr x ns b k)
/-- A binder's names and body, in which a term is put for a name. -/
def undS (sub : UInt8 → Tm → Tm → Tm × Bool) (ns : Text) (b : Tm) (x : UInt8) (u : Tm) : Text × Tm × Bool :=
  if x ∈ ns ∨ cntF b x = 0 then (ns, b, true) else
  if (stepsS sub (sfree u) x ns b ns.length).left = true then ((stepsS sub (sfree u) x ns b ns.length).ns, (stepsS sub (sfree u) x ns b ns.length).b, false)
  else ((stepsS sub (sfree u) x ns b ns.length).ns, (sub x u (stepsS sub (sfree u) x ns b ns.length).b).1, (stepsS sub (sfree u) x ns b ns.length).ok && (sub x u (stepsS sub (sfree u) x ns b ns.length).b).2)
/-- A term with others names and kids. -/
def reTm (t : Tm) (ns : Text) (ks : List Tm) : Tm :=
  match t with
  | .num k => .num k
  | .var c => .var c
  | .fn _ _ => .fn (ns.headD 0) (ks.headD t)
  | .fix _ _ _ => .fix (ns.headD 0) ((ns.drop 1).headD 0) (ks.headD t)
  | .app _ _ => .app (ks.headD t) ((ks.drop 1).headD t)
  | .bind _ _ _ => .bind (ns.headD 0) (ks.headD t) ((ks.drop 1).headD t)
  | .op o _ _ => .op o (ks.headD t) ((ks.drop 1).headD t)
  | .sel _ _ _ => .sel (ks.headD t) ((ks.drop 1).headD t) ((ks.drop 2).headD t)
/-- A term in which u is put for x, and whether there were enough names; fuel: how many parts lie within each other. -/
def subS : Nat → UInt8 → Tm → Tm → Tm × Bool
  | 0, _, _, t => (t, true)
  | n + 1, x, u, t => match t with
    | .num k => (.num k, true)
    | .var c => (if c = x then u else .var c, true)
    | .fn c b => let r := undS (subS n) [c] b x u; (.fn (r.1.headD 0) r.2.1, r.2.2)
    | .fix f c b => let r := undS (subS n) [f, c] b x u; (.fix (r.1.headD 0) ((r.1.drop 1).headD 0) r.2.1, r.2.2)
    | .app f a => (.app (subS n x u f).1 (subS n x u a).1, (subS n x u f).2 && (subS n x u a).2)
    | .bind c v b => let r := undS (subS n) [c] b x u; (.bind (r.1.headD 0) (subS n x u v).1 r.2.1, (subS n x u v).2 && r.2.2)
    | .op o l r => (.op o (subS n x u l).1 (subS n x u r).1, (subS n x u l).2 && (subS n x u r).2)
    | .sel a b c => (.sel (subS n x u a).1 (subS n x u b).1 (subS n x u c).1, (subS n x u a).2 && (subS n x u b).2 && (subS n x u c).2)

/-! A name that does not stand free: nothing is put. -/
theorem undS_none (sub : UInt8 → Tm → Tm → Tm × Bool) (ns : Text) (b : Tm) (x : UInt8) (u : Tm) (h : x ∈ ns ∨ cntF b x = 0) : undS sub ns b x u = (ns, b, true) := by
  unfold undS
  rw [if_pos h]
theorem subS_none : ∀ (n : Nat) (x : UInt8) (u t : Tm), cntF t x = 0 → subS n x u t = (t, true)
  | 0, _, _, _, _ => rfl
  | n + 1, x, u, t, h => by
    cases t with
    | num k => rfl
    | var c =>
      have : c ≠ x := fun e => by subst e; simp [cntF] at h
      simp [subS, this]
    | fn c b =>
      have e := undS_none (subS n) [c] b x u (by simp only [cntF] at h; by_cases hc : x ∈ [c]; exact .inl hc; rw [if_neg hc] at h; exact .inr h)
      simp [subS, e]
    | fix f c b =>
      have e := undS_none (subS n) [f, c] b x u (by simp only [cntF] at h; by_cases hc : x ∈ [f, c]; exact .inl hc; rw [if_neg hc] at h; exact .inr h)
      simp [subS, e]
    | app f a => simp only [cntF] at h; simp [subS, subS_none n x u f (by omega), subS_none n x u a (by omega)]
    | bind c v b =>
      simp only [cntF] at h
      have e := undS_none (subS n) [c] b x u (by by_cases hc : x ∈ [c]; exact .inl hc; rw [if_neg hc] at h; exact .inr (by omega))
      simp [subS, e, subS_none n x u v (by omega)]
    | op o l r => simp only [cntF] at h; simp [subS, subS_none n x u l (by omega), subS_none n x u r (by omega)]
    | sel a b c => simp only [cntF] at h; simp [subS, subS_none n x u a (by omega), subS_none n x u b (by omega), subS_none n x u c (by omega)]

/-! What is put has no free names: nothing gets another name. -/
theorem stepsS_closed (sub : UInt8 → Tm → Tm → Tm × Bool) (x : UInt8) (ns : Text) (b : Tm) : ∀ k, stepsS sub [] x ns b k = ⟨ns, b, true, false⟩
  | 0 => rfl
  | k + 1 => by
    rw [stepsS, stepsS_closed sub x ns b k]
    unfold stepS
    simp only [Bool.false_eq_true, if_false]
    split <;> simp
theorem undS_closed (sub : UInt8 → Tm → Tm → Tm × Bool) (ns : Text) (b : Tm) (x : UInt8) (u : Tm) (h : sfree u = []) : undS sub ns b x u = if x ∈ ns ∨ cntF b x = 0 then (ns, b, true) else (ns, (sub x u b).1, (sub x u b).2) := by
  unfold undS
  rw [h, stepsS_closed]
  simp
theorem subS_closed : ∀ (n : Nat) (x : UInt8) (u t : Tm), sfree u = [] → (subS n x u t).2 = true
  | 0, _, _, _, _ => rfl
  | n + 1, x, u, t, h => by
    have ih := fun t => subS_closed n x u t h
    cases t with
    | num k => rfl
    | var c => rfl
    | fn c b => simp only [subS, undS_closed _ _ _ _ _ h]; split <;> simp [ih]
    | fix f c b => simp only [subS, undS_closed _ _ _ _ _ h]; split <;> simp [ih]
    | app f a => simp [subS, ih]
    | bind c v b => simp only [subS, undS_closed _ _ _ _ _ h, ih]; split <;> simp
    | op o l r => simp [subS, ih]
    | sel a b c => simp [subS, ih]

/-! Once something is not well, it stays so. -/
theorem stepS_bad (sub : UInt8 → Tm → Tm → Tm × Bool) (fr : Text) (x : UInt8) (k : Nat) (s : Bs) (h : s.ok = false) : (stepS sub fr x k s).ok = false := by
  unfold stepS
  split
  · exact h
  · split
    · exact h
    · split
      · split
        · rfl
        · simp [h]
      · exact h
theorem stepS_left (sub : UInt8 → Tm → Tm → Tm × Bool) (fr : Text) (x : UInt8) (k : Nat) (s : Bs) (h : s.left = true) : stepS sub fr x k s = s := by
  unfold stepS
  rw [if_pos h]
theorem stepsS_bad (sub : UInt8 → Tm → Tm → Tm × Bool) (fr : Text) (x : UInt8) (ns : Text) (b : Tm) (k : Nat) (h : (stepsS sub fr x ns b k).ok = false) : ∀ j, (stepsS sub fr x ns b (k + j)).ok = false
  | 0 => h
  | j + 1 => stepS_bad _ _ _ _ _ (stepsS_bad sub fr x ns b k h j)
theorem stepsS_left_bad (sub : UInt8 → Tm → Tm → Tm × Bool) (fr : Text) (x : UInt8) (ns : Text) (b : Tm) : ∀ k, (stepsS sub fr x ns b k).left = true → (stepsS sub fr x ns b k).ok = false
  | 0, h => by simp [stepsS] at h
  | k + 1, h => by
    rw [stepsS] at h ⊢
    unfold stepS at h ⊢
    by_cases hl : (stepsS sub fr x ns b k).left = true
    · rw [if_pos hl] at h ⊢
      exact stepsS_left_bad sub fr x ns b k hl
    · rw [if_neg hl] at h ⊢
      split at h
      · exact absurd h hl
      · split at h
        · split at h
          · rename_i h1 h2 _ h3; simp [h2]
          · simp at h
        · exact absurd h hl
/-- Are there enough names for a binder: all steps are well, and the body. -/
theorem undS_ok (sub : UInt8 → Tm → Tm → Tm × Bool) (ns : Text) (b : Tm) (x : UInt8) (u : Tm) (h : ¬ (x ∈ ns ∨ cntF b x = 0)) :
    (undS sub ns b x u).2.2 = ((stepsS sub (sfree u) x ns b ns.length).ok && (sub x u (stepsS sub (sfree u) x ns b ns.length).b).2) ∧
    ((stepsS sub (sfree u) x ns b ns.length).ok = true → undS sub ns b x u = ((stepsS sub (sfree u) x ns b ns.length).ns, (sub x u (stepsS sub (sfree u) x ns b ns.length).b).1, (sub x u (stepsS sub (sfree u) x ns b ns.length).b).2)) := by
  unfold undS
  rw [if_neg h]
  by_cases hl : (stepsS sub (sfree u) x ns b ns.length).left = true
  · have := stepsS_left_bad sub (sfree u) x ns b ns.length hl
    simp [hl, this]
  · rw [if_neg hl]
    exact ⟨rfl, fun e => by rw [e]; rfl⟩

/-! What a term is in which a name has another name: as deep, as many parts, and good. -/
theorem newO_nam {s : Text} {d : UInt8} (h : newO s = some d) : isNam d = true ∧ d ∉ s := by
  unfold newO at h
  refine ⟨?_, by simpa using List.find?_some h⟩
  have hm := List.mem_of_find?_eq_some h
  simp only [letters, List.mem_cons, List.not_mem_nil, or_false] at hm
  rcases hm with h | h | h | h | h | h | h | h | h | h | h | h | h | h | h | h <;> subst h <;> decide
/-- What a renaming keeps. -/
structure Alike (s t : Tm) : Prop where
  deep : s.depth = t.depth
  many : (parts s).length = (parts t).length
  good : t.good → s.good
theorem Alike.rfl' (t : Tm) : Alike t t := ⟨rfl, rfl, fun h => h⟩
theorem Alike.trans {r s t : Tm} (h : Alike r s) (k : Alike s t) : Alike r t := ⟨h.deep.trans k.deep, h.many.trans k.many, fun g => h.good (k.good g)⟩
/-- Names that are all different. -/
def Dif (ns : Text) : Prop := ∀ (i j : Nat) (x : UInt8), i < j → ns[i]? = some x → ns[j]? ≠ some x
/-- A binder's state keeps: as many names, good ones, and a body alike. -/
structure BsOk (ns : Text) (b : Tm) (s : Bs) : Prop where
  len : s.ns.length = ns.length
  nam : (∀ c ∈ ns, isNam c = true) → ∀ c ∈ s.ns, isNam c = true
  nod : Dif ns → Dif s.ns
  like : Alike s.b b
theorem stepS_keep {sub : UInt8 → Tm → Tm → Tm × Bool} (hsub : ∀ x d t, isNam d = true → Alike (sub x (.var d) t).1 t) (fr : Text) (x : UInt8) (k : Nat) {ns : Text} {b : Tm} {s : Bs} (h : BsOk ns b s) : BsOk ns b (stepS sub fr x k s) := by
  unfold stepS
  split
  · exact h
  · split
    · exact h
    · split
      · split
        · exact ⟨h.len, h.nam, h.nod, h.like⟩
        · rename_i c hc hfr o d hd
          obtain ⟨hdn, hdm⟩ := newO_nam hd
          have hdm2 : d ∉ s.ns := fun e => hdm (by simp [e])
          refine ⟨by simp [h.len], fun hn c' hc' => ?_, fun hn => ?_, (hsub _ _ _ hdn).trans h.like⟩
          · rcases List.mem_or_eq_of_mem_set hc' with h1 | h1
            · exact h.nam hn _ h1
            · exact h1 ▸ hdn
          · unfold Dif
            intro i j y hij h1 h2
            have hN := h.nod hn
            rw [List.getElem?_set] at h1 h2
            by_cases hki : k = i
            · subst hki
              have hkj : k ≠ j := by omega
              rw [if_neg hkj] at h2
              rw [if_pos rfl] at h1
              split at h1
              · simp only [Option.some.injEq] at h1
                subst h1
                exact hdm2 (List.mem_of_getElem? h2)
              · simp at h1
            · rw [if_neg hki] at h1
              by_cases hkj : k = j
              · subst hkj
                rw [if_pos rfl] at h2
                split at h2
                · simp only [Option.some.injEq] at h2
                  subst h2
                  exact hdm2 (List.mem_of_getElem? h1)
                · simp at h2
              · rw [if_neg hkj] at h2
                exact hN i j y hij h1 h2
      · exact h
theorem stepsS_keep {sub : UInt8 → Tm → Tm → Tm × Bool} (hsub : ∀ x d t, isNam d = true → Alike (sub x (.var d) t).1 t) (fr : Text) (x : UInt8) (ns : Text) (b : Tm) : ∀ k, BsOk ns b (stepsS sub fr x ns b k)
  | 0 => ⟨rfl, fun h => h, fun h => h, Alike.rfl' _⟩
  | k + 1 => stepS_keep hsub fr x k (stepsS_keep hsub fr x ns b k)
/-- What a binder's names and body keep when a name is put. -/
theorem undS_like {sub : UInt8 → Tm → Tm → Tm × Bool} (hsub : ∀ x d t, isNam d = true → Alike (sub x (.var d) t).1 t) (ns : Text) (b : Tm) (x d : UInt8) (hd : isNam d = true) :
    BsOk ns b ⟨(undS sub ns b x (.var d)).1, (undS sub ns b x (.var d)).2.1, true, false⟩ := by
  have K := stepsS_keep hsub (sfree (.var d)) x ns b ns.length
  unfold undS
  split
  · exact ⟨rfl, fun h => h, fun h => h, Alike.rfl' _⟩
  · split
    · exact ⟨K.len, K.nam, K.nod, K.like⟩
    · exact ⟨K.len, K.nam, K.nod, (hsub _ _ _ hd).trans K.like⟩
theorem one_of {l : Text} (h : l.length = 1) : ∃ c, l = [c] := by
  match l, h with
  | [c], _ => exact ⟨c, rfl⟩
theorem two_of' {l : Text} (h : l.length = 2) : ∃ c d, l = [c, d] := by
  match l, h with
  | [c, d], _ => exact ⟨c, d, rfl⟩
theorem subS_like : ∀ (n : Nat) (x d : UInt8) (t : Tm), isNam d = true → Alike (subS n x (.var d) t).1 t
  | 0, _, _, t, _ => Alike.rfl' t
  | n + 1, x, d, t, hd => by
    have ih := fun x d t h => subS_like n x d t h
    cases t with
    | num k => exact Alike.rfl' _
    | var c =>
      simp only [subS]
      split
      · exact ⟨rfl, rfl, fun _ => hd⟩
      · exact Alike.rfl' _
    | fn c b =>
      have K := undS_like ih [c] b x d hd
      obtain ⟨c', e⟩ := one_of K.len
      simp only at e
      have hn := K.nam
      simp only [e] at hn
      simp only [subS, e, List.headD_cons]
      exact ⟨by simp [Tm.depth, K.like.deep], by simp [parts, K.like.many], fun g => ⟨hn (by simpa using g.1) _ (by simp), K.like.good g.2⟩⟩
    | fix f c b =>
      have K := undS_like ih [f, c] b x d hd
      obtain ⟨f', c', e⟩ := two_of' K.len
      simp only at e
      have hn := K.nam
      have hN := K.nod
      simp only [e] at hn hN
      simp only [subS, e, List.headD_cons, List.drop_succ_cons, List.drop_zero]
      refine ⟨by simp [Tm.depth, K.like.deep], by simp [parts, K.like.many], fun g => ⟨hn ?_ _ (by simp), hn ?_ _ (by simp), ?_, K.like.good g.2.2.2⟩⟩
      · intro y hy; simp only [List.mem_cons, List.not_mem_nil, or_false] at hy; rcases hy with rfl | rfl; exact g.1; exact g.2.1
      · intro y hy; simp only [List.mem_cons, List.not_mem_nil, or_false] at hy; rcases hy with rfl | rfl; exact g.1; exact g.2.1
      · have := hN (by
          unfold Dif
          intro i j y hij h1 h2
          exact (show False by
            match i, j, hij with
            | 0, 1, _ => simp at h1 h2; exact g.2.2.1 (h1.trans h2.symm)
            | i, j + 2, _ => simp at h2
            | i + 1, 1, h => omega)) 0 1 f' (by omega) rfl
        intro e2
        subst e2
        exact this rfl
    | app f a =>
      have h1 := ih x d f hd
      have h2 := ih x d a hd
      simp only [subS]
      exact ⟨by simp [Tm.depth, h1.deep, h2.deep], by simp [parts, h1.many, h2.many], fun g => ⟨h1.good g.1, h2.good g.2⟩⟩
    | bind c v b =>
      have h1 := ih x d v hd
      have K := undS_like ih [c] b x d hd
      obtain ⟨c', e⟩ := one_of K.len
      simp only at e
      have hn := K.nam
      simp only [e] at hn
      simp only [subS, e, List.headD_cons]
      exact ⟨by simp [Tm.depth, K.like.deep, h1.deep], by simp [parts, K.like.many, h1.many], fun g => ⟨hn (by simpa using g.1) _ (by simp), h1.good g.2.1, K.like.good g.2.2⟩⟩
    | op o l r =>
      have h1 := ih x d l hd
      have h2 := ih x d r hd
      simp only [subS]
      exact ⟨by simp [Tm.depth, h1.deep, h2.deep], by simp [parts, h1.many, h2.many], fun g => ⟨g.1, h1.good g.2.1, h2.good g.2.2⟩⟩
    | sel a b c =>
      have h1 := ih x d a hd
      have h2 := ih x d b hd
      have h3 := ih x d c hd
      simp only [subS]
      exact ⟨by simp [Tm.depth, h1.deep, h2.deep, h3.deep], by simp [parts, h1.many, h2.many, h3.many], fun g => ⟨h1.good g.1, h2.good g.2.1, h3.good g.2.2⟩⟩
end Go.Proofs.YtjfhncfbejephaaGreatDoor

/- What putting keeps and how it grows: good terms stay good; parts and depth are bounded. No program in sight. -/
namespace Go.Proofs.YtjfhncfbejephaaGreatDoor
open Ff
set_option linter.unusedVariables false

structure Grown (u r t : Tm) : Prop where
  many : (parts r).length ≤ (parts t).length * (parts u).length
  deep : r.depth ≤ t.depth + u.depth
  good : t.good → r.good
theorem Grown.of_alike {u r t : Tm} (h : Alike r t) : Grown u r t :=
  ⟨by rw [h.many]; exact Nat.le_mul_of_pos_right _ (parts_pos u), by rw [h.deep]; omega, h.good⟩
theorem Grown.alike {u r s t : Tm} (h : Grown u r s) (k : Alike s t) : Grown u r t := ⟨by rw [← k.many]; exact h.many, by rw [← k.deep]; exact h.deep, fun g => h.good (k.good g)⟩
theorem undS_grown {u : Tm} {sub : UInt8 → Tm → Tm → Tm × Bool} (hl : ∀ x d t, isNam d = true → Alike (sub x (.var d) t).1 t) (hs : ∀ x t, Grown u (sub x u t).1 t) (ns : Text) (b : Tm) (x : UInt8) :
    (undS sub ns b x u).1.length = ns.length ∧ ((∀ c ∈ ns, isNam c = true) → ∀ c ∈ (undS sub ns b x u).1, isNam c = true) ∧ (Dif ns → Dif (undS sub ns b x u).1) ∧ Grown u (undS sub ns b x u).2.1 b := by
  have K := stepsS_keep hl (sfree u) x ns b ns.length
  unfold undS
  split
  · exact ⟨rfl, fun h => h, fun h => h, Grown.of_alike (Alike.rfl' _)⟩
  · split
    · exact ⟨K.len, K.nam, K.nod, Grown.of_alike K.like⟩
    · exact ⟨K.len, K.nam, K.nod, (hs _ _).alike K.like⟩
theorem subS_grown {u : Tm} (hu : u.good) : ∀ (n : Nat) (x : UInt8) (t : Tm), Grown u (subS n x u t).1 t
  | 0, _, t => Grown.of_alike (Alike.rfl' t)
  | n + 1, x, t => by
    have ih := fun x t => subS_grown hu n x t
    have hl := fun x d t h => subS_like n x d t h
    have hp := parts_pos u
    cases t with
    | num k => exact Grown.of_alike (Alike.rfl' _)
    | var c =>
      simp only [subS]
      split
      · exact ⟨by simp [parts], by simp [Tm.depth], fun _ => hu⟩
      · exact Grown.of_alike (Alike.rfl' _)
    | fn c b =>
      obtain ⟨h1, h2, _, h4⟩ := undS_grown hl ih [c] b x
      obtain ⟨c', e⟩ := one_of h1
      rw [e] at h2
      simp only [subS, e, List.headD_cons]
      have a1 := h4.many
      have a2 := h4.deep
      refine ⟨?_, by simp only [Tm.depth]; omega, fun g => ⟨h2 (by simpa using g.1) _ (by simp), h4.good g.2⟩⟩
      simp only [parts, List.length_cons, Nat.add_mul, Nat.one_mul]
      omega
    | fix f c b =>
      obtain ⟨h1, h2, h3, h4⟩ := undS_grown hl ih [f, c] b x
      obtain ⟨f', c', e⟩ := two_of' h1
      rw [e] at h2 h3
      simp only [subS, e, List.headD_cons, List.drop_succ_cons, List.drop_zero]
      have a1 := h4.many
      have a2 := h4.deep
      refine ⟨?_, by simp only [Tm.depth]; omega, fun g => ⟨h2 ?_ _ (by simp), h2 ?_ _ (by simp), ?_, h4.good g.2.2.2⟩⟩
      · simp only [parts, List.length_cons, Nat.add_mul, Nat.one_mul]
        omega
      · intro y hy; simp only [List.mem_cons, List.not_mem_nil, or_false] at hy; rcases hy with rfl | rfl; exact g.1; exact g.2.1
      · intro y hy; simp only [List.mem_cons, List.not_mem_nil, or_false] at hy; rcases hy with rfl | rfl; exact g.1; exact g.2.1
      · have := h3 (by
          unfold Dif
          intro i j y hij h1 h2
          exact (show False by
            match i, j, hij with
            | 0, 1, _ => simp at h1 h2; exact g.2.2.1 (h1.trans h2.symm)
            | i, j + 2, _ => simp at h2
            | i + 1, 1, h => omega)) 0 1 f' (by omega) rfl
        intro e2
        subst e2
        exact this rfl
    | app f a =>
      have h1 := ih x f
      have h2 := ih x a
      have a1 := h1.many
      have a2 := h2.many
      have b1 := h1.deep
      have b2 := h2.deep
      simp only [subS]
      refine ⟨?_, by simp only [Tm.depth]; omega, fun g => ⟨h1.good g.1, h2.good g.2⟩⟩
      simp only [parts, List.length_cons, List.length_append, Nat.add_mul, Nat.one_mul]
      omega
    | bind c v b =>
      have k1 := ih x v
      obtain ⟨h1, h2, _, h4⟩ := undS_grown hl ih [c] b x
      obtain ⟨c', e⟩ := one_of h1
      rw [e] at h2
      simp only [subS, e, List.headD_cons]
      have a1 := h4.many
      have a2 := h4.deep
      have b1 := k1.many
      have b2 := k1.deep
      refine ⟨?_, by simp only [Tm.depth]; omega, fun g => ⟨h2 (by simpa using g.1) _ (by simp), k1.good g.2.1, h4.good g.2.2⟩⟩
      simp only [parts, List.length_cons, List.length_append, Nat.add_mul, Nat.one_mul]
      omega
    | op o l r =>
      have h1 := ih x l
      have h2 := ih x r
      have a1 := h1.many
      have a2 := h2.many
      have b1 := h1.deep
      have b2 := h2.deep
      simp only [subS]
      refine ⟨?_, by simp only [Tm.depth]; omega, fun g => ⟨g.1, h1.good g.2.1, h2.good g.2.2⟩⟩
      simp only [parts, List.length_cons, List.length_append, Nat.add_mul, Nat.one_mul]
      omega
    | sel a b c =>
      have h1 := ih x a
      have h2 := ih x b
      have h3 := ih x c
      have a1 := h1.many
      have a2 := h2.many
      have a3 := h3.many
      have b1 := h1.deep
      have b2 := h2.deep
      have b3 := h3.deep
      simp only [subS]
      refine ⟨?_, by simp only [Tm.depth]; omega, fun g => ⟨h1.good g.1, h2.good g.2.1, h3.good g.2.2⟩⟩
      simp only [parts, List.length_cons, List.length_append, Nat.add_mul, Nat.one_mul]
      omega
end Go.Proofs.YtjfhncfbejephaaGreatDoor
