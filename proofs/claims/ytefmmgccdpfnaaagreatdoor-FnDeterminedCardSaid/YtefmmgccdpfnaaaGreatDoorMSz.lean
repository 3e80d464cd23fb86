import Derived.Test.YtefmmgccdpfnaaaGreatDoorMTx
import Derived.Test.YtefmmgccdpfnaaaGreatDoorMSj
/- How long a text is, part by part. No program in sight. -/
namespace Go.Proofs.YtefmmgccdpfnaaaGreatDoor
open Ff
set_option linter.unusedVariables false

/-- How many bytes of a part's text belong to none of its kids. -/
def ownN : Tm → Nat
  | .num k => (numN k).length
  | .app _ _ => 2
  | t => 1 + (bindsOf t).length
theorem own_sum (t : Tm) : ((parts t).map ownN).sum = (textN t).length := by
  induction t with
  | num k => simp [parts, ownN, textN]
  | var c => simp [parts, ownN, textN, bindsOf]
  | fn c b ih => simp only [parts, List.map_cons, List.sum_cons, ownN, bindsOf, textN, List.length_cons, List.length_nil, ih]; omega
  | fix f c b ih => simp only [parts, List.map_cons, List.sum_cons, ownN, bindsOf, textN, List.length_cons, List.length_nil, ih]; omega
  | app f a h1 h2 => simp only [parts, List.map_cons, List.map_append, List.sum_cons, List.sum_append, ownN, textN, List.length_cons, List.length_append, List.length_nil, h1, h2]; omega
  | bind c v b h1 h2 => simp only [parts, List.map_cons, List.map_append, List.sum_cons, List.sum_append, ownN, bindsOf, textN, List.length_cons, List.length_append, List.length_nil, h1, h2]; omega
  | op o l r h1 h2 => simp only [parts, List.map_cons, List.map_append, List.sum_cons, List.sum_append, ownN, bindsOf, textN, List.length_cons, List.length_append, List.length_nil, h1, h2]; omega
  | sel a b c h1 h2 h3 => simp only [parts, List.map_cons, List.map_append, List.sum_cons, List.sum_append, ownN, bindsOf, textN, List.length_cons, List.length_append, List.length_nil, h1, h2, h3]; omega
theorem own_pre {t : Tm} {pre : List Tm} (h : pre <+: parts t) : (pre.map ownN).sum ≤ (textN t).length := by
  obtain ⟨r, hr⟩ := h
  rw [← own_sum, ← hr, List.map_append, List.sum_append]
  omega
theorem own_one (t : Tm) : 1 ≤ ownN t ∧ ownN t ≤ 3 := by
  cases t with
  | num k =>
    simp only [ownN, numN, decN]
    split <;> (try split) <;> simp
  | _ => simp [ownN, bindsOf]
theorem own_many (l : List Tm) : l.length ≤ (l.map ownN).sum := by
  induction l with
  | nil => simp
  | cons t l ih =>
    have := (own_one t).1
    simp only [List.length_cons, List.map_cons, List.sum_cons]
    omega
end Go.Proofs.YtefmmgccdpfnaaaGreatDoor

/- A step of a state, as plain data. No program in sight. -/
namespace Go.Proofs.YtefmmgccdpfnaaaGreatDoor
open Ff
set_option linter.unusedVariables false

/-- What a state's step comes to, and the rule's name. -/
def stepT (t : Tm) : Option (Tm × Text) := if t.isVal = true then none else (ruleT (partAt t (redexP t))).bind fun r =>
  if (textN (withAt t (redexP t) r.1)).length ≤ 1500 then some (withAt t (redexP t) r.1, r.2) else none
def stepO (s : Text) : Option (Tm × Text) := (stateO s).bind stepT
/-- A term with another kid. -/
structure ReOne (t s r R : Tm) : Prop where
  good : t.good → r.good → R.good
  deep : R.depth ≤ max t.depth (r.depth + 1)
  many : (parts R).length + (parts s).length = (parts t).length + (parts r).length
theorem re_one {t s r : Tm} {i : Nat} (hi : t.kids[i]? = some s) : ReOne t s r (reTm t (bindsOf t) (t.kids.set i r)) := by
  cases t with
  | num k => simp [Tm.kids] at hi
  | var c => simp [Tm.kids] at hi
  | fn c b =>
    rcases i with _ | i
    · simp [Tm.kids] at hi
      subst hi
      refine ⟨fun h1 h2 => ⟨h1.1, h2⟩, ?_, ?_⟩ <;> simp [reTm, bindsOf, Tm.kids, Tm.depth, parts] <;> omega
    · simp [Tm.kids] at hi
  | fix f c b =>
    rcases i with _ | i
    · simp [Tm.kids] at hi
      subst hi
      refine ⟨fun h1 h2 => ⟨h1.1, h1.2.1, h1.2.2.1, h2⟩, ?_, ?_⟩ <;> simp [reTm, bindsOf, Tm.kids, Tm.depth, parts] <;> omega
    · simp [Tm.kids] at hi
  | app f a =>
    rcases i with _ | _ | i
    · simp [Tm.kids] at hi
      subst hi
      refine ⟨fun h1 h2 => ⟨h2, h1.2⟩, ?_, ?_⟩ <;> simp [reTm, Tm.kids, Tm.depth, parts] <;> omega
    · simp [Tm.kids] at hi
      subst hi
      refine ⟨fun h1 h2 => ⟨h1.1, h2⟩, ?_, ?_⟩ <;> simp [reTm, Tm.kids, Tm.depth, parts] <;> omega
    · simp [Tm.kids] at hi
  | bind c v b =>
    rcases i with _ | _ | i
    · simp [Tm.kids] at hi
      subst hi
      refine ⟨fun h1 h2 => ⟨h1.1, h2, h1.2.2⟩, ?_, ?_⟩ <;> simp [reTm, bindsOf, Tm.kids, Tm.depth, parts] <;> omega
    · simp [Tm.kids] at hi
      subst hi
      refine ⟨fun h1 h2 => ⟨h1.1, h1.2.1, h2⟩, ?_, ?_⟩ <;> simp [reTm, bindsOf, Tm.kids, Tm.depth, parts] <;> omega
    · simp [Tm.kids] at hi
  | op o l r2 =>
    rcases i with _ | _ | i
    · simp [Tm.kids] at hi
      subst hi
      refine ⟨fun h1 h2 => ⟨h1.1, h2, h1.2.2⟩, ?_, ?_⟩ <;> simp [reTm, Tm.kids, Tm.depth, parts] <;> omega
    · simp [Tm.kids] at hi
      subst hi
      refine ⟨fun h1 h2 => ⟨h1.1, h1.2.1, h2⟩, ?_, ?_⟩ <;> simp [reTm, Tm.kids, Tm.depth, parts] <;> omega
    · simp [Tm.kids] at hi
  | sel a b c =>
    rcases i with _ | _ | _ | i
    · simp [Tm.kids] at hi
      subst hi
      refine ⟨fun h1 h2 => ⟨h2, h1.2.1, h1.2.2⟩, ?_, ?_⟩ <;> simp [reTm, Tm.kids, Tm.depth, parts] <;> omega
    · simp [Tm.kids] at hi
      subst hi
      refine ⟨fun h1 h2 => ⟨h1.1, h2, h1.2.2⟩, ?_, ?_⟩ <;> simp [reTm, Tm.kids, Tm.depth, parts] <;> omega
    · simp [Tm.kids] at hi
      subst hi
      refine ⟨fun h1 h2 => ⟨h1.1, h1.2.1, h2⟩, ?_, ?_⟩ <;> simp [reTm, Tm.kids, Tm.depth, parts] <;> omega
    · simp [Tm.kids] at hi
/-- A term in which another one stands at a place. -/
structure WithOk (t q x R : Tm) (m : Nat) : Prop where
  good : t.good → x.good → R.good
  deep : R.depth ≤ max t.depth (m + x.depth)
  many : (parts R).length + (parts q).length = (parts t).length + (parts x).length
theorem with_ok : ∀ (p : List Nat) (t x : Tm), PathOk t p → WithOk t (partAt t p) x (withAt t p x) p.length
  | [], t, x, _ => ⟨fun _ h => h, by simp only [withAt, List.length_nil]; omega, by simp [withAt, partAt]; omega⟩
  | i :: p, t, x, h => by
    obtain ⟨s, hs, hp⟩ := h
    have I := with_ok p s x hp
    have e1 : partAt t (i :: p) = partAt s p := by simp [partAt, hs]
    have e2 : withAt t (i :: p) x = reTm t (bindsOf t) (t.kids.set i (withAt s p x)) := by simp [withAt, hs]
    have R := re_one (r := withAt s p x) hs
    have hd := kid_depth (List.mem_of_getElem? hs)
    rw [e1, e2]
    refine ⟨fun h1 h2 => R.good h1 (I.good (Tm.kid_good h1 (List.mem_of_getElem? hs)) h2), ?_, ?_⟩
    · have := R.deep
      have := I.deep
      simp only [List.length_cons]
      omega
    · have := R.many
      have := I.many
      omega
end Go.Proofs.YtefmmgccdpfnaaaGreatDoor
