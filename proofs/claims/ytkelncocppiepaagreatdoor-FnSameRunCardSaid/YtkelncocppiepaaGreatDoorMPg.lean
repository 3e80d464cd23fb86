import Derived.Test.YtkelncocppiepaaGreatDoorMPu
import Derived.Deep.RegionHeld3
/- The program's putting: a part is opened. -/
namespace Go.Proofs.YtkelncocppiepaaGreatDoor
open Go.RowKit
open Ff
set_option linter.unusedVariables false
attribute [local go_sem] Oper.semAt_some

/-- A part in whose body nothing gets bound that stands free in u. -/
def openT (n : Nat) (x : UInt8) (u t : Tm) : Tm × Bool :=
  if bindsOf t = [] ∨ sfree u = [] ∨ cntF (lastK t) x = 0 then (t, true) else
  (withNB t (stepsS (subS n) (sfree u) x (bindsOf t) (lastK t) (bindsOf t).length).ns (stepsS (subS n) (sfree u) x (bindsOf t) (lastK t) (bindsOf t).length).b, (stepsS (subS n) (sfree u) x (bindsOf t) (lastK t) (bindsOf t).length).ok)
theorem nil_cnt {u : Tm} (hu : u.good) : sfree u = [] ↔ ∀ c, cntF u c = 0 := free_nil hu

/-- A binder with the names and the body of a state that keeps. -/
structure NbOk (t : Tm) (s : Bs) : Prop where
  binds : bindsOf (withNB t s.ns s.b) = s.ns
  last : lastK (withNB t s.ns s.b) = s.b
  good : (withNB t s.ns s.b).good
  many : (parts (withNB t s.ns s.b)).length = (parts t).length
  deep : (withNB t s.ns s.b).depth = t.depth
  again : ∀ ns b, withNB (withNB t s.ns s.b) ns b = withNB t ns b
theorem withNB_ok (t : Tm) (hb : bindsOf t ≠ []) (hg : t.good) (s : Bs) (h : BsOk (bindsOf t) (lastK t) s) : NbOk t s := by
  have hl := h.len
  have hn := h.nam
  have hd := h.nod
  have hk := h.like
  cases t with
  | fn c b =>
    obtain ⟨c', e⟩ := one_of hl
    rw [e] at hn
    refine ⟨?_, ?_, ?_, ?_, ?_, ?_⟩
    · simp [withNB, e, bindsOf]
    · simp [withNB, e, lastK, Tm.kids]
    · simp only [withNB, e, List.headD_cons]
      exact ⟨hn (by simpa [bindsOf] using hg.1) _ (by simp), hk.good hg.2⟩
    · have := hk.many
      simp only [withNB, parts, List.length_cons, this]; simp [lastK, Tm.kids]
    · have := hk.deep
      simp only [withNB, Tm.depth, this]; simp [lastK, Tm.kids]
    · intro ns b; rfl
  | fix f c b =>
    obtain ⟨f', c', e⟩ := two_of' hl
    rw [e] at hn hd
    refine ⟨?_, ?_, ?_, ?_, ?_, ?_⟩
    · simp [withNB, e, bindsOf]
    · simp [withNB, e, lastK, Tm.kids]
    · simp only [withNB, e, List.headD_cons, List.drop_succ_cons, List.drop_zero]
      have hall : ∀ y ∈ bindsOf (.fix f c b), isNam y = true := by
        intro y hy
        simp only [bindsOf, List.mem_cons, List.not_mem_nil, or_false] at hy
        rcases hy with rfl | rfl
        · exact hg.1
        · exact hg.2.1
      refine ⟨hn hall _ (by simp), hn hall _ (by simp), ?_, hk.good hg.2.2.2⟩
      have := hd (by
        unfold Dif
        intro i j y hij h1 h2
        exact (show False by
          match i, j, hij with
          | 0, 1, _ => simp [bindsOf] at h1 h2; exact hg.2.2.1 (h1.trans h2.symm)
          | i, j + 2, _ => simp [bindsOf] at h2
          | i + 1, 1, h => omega)) 0 1 f' (by omega) rfl
      intro e2
      subst e2
      exact this rfl
    · have := hk.many
      simp only [withNB, parts, List.length_cons, this]; simp [lastK, Tm.kids]
    · have := hk.deep
      simp only [withNB, Tm.depth, this]; simp [lastK, Tm.kids]
    · intro ns b; rfl
  | bind c v b =>
    obtain ⟨c', e⟩ := one_of hl
    rw [e] at hn
    refine ⟨?_, ?_, ?_, ?_, ?_, ?_⟩
    · simp [withNB, e, bindsOf]
    · simp [withNB, e, lastK, Tm.kids]
    · simp only [withNB, e, List.headD_cons]
      exact ⟨hn (by simpa [bindsOf] using hg.1) _ (by simp), hg.2.1, hk.good hg.2.2⟩
    · have := hk.many
      simp only [withNB, parts, List.length_cons, List.length_append, this]; simp [lastK, Tm.kids]
    · have := hk.deep
      simp only [withNB, Tm.depth, this]; simp [lastK, Tm.kids]
    · intro ns b; rfl
  | num _ => exact absurd rfl hb
  | var _ => exact absurd rfl hb
  | app _ _ => exact absurd rfl hb
  | op _ _ _ => exact absurd rfl hb
  | sel _ _ _ => exact absurd rfl hb
theorem withNB_self {t : Tm} (h : bindsOf t ≠ []) : withNB t (bindsOf t) (lastK t) = t := by
  cases t <;> simp [bindsOf] at h <;> simp [withNB, bindsOf, lastK, Tm.kids]
theorem binds_dif {t : Tm} (hg : t.good) : Dif (bindsOf t) := by
  unfold Dif
  intro i j y hij h1 h2
  cases t with
  | fix f c b =>
    match i, j, hij with
    | 0, 1, _ => simp [bindsOf] at h1 h2; exact hg.2.2.1 (h1.trans h2.symm)
    | i, j + 2, _ => simp [bindsOf] at h2
    | i + 1, 1, h => omega
  | fn c b => match i, j, hij with | i, j + 1, _ => simp [bindsOf] at h2
  | bind c v b => match i, j, hij with | i, j + 1, _ => simp [bindsOf] at h2
  | num _ => simp [bindsOf] at h1
  | var _ => simp [bindsOf] at h1
  | app _ _ => simp [bindsOf] at h1
  | op _ _ _ => simp [bindsOf] at h1
  | sel _ _ _ => simp [bindsOf] at h1
theorem stepS_names (sub : UInt8 → Tm → Tm → Tm × Bool) (fr : Text) (x : UInt8) (k : Nat) (s : Bs) (j : Nat) (hj : k < j) : (stepS sub fr x k s).ns[j]? = s.ns[j]? := by
  unfold stepS
  split
  · rfl
  · split
    · rfl
    · split
      · split
        · rfl
        · simp only; rw [List.getElem?_set_ne (by omega)]
      · rfl
theorem stepsS_names (sub : UInt8 → Tm → Tm → Tm × Bool) (fr : Text) (x : UInt8) (ns : Text) (b : Tm) : ∀ (k j : Nat), k ≤ j → (stepsS sub fr x ns b k).ns[j]? = ns[j]?
  | 0, _, _ => rfl
  | k + 1, j, h => (stepS_names sub fr x k _ j (by omega)).trans (stepsS_names sub fr x ns b k j (by omega))
theorem dif_take {ns : Text} (h : Dif ns) {k : Nat} {c : UInt8} (hc : ns[k]? = some c) : c ∉ ns.take k := by
  intro hm
  obtain ⟨i, hi⟩ := List.getElem?_of_mem hm
  rw [List.getElem?_take] at hi
  split at hi
  · exact h i k c (by assumption) hi hc
  · cases hi
/-- A value is a binder in a state that is well. -/
structure OpAt (t : Tm) (s : Bs) (v : Value) : Prop where
  val : v = enc (withNB t s.ns s.b)
  ok : s.ok = true
/-- How many names a tally has, in whatever world it lies as it was. -/
theorem Tally.lenK {w : World} {b n : Nat} {m : UInt8 → Nat} (h : Tally w b n m) : ∃ k : Nat, (k = 0 ↔ ∀ c, m c = 0) ∧ k ≤ n ∧ ∀ w', Below w.heap.size w w' → ∀ t, (Builtin.len_ #[61] t #[.map (some b)]).run Tryz.prog w' = .ok (.int .i64 (k : Int)) w' := by
  obtain ⟨D, hown, h1⟩ := h
  exact ⟨_, tally_size hown h1, hown.size_le, fun w' hb t => (hown.kept (row := none) (below_grown hb) (by simp)).len Tryz.underTally t⟩
end Go.Proofs.YtkelncocppiepaaGreatDoor

/- The program's putting: into a term; put. -/
namespace Go.Proofs.YtkelncocppiepaaGreatDoor
open Go.RowKit
open Ff
set_option linter.unusedVariables false
attribute [local go_sem] Oper.semAt_some

theorem openT_neg {n : Nat} {x : UInt8} {u t : Tm} (h : ¬ (bindsOf t = [] ∨ sfree u = [] ∨ cntF (lastK t) x = 0)) :
    openT n x u t = (withNB t (stepsS (subS n) (sfree u) x (bindsOf t) (lastK t) (bindsOf t).length).ns (stepsS (subS n) (sfree u) x (bindsOf t) (lastK t) (bindsOf t).length).b, (stepsS (subS n) (sfree u) x (bindsOf t) (lastK t) (bindsOf t).length).ok) := by
  unfold openT
  rw [if_neg h]
/-- What an opened part is: as a part of its kind, and what its kids are. -/
structure OpenOk (n : Nat) (x : UInt8) (u t : Tm) : Prop where
  good : (openT n x u t).1.good
  kids : ∀ s ∈ (openT n x u t).1.kids, s.depth ≤ n ∧ ((parts s).length ≤ 4000 ∨ sfree u = [])
theorem open_ok (n : Nat) (x : UInt8) (u t : Tm) (hg : t.good) (hp : (parts t).length ≤ 4000 ∨ sfree u = []) (hd : ∀ s ∈ t.kids, s.depth ≤ n) : OpenOk n x u t := by
  have hkp : ∀ s ∈ t.kids, (parts s).length ≤ 4000 ∨ sfree u = [] := fun s hs => hp.imp (fun h => Nat.le_trans (parts_kid_le hs) h) id
  by_cases h : bindsOf t = [] ∨ sfree u = [] ∨ cntF (lastK t) x = 0
  · have e : openT n x u t = (t, true) := by unfold openT; rw [if_pos h]
    exact ⟨by rw [e]; exact hg, by rw [e]; exact fun s hs => ⟨hd s hs, hkp s hs⟩⟩
  · have hb : bindsOf t ≠ [] := fun e => h (.inl e)
    have e := openT_neg (n := n) h
    have K := stepsS_keep (fun y d t hd => subS_like n y d t hd) (sfree u) x (bindsOf t) (lastK t) (bindsOf t).length
    have NB := withNB_ok t hb hg _ K
    refine ⟨by rw [e]; exact NB.good, ?_⟩
    rw [e]
    simp only
    generalize hS : stepsS (subS n) (sfree u) x (bindsOf t) (lastK t) (bindsOf t).length = S at K NB
    have hl : S.b.depth ≤ n ∧ ((parts S.b).length ≤ 4000 ∨ sfree u = []) := by
      rw [K.like.deep, K.like.many]
      exact ⟨hd _ (lastK_mem (binder_kids hb)), hkp _ (lastK_mem (binder_kids hb))⟩
    intro s hs
    cases t with
    | fn c b => simp only [withNB, Tm.kids, List.mem_singleton] at hs; subst hs; exact hl
    | fix f c b => simp only [withNB, Tm.kids, List.mem_singleton] at hs; subst hs; exact hl
    | bind c v b =>
      simp only [withNB, Tm.kids, List.mem_cons, List.not_mem_nil, or_false] at hs
      rcases hs with rfl | rfl
      · exact ⟨hd _ (by simp [Tm.kids]), hkp _ (by simp [Tm.kids])⟩
      · exact hl
    | num _ => exact absurd rfl hb
    | var _ => exact absurd rfl hb
    | app _ _ => exact absurd rfl hb
    | op _ _ _ => exact absurd rfl hb
    | sel _ _ _ => exact absurd rfl hb
/-- What putting comes to, kid by kid. -/
def rsAll (n : Nat) (x : UInt8) (u t : Tm) : List (Tm × Bool) := t.kids.map (subS n x u)
theorem into_bound (n : Nat) (x : UInt8) (u t : Tm) (hx : x ∈ bindsOf t) : subS (n + 1) x u t = (reTm t (bindsOf t) ((t.kids.dropLast.map (subS n x u) ++ [(lastK t, true)]).map (·.1)), (t.kids.dropLast.map (subS n x u) ++ [(lastK t, true)]).all (·.2)) := by
  cases t with
  | fn c b =>
    have e := undS_none (subS n) [c] b x u (.inl hx)
    simp [subS, e, reTm, Tm.kids, bindsOf, lastK]
  | fix f c b =>
    have e := undS_none (subS n) [f, c] b x u (.inl hx)
    simp [subS, e, reTm, Tm.kids, bindsOf, lastK]
  | bind c v b =>
    have e := undS_none (subS n) [c] b x u (.inl hx)
    simp [subS, e, reTm, Tm.kids, bindsOf, lastK]
  | num _ => simp [bindsOf] at hx
  | var _ => simp [bindsOf] at hx
  | app _ _ => simp [bindsOf] at hx
  | op _ _ _ => simp [bindsOf] at hx
  | sel _ _ _ => simp [bindsOf] at hx
theorem into_open (n : Nat) (x : UInt8) (u t : Tm) (hx : x ∉ bindsOf t) (hv : t ≠ .var x) : ((openT n x u t).2 = false → (subS (n + 1) x u t).2 = false) ∧
    ((openT n x u t).2 = true → subS (n + 1) x u t = (reTm (openT n x u t).1 (bindsOf (openT n x u t).1) ((rsAll n x u (openT n x u t).1).map (·.1)), (rsAll n x u (openT n x u t).1).all (·.2))) := by
  by_cases h : bindsOf t = [] ∨ sfree u = [] ∨ cntF (lastK t) x = 0
  · have e : openT n x u t = (t, true) := by unfold openT; rw [if_pos h]
    rw [e]
    refine ⟨(fun h => by cases h), fun _ => ?_⟩
    have key : ∀ (ns : Text) (b : Tm), bindsOf t = ns → lastK t = b → ns ≠ [] → undS (subS n) ns b x u = (ns, (subS n x u b).1, (subS n x u b).2) := by
      rintro ns b rfl rfl hns
      rcases h with h | h | h
      · exact absurd h hns
      · rw [undS_closed _ _ _ _ _ h]
        split
        · rename_i h2
          rcases h2 with h2 | h2
          · exact absurd h2 hx
          · rw [subS_none n x u _ h2]
        · rfl
      · rw [undS_none _ _ _ _ _ (.inr h), subS_none n x u _ h]
    cases t with
    | num _ => simp [subS, rsAll, reTm, Tm.kids]
    | var c =>
      have : c ≠ x := fun e => hv (by rw [e])
      simp [subS, rsAll, reTm, Tm.kids, this]
    | fn c b => simp [subS, key [c] b rfl (by simp [lastK, Tm.kids]) (by simp), rsAll, reTm, Tm.kids, bindsOf]
    | fix f c b => simp [subS, key [f, c] b rfl (by simp [lastK, Tm.kids]) (by simp), rsAll, reTm, Tm.kids, bindsOf]
    | app _ _ => simp [subS, rsAll, reTm, Tm.kids]
    | bind c v b => simp [subS, key [c] b rfl (by simp [lastK, Tm.kids]) (by simp), rsAll, reTm, Tm.kids, bindsOf]
    | op _ _ _ => simp [subS, rsAll, reTm, Tm.kids]
    | sel _ _ _ => simp [subS, rsAll, reTm, Tm.kids, Bool.and_assoc]
  · have hb : bindsOf t ≠ [] := fun e => h (.inl e)
    have e := openT_neg (n := n) h
    have K := stepsS_keep (fun y d t hd => subS_like n y d t hd) (sfree u) x (bindsOf t) (lastK t) (bindsOf t).length
    have hc : ¬ (x ∈ bindsOf t ∨ cntF (lastK t) x = 0) := by rintro (h2 | h2); exact hx h2; exact h (.inr (.inr h2))
    obtain ⟨U1, U2⟩ := undS_ok (subS n) (bindsOf t) (lastK t) x u hc
    rw [e]
    simp only
    generalize stepsS (subS n) (sfree u) x (bindsOf t) (lastK t) (bindsOf t).length = S at *
    have hl := K.len
    cases t with
    | fn c b =>
      obtain ⟨c', e1⟩ := one_of hl
      simp only [bindsOf, lastK, Tm.kids, List.getLast?_singleton, Option.getD_some] at U1 U2 ⊢
      refine ⟨fun hf => by simp only [subS, U1, hf, Bool.false_and], fun ht => ?_⟩
      simp only [subS, U2 ht]
      simp [withNB, rsAll, reTm, Tm.kids, e1]
    | fix f c b =>
      obtain ⟨f', c', e1⟩ := two_of' hl
      simp only [bindsOf, lastK, Tm.kids, List.getLast?_singleton, Option.getD_some] at U1 U2 ⊢
      refine ⟨fun hf => by simp only [subS, U1, hf, Bool.false_and], fun ht => ?_⟩
      simp only [subS, U2 ht]
      simp [withNB, rsAll, reTm, Tm.kids, e1]
    | bind c v b =>
      obtain ⟨c', e1⟩ := one_of hl
      have eL : lastK (.bind c v b) = b := by simp [lastK, Tm.kids]
      simp only [bindsOf, eL] at U1 U2 ⊢
      refine ⟨fun hf => by simp only [subS, U1, hf, Bool.false_and, Bool.and_false], fun ht => ?_⟩
      simp only [subS, U2 ht]
      simp [withNB, rsAll, reTm, Tm.kids, e1]
    | num _ => exact absurd rfl hb
    | var _ => exact absurd rfl hb
    | app _ _ => exact absurd rfl hb
    | op _ _ _ => exact absurd rfl hb
    | sel _ _ _ => exact absurd rfl hb
end Go.Proofs.YtkelncocppiepaaGreatDoor

/- The program's putting: into a term. Written by genPh.py. -/
namespace Go.Proofs.YtkelncocppiepaaGreatDoor
open Go.RowKit
open Ff
set_option linter.unusedVariables false
attribute [local go_sem] Oper.semAt_some

/-- Where a box of a putting lies, and what is below. -/
abbrev BoxS (w W1 : World) (x : UInt8) (un : TypeId) (uv : Value) (b : Nat) (w' : World) : Prop := w'.cell? ⟨w.heap.size, 0, none⟩ = some (bv x) ∧ w'.cell? ⟨w.heap.size, 1, none⟩ = some (.iface un uv) ∧ w'.cell? ⟨w.heap.size, 2, none⟩ = some (.map (some b)) ∧ Below W1.heap.size W1 w'
theorem BoxS.keep {w W1 : World} {x : UInt8} {un : TypeId} {uv : Value} {b : Nat} {W W' : World} (h : BoxS w W1 x un uv b W) (hl : w.heap.size < W1.heap.size) (hb : Below W.heap.size W W') : BoxS w W1 x un uv b W' := by
  obtain ⟨h0, h1, h2, h3⟩ := h
  have hw : w.heap.size < W.heap.size := by have := h3.size; omega
  exact ⟨(hb.cell (p := ⟨w.heap.size, 0, none⟩) hw).trans h0, (hb.cell (p := ⟨w.heap.size, 1, none⟩) hw).trans h1, (hb.cell (p := ⟨w.heap.size, 2, none⟩) hw).trans h2, h3.trans (hb.mono h3.size)⟩
theorem var_shape (t : Tm) : ∃ z : Int, varV t = .agg #[.int .u8 z] := by
  cases t <;> exact ⟨_, rfl⟩
/-- The kids of a part that binds the name itself. -/
def rsB (n : Nat) (x : UInt8) (u t : Tm) : List (Tm × Bool) := t.kids.dropLast.map (subS n x u) ++ [(lastK t, true)]
theorem rsB_len (n : Nat) (x : UInt8) (u t : Tm) (h : t.kids ≠ []) : (rsB n x u t).length = t.kids.length := by
  have := List.length_pos_iff.2 h
  simp [rsB]; omega
theorem rsB_at (n : Nat) (x : UInt8) (u t : Tm) (h : t.kids ≠ []) {k : Nat} {s : Tm} {q : Tm × Bool} (hs : t.kids[k]? = some s) (hq : (rsB n x u t)[k]? = some q) : (k + 1 = t.kids.length ∧ q = (s, true)) ∨ (k + 1 ≠ t.kids.length ∧ q = subS n x u s) := by
  have hl := List.length_pos_iff.2 h
  have hk := (List.getElem?_eq_some_iff.1 hs).1
  unfold rsB at hq
  by_cases e : k + 1 = t.kids.length
  · refine .inl ⟨e, ?_⟩
    rw [List.getElem?_append_right (by simp; omega)] at hq
    simp only [List.length_map, List.length_dropLast, show k - (t.kids.length - 1) = 0 by omega, List.getElem?_cons_zero, Option.some.injEq] at hq
    rw [← hq]
    unfold lastK
    rw [List.getLast?_eq_getElem?, show t.kids.length - 1 = k by omega, hs]; rfl
  · refine .inr ⟨e, ?_⟩
    rw [List.getElem?_append_left (by simp; omega)] at hq
    simp only [List.getElem?_map, List.getElem?_dropLast] at hq
    rw [if_pos (by omega), hs] at hq
    simpa using hq.symm
end Go.Proofs.YtkelncocppiepaaGreatDoor
