import Derived.Test.YtojbffiffcfblaaGreatPuF
/- The program's putting: into a term; put. -/
namespace Go.Proofs.YtojbffiffcfblaaGreat
open Go.RowKit
open Ff
set_option linter.unusedVariables false
attribute [local go_sem] Oper.semAt_some

theorem opened_c (n : Nat) (ih : IntoC n) (x : UInt8) (u t : Tm) (b m : Nat) (w : World) (hg : t.good) (hu : u.good) (hpu : (parts u).length ≤ 4000) (hp : (parts t).length ≤ 4000 ∨ sfree u = []) (hd : ∀ s ∈ t.kids, s.depth ≤ n) (hn : n ≤ 4000) (hT : Tally w b m (cntF u)) (hm : m ≤ 4000) (htd : t.depth ≤ 4000) :
    Calls Tryz.prog 92 #[putV x u b, enc t] w (SubP (openT n x u t) w) := by
  by_cases hb : bindsOf t = []
  · have e : openT n x u t = (t, true) := by unfold openT; rw [if_pos (.inl hb)]
    rw [e]
    exact (opened_none x u t b m w hg hb).mono fun e w' h => ⟨.inl ⟨rfl, h.1⟩, h.2⟩
  · by_cases hc : sfree u = []
    · have e : openT n x u t = (t, true) := by unfold openT; rw [if_pos (.inr (.inl hc))]
      rw [e]
      exact (opened_closed x u t b m w hg hu hb hT hc).mono fun e w' h => ⟨.inl ⟨rfl, h.1⟩, h.2⟩
    · exact opened_open n ih x u t b m w hg hu hpu (hp.resolve_right hc) (hd _ (lastK_mem (binder_kids hb))) hn hb hT hm hc htd
theorem openT_neg {n : Nat} {x : UInt8} {u t : Tm} (h : ¬ (bindsOf t = [] ∨ sfree u = [] ∨ cntF (lastK t) x = 0)) :
    openT n x u t = (withNB t (stepsS (subS n) (sfree u) x (bindsOf t) (lastK t) (bindsOf t).length).ns (stepsS (subS n) (sfree u) x (bindsOf t) (lastK t) (bindsOf t).length).b, (stepsS (subS n) (sfree u) x (bindsOf t) (lastK t) (bindsOf t).length).ok) := by
  unfold openT
  rw [if_neg h]
/-- What an opened part is: as a part of its kind, and what its kids are. -/
structure OpenOk (n : Nat) (x : UInt8) (u t : Tm) : Prop where
  good : (openT n x u t).1.good
  kids : ∀ s ∈ (openT n x u t).1.kids, s.depth ≤ n ∧ ((parts s).length ≤ 4000 ∨ sfree u = [])
theorem open_ok (n : Nat) (x : UInt8) (u t : Tm) (hg : t.good) (hp : (parts t).length ≤ 4000 ∨ sfree u = []) (hd : ∀ s ∈ t.kids, s.depth ≤ n) : OpenOk n x u t := by
  have hkp : ∀ s ∈ t.kids, (parts s).length ≤ 4000 ∨ sfree u = [] := fun s hs => hp.imp (fun h => Nat.le_trans (parts_kid_le hs) h) id
  by_cases h : bindsOf t = [] ∨ sfree u = [] ∨ cntF (lastK t) x = 0
  · have e : openT n x u t = (t, true) := by unfold openT; rw [if_pos h]
    exact ⟨by rw [e]; exact hg, by rw [e]; exact fun s hs => ⟨hd s hs, hkp s hs⟩⟩
  · have hb : bindsOf t ≠ [] := fun e => h (.inl e)
    have e := openT_neg (n := n) h
    have K := stepsS_keep (fun y d t hd => subS_like n y d t hd) (sfree u) x (bindsOf t) (lastK t) (bindsOf t).length
    have NB := withNB_ok t hb hg _ K
    refine ⟨by rw [e]; exact NB.good, ?_⟩
    rw [e]
    simp only
    generalize hS : stepsS (subS n) (sfree u) x (bindsOf t) (lastK t) (bindsOf t).length = S at K NB
    have hl : S.b.depth ≤ n ∧ ((parts S.b).length ≤ 4000 ∨ sfree u = []) := by
      rw [K.like.deep, K.like.many]
      exact ⟨hd _ (lastK_mem (binder_kids hb)), hkp _ (lastK_mem (binder_kids hb))⟩
    intro s hs
    cases t with
    | fn c b => simp only [withNB, Tm.kids, List.mem_singleton] at hs; subst hs; exact hl
    | fix f c b => simp only [withNB, Tm.kids, List.mem_singleton] at hs; subst hs; exact hl
    | bind c v b =>
      simp only [withNB, Tm.kids, List.mem_cons, List.not_mem_nil, or_false] at hs
      rcases hs with rfl | rfl
      · exact ⟨hd _ (by simp [Tm.kids]), hkp _ (by simp [Tm.kids])⟩
      · exact hl
    | num _ => exact absurd rfl hb
    | var _ => exact absurd rfl hb
    | app _ _ => exact absurd rfl hb
    | op _ _ _ => exact absurd rfl hb
    | sel _ _ _ => exact absurd rfl hb
/-- What putting comes to, kid by kid. -/
def rsAll (n : Nat) (x : UInt8) (u t : Tm) : List (Tm × Bool) := t.kids.map (subS n x u)
theorem into_bound (n : Nat) (x : UInt8) (u t : Tm) (hx : x ∈ bindsOf t) : subS (n + 1) x u t = (reTm t (bindsOf t) ((t.kids.dropLast.map (subS n x u) ++ [(lastK t, true)]).map (·.1)), (t.kids.dropLast.map (subS n x u) ++ [(lastK t, true)]).all (·.2)) := by
  cases t with
  | fn c b =>
    have e := undS_none (subS n) [c] b x u (.inl hx)
    simp [subS, e, reTm, Tm.kids, bindsOf, lastK]
  | fix f c b =>
    have e := undS_none (subS n) [f, c] b x u (.inl hx)
    simp [subS, e, reTm, Tm.kids, bindsOf, lastK]
  | bind c v b =>
    have e := undS_none (subS n) [c] b x u (.inl hx)
    simp [subS, e, reTm, Tm.kids, bindsOf, lastK]
  | num _ => simp [bindsOf] at hx
  | var _ => simp [bindsOf] at hx
  | app _ _ => simp [bindsOf] at hx
  | op _ _ _ => simp [bindsOf] at hx
  | sel _ _ _ => simp [bindsOf] at hx
theorem into_open (n : Nat) (x : UInt8) (u t : Tm) (hx : x ∉ bindsOf t) (hv : t ≠ .var x) : ((openT n x u t).2 = false → (subS (n + 1) x u t).2 = false) ∧
    ((openT n x u t).2 = true → subS (n + 1) x u t = (reTm (openT n x u t).1 (bindsOf (openT n x u t).1) ((rsAll n x u (openT n x u t).1).map (·.1)), (rsAll n x u (openT n x u t).1).all (·.2))) := by
  by_cases h : bindsOf t = [] ∨ sfree u = [] ∨ cntF (lastK t) x = 0
  · have e : openT n x u t = (t, true) := by unfold openT; rw [if_pos h]
    rw [e]
    refine ⟨(fun h => by cases h), fun _ => ?_⟩
    have key : ∀ (ns : Text) (b : Tm), bindsOf t = ns → lastK t = b → ns ≠ [] → undS (subS n) ns b x u = (ns, (subS n x u b).1, (subS n x u b).2) := by
      rintro ns b rfl rfl hns
      rcases h with h | h | h
      · exact absurd h hns
      · rw [undS_closed _ _ _ _ _ h]
        split
        · rename_i h2
          rcases h2 with h2 | h2
          · exact absurd h2 hx
          · rw [subS_none n x u _ h2]
        · rfl
      · rw [undS_none _ _ _ _ _ (.inr h), subS_none n x u _ h]
    cases t with
    | num _ => simp [subS, rsAll, reTm, Tm.kids]
    | var c =>
      have : c ≠ x := fun e => hv (by rw [e])
      simp [subS, rsAll, reTm, Tm.kids, this]
    | fn c b => simp [subS, key [c] b rfl (by simp [lastK, Tm.kids]) (by simp), rsAll, reTm, Tm.kids, bindsOf]
    | fix f c b => simp [subS, key [f, c] b rfl (by simp [lastK, Tm.kids]) (by simp), rsAll, reTm, Tm.kids, bindsOf]
    | app _ _ => simp [subS, rsAll, reTm, Tm.kids]
    | bind c v b => simp [subS, key [c] b rfl (by simp [lastK, Tm.kids]) (by simp), rsAll, reTm, Tm.kids, bindsOf]
    | op _ _ _ => simp [subS, rsAll, reTm, Tm.kids]
    | sel _ _ _ => simp [subS, rsAll, reTm, Tm.kids, Bool.and_assoc]
  · have hb : bindsOf t ≠ [] := fun e => h (.inl e)
    have e := openT_neg (n := n) h
    have K := stepsS_keep (fun y d t hd => subS_like n y d t hd) (sfree u) x (bindsOf t) (lastK t) (bindsOf t).length
    have hc : ¬ (x ∈ bindsOf t ∨ cntF (lastK t) x = 0) := by rintro (h2 | h2); exact hx h2; exact h (.inr (.inr h2))
    obtain ⟨U1, U2⟩ := undS_ok (subS n) (bindsOf t) (lastK t) x u hc
    rw [e]
    simp only
    generalize stepsS (subS n) (sfree u) x (bindsOf t) (lastK t) (bindsOf t).length = S at *
    have hl := K.len
    cases t with
    | fn c b =>
      obtain ⟨c', e1⟩ := one_of hl
      simp only [bindsOf, lastK, Tm.kids, List.getLast?_singleton, Option.getD_some] at U1 U2 ⊢
      refine ⟨fun hf => by simp only [subS, U1, hf, Bool.false_and], fun ht => ?_⟩
      simp only [subS, U2 ht]
      simp [withNB, rsAll, reTm, Tm.kids, e1]
    | fix f c b =>
      obtain ⟨f', c', e1⟩ := two_of' hl
      simp only [bindsOf, lastK, Tm.kids, List.getLast?_singleton, Option.getD_some] at U1 U2 ⊢
      refine ⟨fun hf => by simp only [subS, U1, hf, Bool.false_and], fun ht => ?_⟩
      simp only [subS, U2 ht]
      simp [withNB, rsAll, reTm, Tm.kids, e1]
    | bind c v b =>
      obtain ⟨c', e1⟩ := one_of hl
      have eL : lastK (.bind c v b) = b := by simp [lastK, Tm.kids]
      simp only [bindsOf, eL] at U1 U2 ⊢
      refine ⟨fun hf => by simp only [subS, U1, hf, Bool.false_and, Bool.and_false], fun ht => ?_⟩
      simp only [subS, U2 ht]
      simp [withNB, rsAll, reTm, Tm.kids, e1]
    | num _ => exact absurd rfl hb
    | var _ => exact absurd rfl hb
    | app _ _ => exact absurd rfl hb
    | op _ _ _ => exact absurd rfl hb
    | sel _ _ _ => exact absurd rfl hb
end Go.Proofs.YtojbffiffcfblaaGreat
