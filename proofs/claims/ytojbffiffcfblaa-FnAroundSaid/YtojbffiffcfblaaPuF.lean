import Derived.Test.YtojbffiffcfblaaPuE
import Derived.Deep.RegionHeld3
/- The program's putting: a part is opened. -/
namespace Go.Proofs.Ytojbffiffcfblaa
open Go.RowKit
open Ff
set_option linter.unusedVariables false
attribute [local go_sem] Oper.semAt_some

/-- A part in whose body nothing gets bound that stands free in u. -/
def openT (n : Nat) (x : UInt8) (u t : Tm) : Tm × Bool :=
  if bindsOf t = [] ∨ sfree u = [] ∨ cntF (lastK t) x = 0 then (t, true) else
  (withNB t (stepsS (subS n) (sfree u) x (bindsOf t) (lastK t) (bindsOf t).length).ns (stepsS (subS n) (sfree u) x (bindsOf t) (lastK t) (bindsOf t).length).b, (stepsS (subS n) (sfree u) x (bindsOf t) (lastK t) (bindsOf t).length).ok)
theorem nil_cnt {u : Tm} (hu : u.good) : sfree u = [] ↔ ∀ c, cntF u c = 0 := free_nil hu

/-- A binder with the names and the body of a state that keeps. -/
structure NbOk (t : Tm) (s : Bs) : Prop where
  binds : bindsOf (withNB t s.ns s.b) = s.ns
  last : lastK (withNB t s.ns s.b) = s.b
  good : (withNB t s.ns s.b).good
  many : (parts (withNB t s.ns s.b)).length = (parts t).length
  deep : (withNB t s.ns s.b).depth = t.depth
  again : ∀ ns b, withNB (withNB t s.ns s.b) ns b = withNB t ns b
theorem withNB_ok (t : Tm) (hb : bindsOf t ≠ []) (hg : t.good) (s : Bs) (h : BsOk (bindsOf t) (lastK t) s) : NbOk t s := by
  have hl := h.len
  have hn := h.nam
  have hd := h.nod
  have hk := h.like
  cases t with
  | fn c b =>
    obtain ⟨c', e⟩ := one_of hl
    rw [e] at hn
    refine ⟨?_, ?_, ?_, ?_, ?_, ?_⟩
    · simp [withNB, e, bindsOf]
    · simp [withNB, e, lastK, Tm.kids]
    · simp only [withNB, e, List.headD_cons]
      exact ⟨hn (by simpa [bindsOf] using hg.1) _ (by simp), hk.good hg.2⟩
    · have := hk.many
      simp only [withNB, parts, List.length_cons, this]; simp [lastK, Tm.kids]
    · have := hk.deep
      simp only [withNB, Tm.depth, this]; simp [lastK, Tm.kids]
    · intro ns b; rfl
  | fix f c b =>
    obtain ⟨f', c', e⟩ := two_of' hl
    rw [e] at hn hd
    refine ⟨?_, ?_, ?_, ?_, ?_, ?_⟩
    · simp [withNB, e, bindsOf]
    · simp [withNB, e, lastK, Tm.kids]
    · simp only [withNB, e, List.headD_cons, List.drop_succ_cons, List.drop_zero]
      have hall : ∀ y ∈ bindsOf (.fix f c b), isNam y = true := by
        intro y hy
        simp only [bindsOf, List.mem_cons, List.not_mem_nil, or_false] at hy
        rcases hy with rfl | rfl
        · exact hg.1
        · exact hg.2.1
      refine ⟨hn hall _ (by simp), hn hall _ (by simp), ?_, hk.good hg.2.2.2⟩
      have := hd (by
        unfold Dif
        intro i j y hij h1 h2
        exact (show False by
          match i, j, hij with
          | 0, 1, _ => simp [bindsOf] at h1 h2; exact hg.2.2.1 (h1.trans h2.symm)
          | i, j + 2, _ => simp [bindsOf] at h2
          | i + 1, 1, h => omega)) 0 1 f' (by omega) rfl
      intro e2
      subst e2
      exact this rfl
    · have := hk.many
      simp only [withNB, parts, List.length_cons, this]; simp [lastK, Tm.kids]
    · have := hk.deep
      simp only [withNB, Tm.depth, this]; simp [lastK, Tm.kids]
    · intro ns b; rfl
  | bind c v b =>
    obtain ⟨c', e⟩ := one_of hl
    rw [e] at hn
    refine ⟨?_, ?_, ?_, ?_, ?_, ?_⟩
    · simp [withNB, e, bindsOf]
    · simp [withNB, e, lastK, Tm.kids]
    · simp only [withNB, e, List.headD_cons]
      exact ⟨hn (by simpa [bindsOf] using hg.1) _ (by simp), hg.2.1, hk.good hg.2.2⟩
    · have := hk.many
      simp only [withNB, parts, List.length_cons, List.length_append, this]; simp [lastK, Tm.kids]
    · have := hk.deep
      simp only [withNB, Tm.depth, this]; simp [lastK, Tm.kids]
    · intro ns b; rfl
  | num _ => exact absurd rfl hb
  | var _ => exact absurd rfl hb
  | app _ _ => exact absurd rfl hb
  | op _ _ _ => exact absurd rfl hb
  | sel _ _ _ => exact absurd rfl hb
theorem withNB_self {t : Tm} (h : bindsOf t ≠ []) : withNB t (bindsOf t) (lastK t) = t := by
  cases t <;> simp [bindsOf] at h <;> simp [withNB, bindsOf, lastK, Tm.kids]
theorem binds_dif {t : Tm} (hg : t.good) : Dif (bindsOf t) := by
  unfold Dif
  intro i j y hij h1 h2
  cases t with
  | fix f c b =>
    match i, j, hij with
    | 0, 1, _ => simp [bindsOf] at h1 h2; exact hg.2.2.1 (h1.trans h2.symm)
    | i, j + 2, _ => simp [bindsOf] at h2
    | i + 1, 1, h => omega
  | fn c b => match i, j, hij with | i, j + 1, _ => simp [bindsOf] at h2
  | bind c v b => match i, j, hij with | i, j + 1, _ => simp [bindsOf] at h2
  | num _ => simp [bindsOf] at h1
  | var _ => simp [bindsOf] at h1
  | app _ _ => simp [bindsOf] at h1
  | op _ _ _ => simp [bindsOf] at h1
  | sel _ _ _ => simp [bindsOf] at h1
theorem stepS_names (sub : UInt8 → Tm → Tm → Tm × Bool) (fr : Text) (x : UInt8) (k : Nat) (s : Bs) (j : Nat) (hj : k < j) : (stepS sub fr x k s).ns[j]? = s.ns[j]? := by
  unfold stepS
  split
  · rfl
  · split
    · rfl
    · split
      · split
        · rfl
        · simp only; rw [List.getElem?_set_ne (by omega)]
      · rfl
theorem stepsS_names (sub : UInt8 → Tm → Tm → Tm × Bool) (fr : Text) (x : UInt8) (ns : Text) (b : Tm) : ∀ (k j : Nat), k ≤ j → (stepsS sub fr x ns b k).ns[j]? = ns[j]?
  | 0, _, _ => rfl
  | k + 1, j, h => (stepS_names sub fr x k _ j (by omega)).trans (stepsS_names sub fr x ns b k j (by omega))
theorem dif_take {ns : Text} (h : Dif ns) {k : Nat} {c : UInt8} (hc : ns[k]? = some c) : c ∉ ns.take k := by
  intro hm
  obtain ⟨i, hi⟩ := List.getElem?_of_mem hm
  rw [List.getElem?_take] at hi
  split at hi
  · exact h i k c (by assumption) hi hc
  · cases hi
/-- A value is a binder in a state that is well. -/
structure OpAt (t : Tm) (s : Bs) (v : Value) : Prop where
  val : v = enc (withNB t s.ns s.b)
  ok : s.ok = true
end Go.Proofs.Ytojbffiffcfblaa
