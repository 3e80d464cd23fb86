import Derived.Test.YtkhdghbjififnaaDoorPsC
/- The specification's putting: what a node comes to (pure), and terms without kids. -/
namespace Go.Proofs.YtkhdghbjififnaaDoor
open Go.RowKit
open Ff
set_option linter.unusedVariables false

theorem undS_len (n : Nat) (ns : Text) (b : Tm) (x : UInt8) (u : Tm) : (undS (subS n) ns b x u).1.length = ns.length := by
  have K := (stepsS_keep (fun y d t hd => subS_like n y d t hd) (sfree u) x ns b ns.length).len
  unfold undS
  split
  · rfl
  · split <;> exact K
/-- What stands behind the kids in which a name is put at once. -/
theorem qual_plain {t : Tm} (h : bindsOf t = []) : qual t = t.kids := by unfold qual; rw [if_pos h]
theorem qual_bind {t : Tm} (h : bindsOf t ≠ []) : qual t = t.kids.dropLast := by unfold qual; rw [if_neg h]
theorem binds_kids {t : Tm} (h : bindsOf t ≠ []) : t.kids ≠ [] ∧ namesOf t = bindsOf t := by cases t <;> simp_all [bindsOf, Tm.kids, namesOf]
theorem plain_names {t : Tm} (hk : t.kids ≠ []) (h : bindsOf t = []) : namesOf t = [] := by cases t <;> simp_all [bindsOf, Tm.kids, namesOf]
theorem kid_last {t : Tm} (h : t.kids ≠ []) : t.kids[t.kids.length - 1]? = some (lastK t) := by cases t <;> simp_all [Tm.kids, lastK]
/-- A node that binds nothing. -/
theorem sub_plain (n : Nat) (x : UInt8) (u t : Tm) (hk : t.kids ≠ []) (hb : bindsOf t = []) :
    kindOf (subS (n + 1) x u t).1 = kindOf t ∧ numOf (subS (n + 1) x u t).1 = numOf t ∧ namesOf (subS (n + 1) x u t).1 = [] ∧ (subS (n + 1) x u t).1.kids = (qual t).map (fun s => (subS n x u s).1) ∧ (subS (n + 1) x u t).2 = (qual t).all (fun s => (subS n x u s).2) := by
  rw [(sub_node n x u t hk).1 hb, qual_plain hb]
  cases t <;> simp_all [bindsOf, Tm.kids, reTm, kindOf, numOf, namesOf]
/-- A node that binds names. -/
theorem sub_binds (n : Nat) (x : UInt8) (u t : Tm) (hb : bindsOf t ≠ []) :
    kindOf (subS (n + 1) x u t).1 = kindOf t ∧ numOf (subS (n + 1) x u t).1 = numOf t ∧ namesOf (subS (n + 1) x u t).1 = (undS (subS n) (bindsOf t) (lastK t) x u).1 ∧ (subS (n + 1) x u t).1.kids = (qual t).map (fun s => (subS n x u s).1) ++ [(undS (subS n) (bindsOf t) (lastK t) x u).2.1] ∧
      (subS (n + 1) x u t).2 = ((qual t).all (fun s => (subS n x u s).2) && (undS (subS n) (bindsOf t) (lastK t) x u).2.2) := by
  have hl := undS_len n (bindsOf t) (lastK t) x u
  rw [(sub_node n x u t (binds_kids hb).1).2 hb, qual_bind hb]
  cases t with
  | fn c b =>
    obtain ⟨c', e0⟩ := one_of hl
    have e : (undS (subS n) [c] b x u).1 = [c'] := e0
    simp [bindsOf, Tm.kids, reTm, kindOf, numOf, namesOf, lastK, e]
  | fix f c b =>
    obtain ⟨f', c', e0⟩ := two_of' hl
    have e : (undS (subS n) [f, c] b x u).1 = [f', c'] := e0
    simp [bindsOf, Tm.kids, reTm, kindOf, numOf, namesOf, lastK, e]
  | bind c v b =>
    obtain ⟨c', e0⟩ := one_of hl
    have e : (undS (subS n) [c] b x u).1 = [c'] := e0
    simp [bindsOf, Tm.kids, reTm, kindOf, numOf, namesOf, lastK, e]
  | num _ => exact absurd rfl hb
  | var _ => exact absurd rfl hb
  | app _ _ => exact absurd rfl hb
  | op _ _ _ => exact absurd rfl hb
  | sel _ _ _ => exact absurd rfl hb
theorem take_snoc {α : Type} {l : List α} {k : Nat} {s : α} (h : l[k]? = some s) : l.take (k + 1) = l.take k ++ [s] := by
  rw [List.take_add_one, h]
  rfl
theorem kind_sub_var (t : Tm) (h : t.kids ≠ []) (hg : t.good) : kindOf t ≠ 118 := by
  cases t with
  | op s l r => rcases hg.1 with h | h | h <;> subst h <;> simp [kindOf]
  | var c => exact absurd rfl h
  | num c => exact absurd rfl h
  | _ => simp [kindOf]

theorem UnW.grow {w W W' : World} {k n : Int} {s : ByteArray} {a : Option Addr} {l c : Nat} {k' n' : Int} {s' : ByteArray} {a' : Option Addr} {l' c' : Nat} {row : Option Nat} (h : UnW w k n s a l c k' n' s' a' l' c' W) (hg : W.grownBy W' row) (hr : ∀ g, row = some g → w.heap.size + 3 ≤ g) : UnW w k n s a l c k' n' s' a' l' c' W' := by
  have hs := h.size
  have key : ∀ j, j < w.heap.size + 3 → W'.heap[j]? = W.heap[j]? := fun j hj => hg.block j (by omega) (fun e => by have := hr j e.symm; omega)
  exact ⟨(key _ (by omega)).trans h.body, (key _ (by omega)).trans h.put, (key _ (by omega)).trans h.res, h.below.trans ⟨hg.os, hg.tape, hg.output, hg.size, fun j hj => key j (by omega)⟩, by have := hg.size; omega⟩
end Go.Proofs.YtkhdghbjififnaaDoor
