import Derived.Test.YtkhdghbjififnaaDoorMSp
import Derived.Outline
import Derived.Test.YtkhdghbjififnaaDoorMSc
import Derived.Deep.RegionHeld3
/- The specification's functions on texts of names: l14Find. -/
namespace Go.Proofs.YtkhdghbjififnaaDoor
open Go.RowKit
open Ff
set_option linter.unusedVariables false

/-- Where a byte stands first in a text. -/
def findI (c : UInt8) : Text → Int
  | [] => -1
  | a :: s => if a = c then 0 else (if findI c s < 0 then -1 else findI c s + 1)
theorem findI_mem (c : UInt8) (s : Text) : findI c s < 0 ↔ c ∉ s := by
  induction s with
  | nil => simp [findI]
  | cons a s ih =>
    unfold findI
    by_cases h : a = c
    · simp [h]
    · rw [if_neg h]
      by_cases h2 : findI c s < 0
      · rw [if_pos h2]; simp only [List.mem_cons, not_or]; exact ⟨fun _ => ⟨fun e => h e.symm, ih.1 h2⟩, fun _ => by decide⟩
      · rw [if_neg h2]; simp only [List.mem_cons, not_or]; exact ⟨fun h3 => by omega, fun h3 => absurd (ih.2 h3.2) h2⟩
theorem findI_at {c : UInt8} {s : Text} {k : Nat} (hk : s[k]? = some c) (hn : c ∉ s.take k) : findI c s = k := by
  induction s generalizing k with
  | nil => simp at hk
  | cons a s ih =>
    unfold findI
    cases k with
    | zero => simp at hk; simp [hk]
    | succ k =>
      simp only [List.getElem?_cons_succ] at hk
      simp only [List.take_succ_cons, List.mem_cons, not_or] at hn
      rw [if_neg (fun e => hn.1 e.symm), ih hk hn.2, if_neg (by omega)]
      omega
theorem findI_none {c : UInt8} {s : Text} (h : c ∉ s) : findI c s = -1 := by
  induction s with
  | nil => rfl
  | cons a s ih =>
    simp only [List.mem_cons, not_or] at h
    unfold findI
    rw [if_neg (fun e => h.1 e.symm), ih h.2]
    rfl

theorem byte_eq (s : Text) (k : Nat) (c d : UInt8) (hd : s[k]? = some d) (h2 : k < (⟨s.toArray⟩ : ByteArray).size) : (((((⟨s.toArray⟩ : ByteArray)[k]'h2).toNat : Nat) : Int) == ((c.toNat : Nat) : Int)) = decide (d = c) := by
  rw [index_byte s k d hd h2]
  by_cases h : d = c
  · simp [h]
  · have h3 : d.toNat ≠ c.toNat := fun e => h (UInt8.toNat_inj.1 e)
    simp [h]
    omega
theorem size_data (s : Text) : (⟨s.toArray⟩ : ByteArray).size = s.length := by simp [ByteArray.size]

/-- The sixteen names. -/
def letters : Text := [97, 98, 99, 100, 101, 102, 103, 104, 105, 106, 107, 108, 109, 110, 111, 112]
/-- The names of a text in order, each once. -/
def sortN (s : Text) : Text := letters.filter (fun c => decide (c ∈ s))
theorem letters_fin : ∀ k : Fin 16, letters[k.1]? = some (UInt8.ofNat (97 + k.1)) ∧ (UInt8.ofNat (97 + k.1)).toNat = 97 + k.1 := by decide
theorem letters_at (k : Nat) (h : k < 16) : ∃ c : UInt8, letters[k]? = some c ∧ c.toNat = 97 + k := ⟨_, letters_fin ⟨k, h⟩⟩
theorem filter_take (s : Text) (k : Nat) (c : UInt8) (h : letters[k]? = some c) : (letters.take (k + 1)).filter (fun c => decide (c ∈ s)) = (letters.take k).filter (fun c => decide (c ∈ s)) ++ (if c ∈ s then [c] else []) := by
  rw [List.take_add_one, h]
  simp [List.filter_append]
  by_cases h2 : c ∈ s <;> simp [h2]

end Go.Proofs.YtkhdghbjififnaaDoor

/- The specification's functions on texts of names: l1Less, l1Free. -/
namespace Go.Proofs.YtkhdghbjififnaaDoor
open Go.RowKit
open Ff
set_option linter.unusedVariables false

/-- The names of a text that are not in another one. -/
def lessN (s names : Text) : Text := s.filter (fun c => decide (c ∉ names))

theorem extract_one (s : Text) (k : Nat) (d : UInt8) (hd : s[k]? = some d) : (⟨s.toArray⟩ : ByteArray).extract k (k + 1) = ⟨#[d]⟩ := by
  apply ba_ext
  obtain ⟨h1, h2⟩ := List.getElem?_eq_some_iff.1 hd
  have e : (s.drop k).take 1 = [d] := by rw [List.drop_eq_getElem_cons h1, h2]; rfl
  simp [ByteArray.data_extract, e]
theorem less_take (s names : Text) (k : Nat) (c : UInt8) (h : s[k]? = some c) : (s.take (k + 1)).filter (fun c => decide (c ∉ names)) = (s.take k).filter (fun c => decide (c ∉ names)) ++ (if c ∈ names then [] else [c]) := by
  rw [List.take_add_one, h]
  simp [List.filter_append]
  by_cases h2 : c ∈ names <;> simp [h2]

end Go.Proofs.YtkhdghbjififnaaDoor

/- The specification's l1Free. -/
namespace Go.Proofs.YtkhdghbjififnaaDoor
open Go.RowKit
open Ff
set_option linter.unusedVariables false

/-- The names that stand free in a term, as the specification tells them. -/
def sfree : Tm → Text
  | .num _ => sortN []
  | .var c => [c]
  | .fn c b => lessN (sfree b) [c]
  | .fix f c b => lessN (sfree b) [f, c]
  | .app f a => sortN (sfree f ++ sfree a)
  | .bind c v b => sortN (sfree v ++ lessN (sfree b) [c])
  | .op _ l r => sortN (sfree l ++ sfree r)
  | .sel a b c => sortN (sfree a ++ (sfree b ++ sfree c))
theorem less_len (s n : Text) : (lessN s n).length ≤ s.length := List.length_filter_le _ _
theorem sort_len (s : Text) : (sortN s).length ≤ 16 := List.length_filter_le _ letters
theorem sfree_len (t : Tm) : (sfree t).length ≤ 16 := by
  induction t with
  | num _ => exact sort_len _
  | var _ => simp [sfree]
  | fn c b ih => exact Nat.le_trans (less_len _ _) ih
  | fix f c b ih => exact Nat.le_trans (less_len _ _) ih
  | app | bind | op | sel => exact sort_len _
/-- The names free in the first k kids, one text behind the other. -/
def freeTo (l : List Tm) (k : Nat) : Text := (l.take k).flatMap sfree
theorem freeTo_succ (l : List Tm) (k : Nat) (s : Tm) (h : l[k]? = some s) : freeTo l (k + 1) = freeTo l k ++ sfree s := by
  unfold freeTo
  rw [List.take_add_one, h]
  simp
theorem freeTo_len (l : List Tm) (k : Nat) : (freeTo l k).length ≤ 16 * k := by
  induction k with
  | zero => simp [freeTo]
  | succ k ih =>
    rcases h : l[k]? with _ | s
    · have e : freeTo l (k + 1) = freeTo l k := by unfold freeTo; rw [List.take_add_one, h]; simp
      rw [e]; omega
    · rw [freeTo_succ l k s h, List.length_append]
      have := sfree_len s
      omega
theorem free_kids (t : Tm) (h : kindOf t ≠ 118 ∧ kindOf t ≠ 92 ∧ kindOf t ≠ 64 ∧ kindOf t ≠ 61) : sfree t = sortN (freeTo t.kids t.kids.length) := by
  cases t with
  | num n => rfl
  | app f a => simp [sfree, Tm.kids, freeTo]
  | op s l r => simp [sfree, Tm.kids, freeTo]
  | sel a b c => simp [sfree, Tm.kids, freeTo]
  | _ => simp [kindOf] at h
/-- What a region of the function needs of a world: the box's names and kids, and the cells of the first 1. -/
abbrev FreeS1 (w : World) (names : Text) (g cap : Nat) (x0 y0 : Int) (st0 : ByteArray) (aa0 : Option Addr) (l0 cc0 : Nat) (w' : World) : Prop :=
  w'.cell? ⟨w.heap.size, 2, none⟩ = some (.string ⟨(names : Text).toArray⟩) ∧ w'.cell? ⟨w.heap.size, 3, none⟩ = some (.slice (some ⟨g, 0, none⟩) 1 cap) ∧ w'.cell? ⟨g, 0, none⟩ = some (.int .u8 x0) ∧ w'.cell? ⟨g, 1, none⟩ = some (.int .i64 y0) ∧ w'.cell? ⟨g, 2, none⟩ = some (.string st0) ∧ w'.cell? ⟨g, 3, none⟩ = some (.slice aa0 l0 cc0) ∧ Below w.heap.size w w' ∧ w.heap.size < w'.heap.size
theorem FreeS1.keep {w : World} {names : Text} {g cap : Nat} {x0 y0 : Int} {st0 : ByteArray} {aa0 : Option Addr} {l0 cc0 : Nat} {w1 w2 : World} (h : FreeS1 w names g cap x0 y0 st0 aa0 l0 cc0 w1) (hg : g < w.heap.size) (hb : Below w1.heap.size w1 w2) : FreeS1 w names g cap x0 y0 st0 aa0 l0 cc0 w2 := by
  obtain ⟨h0, h1, h2, h3, h4, h5, h6, h7⟩ := h
  have k := hb.size
  exact ⟨(hb.cell (p := ⟨w.heap.size, 2, none⟩) (by simpa using h7)).trans h0, (hb.cell (p := ⟨w.heap.size, 3, none⟩) (by simpa using h7)).trans h1, (hb.cell (p := ⟨g, 0, none⟩) (by simp; omega)).trans h2, (hb.cell (p := ⟨g, 1, none⟩) (by simp; omega)).trans h3, (hb.cell (p := ⟨g, 2, none⟩) (by simp; omega)).trans h4, (hb.cell (p := ⟨g, 3, none⟩) (by simp; omega)).trans h5, h6.trans (hb.mono h6.size), by omega⟩
/-- What a region of the function needs of a world: the box's names and kids, and the cells of the first 2. -/
abbrev FreeS2 (w : World) (names : Text) (g cap : Nat) (x0 y0 : Int) (st0 : ByteArray) (aa0 : Option Addr) (l0 cc0 : Nat) (x1 y1 : Int) (st1 : ByteArray) (aa1 : Option Addr) (l1 cc1 : Nat) (w' : World) : Prop :=
  w'.cell? ⟨w.heap.size, 2, none⟩ = some (.string ⟨(names : Text).toArray⟩) ∧ w'.cell? ⟨w.heap.size, 3, none⟩ = some (.slice (some ⟨g, 0, none⟩) 2 cap) ∧ w'.cell? ⟨g, 0, none⟩ = some (.int .u8 x0) ∧ w'.cell? ⟨g, 1, none⟩ = some (.int .i64 y0) ∧ w'.cell? ⟨g, 2, none⟩ = some (.string st0) ∧ w'.cell? ⟨g, 3, none⟩ = some (.slice aa0 l0 cc0) ∧ w'.cell? ⟨g, 4, none⟩ = some (.int .u8 x1) ∧ w'.cell? ⟨g, 5, none⟩ = some (.int .i64 y1) ∧ w'.cell? ⟨g, 6, none⟩ = some (.string st1) ∧ w'.cell? ⟨g, 7, none⟩ = some (.slice aa1 l1 cc1) ∧ Below w.heap.size w w' ∧ w.heap.size < w'.heap.size
theorem FreeS2.keep {w : World} {names : Text} {g cap : Nat} {x0 y0 : Int} {st0 : ByteArray} {aa0 : Option Addr} {l0 cc0 : Nat} {x1 y1 : Int} {st1 : ByteArray} {aa1 : Option Addr} {l1 cc1 : Nat} {w1 w2 : World} (h : FreeS2 w names g cap x0 y0 st0 aa0 l0 cc0 x1 y1 st1 aa1 l1 cc1 w1) (hg : g < w.heap.size) (hb : Below w1.heap.size w1 w2) : FreeS2 w names g cap x0 y0 st0 aa0 l0 cc0 x1 y1 st1 aa1 l1 cc1 w2 := by
  obtain ⟨h0, h1, h2, h3, h4, h5, h6, h7, h8, h9, h10, h11⟩ := h
  have k := hb.size
  exact ⟨(hb.cell (p := ⟨w.heap.size, 2, none⟩) (by simpa using h11)).trans h0, (hb.cell (p := ⟨w.heap.size, 3, none⟩) (by simpa using h11)).trans h1, (hb.cell (p := ⟨g, 0, none⟩) (by simp; omega)).trans h2, (hb.cell (p := ⟨g, 1, none⟩) (by simp; omega)).trans h3, (hb.cell (p := ⟨g, 2, none⟩) (by simp; omega)).trans h4, (hb.cell (p := ⟨g, 3, none⟩) (by simp; omega)).trans h5, (hb.cell (p := ⟨g, 4, none⟩) (by simp; omega)).trans h6, (hb.cell (p := ⟨g, 5, none⟩) (by simp; omega)).trans h7, (hb.cell (p := ⟨g, 6, none⟩) (by simp; omega)).trans h8, (hb.cell (p := ⟨g, 7, none⟩) (by simp; omega)).trans h9, h10.trans (hb.mono h10.size), by omega⟩
theorem str_app2 (s t : Text) : (⟨s.toArray⟩ ++ ⟨t.toArray⟩ : ByteArray) = ⟨(s ++ t).toArray⟩ := by
  apply ba_ext
  simp [ByteArray.data_append]
end Go.Proofs.YtkhdghbjififnaaDoor

/- The specification's l1Free, at a binding. -/
namespace Go.Proofs.YtkhdghbjififnaaDoor
open Go.RowKit
open Ff
set_option linter.unusedVariables false

attribute [local irreducible] Calls

end Go.Proofs.YtkhdghbjififnaaDoor

/- The specification's l1Free, at every term. -/
namespace Go.Proofs.YtkhdghbjififnaaDoor
open Go.RowKit
open Ff
set_option linter.unusedVariables false

end Go.Proofs.YtkhdghbjififnaaDoor
