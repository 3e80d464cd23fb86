import Derived.Test.YtjfhncfbejephaaGreatDoorMSp
import Derived.Outline
import Derived.Test.YtjfhncfbejephaaGreatDoorMSc
import Derived.Deep.RegionHeld3
/- The specification's functions on texts of names: l14Find. -/
namespace Go.Proofs.YtjfhncfbejephaaGreatDoor
open Go.RowKit
open Ff
set_option linter.unusedVariables false

/-- Where a byte stands first in a text. -/
def findI (c : UInt8) : Text → Int
  | [] => -1
  | a :: s => if a = c then 0 else (if findI c s < 0 then -1 else findI c s + 1)
theorem findI_mem (c : UInt8) (s : Text) : findI c s < 0 ↔ c ∉ s := by
  induction s with
  | nil => simp [findI]
  | cons a s ih =>
    unfold findI
    by_cases h : a = c
    · simp [h]
    · rw [if_neg h]
      by_cases h2 : findI c s < 0
      · rw [if_pos h2]; simp only [List.mem_cons, not_or]; exact ⟨fun _ => ⟨fun e => h e.symm, ih.1 h2⟩, fun _ => by decide⟩
      · rw [if_neg h2]; simp only [List.mem_cons, not_or]; exact ⟨fun h3 => by omega, fun h3 => absurd (ih.2 h3.2) h2⟩
theorem findI_at {c : UInt8} {s : Text} {k : Nat} (hk : s[k]? = some c) (hn : c ∉ s.take k) : findI c s = k := by
  induction s generalizing k with
  | nil => simp at hk
  | cons a s ih =>
    unfold findI
    cases k with
    | zero => simp at hk; simp [hk]
    | succ k =>
      simp only [List.getElem?_cons_succ] at hk
      simp only [List.take_succ_cons, List.mem_cons, not_or] at hn
      rw [if_neg (fun e => hn.1 e.symm), ih hk hn.2, if_neg (by omega)]
      omega
theorem findI_none {c : UInt8} {s : Text} (h : c ∉ s) : findI c s = -1 := by
  induction s with
  | nil => rfl
  | cons a s ih =>
    simp only [List.mem_cons, not_or] at h
    unfold findI
    rw [if_neg (fun e => h.1 e.symm), ih h.2]
    rfl

theorem byte_eq (s : Text) (k : Nat) (c d : UInt8) (hd : s[k]? = some d) (h2 : k < (⟨s.toArray⟩ : ByteArray).size) : (((((⟨s.toArray⟩ : ByteArray)[k]'h2).toNat : Nat) : Int) == ((c.toNat : Nat) : Int)) = decide (d = c) := by
  rw [index_byte s k d hd h2]
  by_cases h : d = c
  · simp [h]
  · have h3 : d.toNat ≠ c.toNat := fun e => h (UInt8.toNat_inj.1 e)
    simp [h]
    omega
theorem size_data (s : Text) : (⟨s.toArray⟩ : ByteArray).size = s.length := by simp [ByteArray.size]

set_option maxHeartbeats 1000000 in
theorem find_c (s : Text) (c : UInt8) (w : World) (hl : s.length ≤ 100000) :
    Calls Tryz.prog 92 #[.string ⟨s.toArray⟩, .int .u8 (c.toNat : Int)] w fun e w' => e = .returned (.int .i64 (findI c s)) ∧ w' = w := by
  go_enter Tryz.func92, Tryz.ntmps92
  go_wp2_with fail
  go_loopw [5] (fun i wr => ∃ k : Nat, k ≤ s.length ∧ i = .int .i64 k ∧ c ∉ s.take k ∧ wr = w) (fun i _ => s.length - (intOf i).toNat)
  case atStart => exact ⟨0, Nat.zero_le _, rfl, by simp, rfl⟩
  case round =>
    obtain ⟨k, hk, rfl, hn, rfl⟩ := hrel
    have HN := Lib.hid hn
    clear hn
    by_cases hlt : k < s.length
    · obtain ⟨d, hd⟩ : ∃ d, s[k]? = some d := ⟨_, List.getElem?_eq_getElem hlt⟩
      go_wp2_with fail
      · rename_i hc
        rw [byte_eq s k c d hd (by rw [size_data]; exact hlt), decide_eq_true_iff] at hc
        subst hc
        go_ret
        exact ⟨by rw [findI_at hd HN.out]; rfl, rfl⟩
      · rename_i hc
        rw [byte_eq s k c d hd (by rw [size_data]; exact hlt), decide_eq_false_iff_not] at hc
        refine ⟨⟨k + 1, by omega, by go_num, ?_, trivial⟩, by simp [intOf]; omega⟩
        rw [List.take_add_one, hd]
        simp only [Option.toList_some, List.mem_append, List.mem_singleton, not_or]
        exact ⟨HN.out, fun e => hc e.symm⟩
    · have hk2 : s.take k = s := List.take_of_length_le (by omega)
      rw [hk2] at HN
      go_wp2_with fail
      go_ret
      exact ⟨by rw [findI_none HN.out]; rfl, rfl⟩

/-- The sixteen names. -/
def letters : Text := [97, 98, 99, 100, 101, 102, 103, 104, 105, 106, 107, 108, 109, 110, 111, 112]
/-- The names of a text in order, each once. -/
def sortN (s : Text) : Text := letters.filter (fun c => decide (c ∈ s))
theorem letters_fin : ∀ k : Fin 16, letters[k.1]? = some (UInt8.ofNat (97 + k.1)) ∧ (UInt8.ofNat (97 + k.1)).toNat = 97 + k.1 := by decide
theorem letters_at (k : Nat) (h : k < 16) : ∃ c : UInt8, letters[k]? = some c ∧ c.toNat = 97 + k := ⟨_, letters_fin ⟨k, h⟩⟩
theorem filter_take (s : Text) (k : Nat) (c : UInt8) (h : letters[k]? = some c) : (letters.take (k + 1)).filter (fun c => decide (c ∈ s)) = (letters.take k).filter (fun c => decide (c ∈ s)) ++ (if c ∈ s then [c] else []) := by
  rw [List.take_add_one, h]
  simp [List.filter_append]
  by_cases h2 : c ∈ s <;> simp [h2]

set_option maxRecDepth 100000 in
set_option maxHeartbeats 1000000 in
theorem sorted_c (s : Text) (w : World) (hl : s.length ≤ 100000) :
    Calls Tryz.prog 67 #[.string ⟨s.toArray⟩] w fun e w' => e = .returned (.string ⟨(sortN s).toArray⟩) ∧ Below w.heap.size w w' := by
  go_enter Tryz.func67, Tryz.ntmps67
  go_wp2_with fail
  go_loopw [3, 4] (fun o i wr => ∃ (k : Nat) (out : Text), k ≤ 16 ∧ i = .int .u8 (97 + k : Nat) ∧ o = .string ⟨out.toArray⟩ ∧ out = (letters.take k).filter (fun c => decide (c ∈ s)) ∧ out.length ≤ k ∧ Below w.heap.size w wr) (fun _ i _ => 113 - (intOf i).toNat)
  case atStart => exact ⟨0, [], Nat.zero_le _, rfl, rfl, rfl, Nat.le_refl _, Below.refl _ _⟩
  case round =>
    obtain ⟨k, out, hk, rfl, rfl, ho, hol, hB⟩ := hrel
    have HO := Lib.hid ho
    clear ho
    by_cases hlt : k < 16
    · obtain ⟨c, hc, hcn⟩ := letters_at k hlt
      have F := find_c s c wr hl
      rw [hcn] at F
      have hcn2 : (97 + (k : Int)) = (c.toNat : Int) := by rw [hcn]; simp
      have k1 : (convert 22 9 (.slice (some ⟨wr.heap.size, 0, none⟩) 1 1)).run Tryz.prog (wr.alloc (.cells #[.int .u8 (97 + (k : Int))] 5)) = .ok (.string ⟨[c].toArray⟩) (wr.alloc (.cells #[.int .u8 (97 + (k : Int))] 5)) := by
        rw [hcn2]
        exact str1 _ c _ (cell_new_at _ _ _ _ rfl)
      clear hcn2
      go_wp2_with (go_at_call 92; refine F.mono ?_; clear F; rintro e w1 ⟨rfl, rfl⟩)
      · rename_i hf
        have hm : c ∈ s := by
          apply Classical.byContradiction
          intro h
          have := (findI_mem c s).2 h
          omega
        refine ⟨⟨k + 1, out ++ [c], by omega, by go_num, by rw [str_app], ?_, by simp; omega, hB.alloc hB.size _⟩, by simp [intOf]; omega⟩
        rw [filter_take s k c hc, if_pos hm, HO.out]
      · rename_i hf
        have hm : c ∉ s := (findI_mem c s).1 (by omega)
        refine ⟨⟨k + 1, out, by omega, by go_num, rfl, ?_, by omega, hB⟩, by simp [intOf]; omega⟩
        rw [filter_take s k c hc, if_neg hm, HO.out, List.append_nil]
    · obtain rfl : k = 16 := by omega
      go_wp2_with fail
      go_ret
      exact ⟨by rw [HO.out]; rfl, hB⟩
end Go.Proofs.YtjfhncfbejephaaGreatDoor

/- The specification's functions on texts of names: l1Less, l1Free. -/
namespace Go.Proofs.YtjfhncfbejephaaGreatDoor
open Go.RowKit
open Ff
set_option linter.unusedVariables false

/-- The names of a text that are not in another one. -/
def lessN (s names : Text) : Text := s.filter (fun c => decide (c ∉ names))

theorem extract_one (s : Text) (k : Nat) (d : UInt8) (hd : s[k]? = some d) : (⟨s.toArray⟩ : ByteArray).extract k (k + 1) = ⟨#[d]⟩ := by
  apply ba_ext
  obtain ⟨h1, h2⟩ := List.getElem?_eq_some_iff.1 hd
  have e : (s.drop k).take 1 = [d] := by rw [List.drop_eq_getElem_cons h1, h2]; rfl
  simp [ByteArray.data_extract, e]
theorem less_take (s names : Text) (k : Nat) (c : UInt8) (h : s[k]? = some c) : (s.take (k + 1)).filter (fun c => decide (c ∉ names)) = (s.take k).filter (fun c => decide (c ∉ names)) ++ (if c ∈ names then [] else [c]) := by
  rw [List.take_add_one, h]
  simp [List.filter_append]
  by_cases h2 : c ∈ names <;> simp [h2]

set_option maxRecDepth 100000 in
set_option maxHeartbeats 1000000 in
theorem less_c (s names : Text) (w : World) (hl : s.length ≤ 100000) (hl2 : names.length ≤ 100000) :
    Calls Tryz.prog 66 #[.string ⟨s.toArray⟩, .string ⟨names.toArray⟩] w fun e w' => e = .returned (.string ⟨(lessN s names).toArray⟩) ∧ w' = w := by
  go_enter Tryz.func66, Tryz.ntmps66
  go_wp2_with fail
  go_loopw [5, 9] (fun o i wr => ∃ (k : Nat) (out : Text), k ≤ s.length ∧ i = .int .i64 k ∧ o = .string ⟨out.toArray⟩ ∧ out = (s.take k).filter (fun c => decide (c ∉ names)) ∧ out.length ≤ k ∧ wr = w) (fun _ i _ => s.length - (intOf i).toNat)
  case atStart => exact ⟨0, [], Nat.zero_le _, rfl, rfl, rfl, Nat.le_refl _, rfl⟩
  case round =>
    obtain ⟨k, out, hk, rfl, rfl, ho, hol, rfl⟩ := hrel
    have HO := Lib.hid ho
    clear ho
    by_cases hlt : k < s.length
    · obtain ⟨d, hd⟩ : ∃ d, s[k]? = some d := ⟨_, List.getElem?_eq_getElem hlt⟩
      have hix := index_byte s k d hd (by rw [size_data]; exact hlt)
      have F := find_c names d wr hl2
      go_wp2_with (go_at_call 92; refine F.mono ?_; clear F; rintro e w1 ⟨rfl, rfl⟩)
      · rename_i hf
        have hm : d ∉ names := (findI_mem d names).1 (by omega)
        refine ⟨⟨k + 1, out ++ [d], by omega, by go_num, by rw [extract_one s k d hd, str_app], ?_, by simp; omega, trivial⟩, by simp [intOf]; omega⟩
        rw [less_take s names k d hd, if_neg hm, HO.out]
      · rename_i hf
        have hm : d ∈ names := by
          apply Classical.byContradiction
          intro h
          have := (findI_mem d names).2 h
          omega
        refine ⟨⟨k + 1, out, by omega, by go_num, rfl, ?_, by omega, trivial⟩, by simp [intOf]; omega⟩
        rw [less_take s names k d hd, if_pos hm, HO.out, List.append_nil]
    · obtain rfl : k = s.length := by omega
      have hk2 : s.take s.length = s := List.take_of_length_le (Nat.le_refl _)
      rw [hk2] at HO
      go_wp2_with fail
      go_ret
      exact ⟨by rw [HO.out]; rfl, rfl⟩
end Go.Proofs.YtjfhncfbejephaaGreatDoor

/- The specification's l1Free. -/
namespace Go.Proofs.YtjfhncfbejephaaGreatDoor
open Go.RowKit
open Ff
set_option linter.unusedVariables false

/-- The names that stand free in a term, as the specification tells them. -/
def sfree : Tm → Text
  | .num _ => sortN []
  | .var c => [c]
  | .fn c b => lessN (sfree b) [c]
  | .fix f c b => lessN (sfree b) [f, c]
  | .app f a => sortN (sfree f ++ sfree a)
  | .bind c v b => sortN (sfree v ++ lessN (sfree b) [c])
  | .op _ l r => sortN (sfree l ++ sfree r)
  | .sel a b c => sortN (sfree a ++ (sfree b ++ sfree c))
theorem less_len (s n : Text) : (lessN s n).length ≤ s.length := List.length_filter_le _ _
theorem sort_len (s : Text) : (sortN s).length ≤ 16 := List.length_filter_le _ letters
theorem sfree_len (t : Tm) : (sfree t).length ≤ 16 := by
  induction t with
  | num _ => exact sort_len _
  | var _ => simp [sfree]
  | fn c b ih => exact Nat.le_trans (less_len _ _) ih
  | fix f c b ih => exact Nat.le_trans (less_len _ _) ih
  | app | bind | op | sel => exact sort_len _
/-- The names free in the first k kids, one text behind the other. -/
def freeTo (l : List Tm) (k : Nat) : Text := (l.take k).flatMap sfree
theorem freeTo_succ (l : List Tm) (k : Nat) (s : Tm) (h : l[k]? = some s) : freeTo l (k + 1) = freeTo l k ++ sfree s := by
  unfold freeTo
  rw [List.take_add_one, h]
  simp
theorem freeTo_len (l : List Tm) (k : Nat) : (freeTo l k).length ≤ 16 * k := by
  induction k with
  | zero => simp [freeTo]
  | succ k ih =>
    rcases h : l[k]? with _ | s
    · have e : freeTo l (k + 1) = freeTo l k := by unfold freeTo; rw [List.take_add_one, h]; simp
      rw [e]; omega
    · rw [freeTo_succ l k s h, List.length_append]
      have := sfree_len s
      omega
theorem free_kids (t : Tm) (h : kindOf t ≠ 118 ∧ kindOf t ≠ 92 ∧ kindOf t ≠ 64 ∧ kindOf t ≠ 61) : sfree t = sortN (freeTo t.kids t.kids.length) := by
  cases t with
  | num n => rfl
  | app f a => simp [sfree, Tm.kids, freeTo]
  | op s l r => simp [sfree, Tm.kids, freeTo]
  | sel a b c => simp [sfree, Tm.kids, freeTo]
  | _ => simp [kindOf] at h
def FreeC (n : Nat) : Prop := ∀ (t : Tm) (B : Nat) (v : Value) (w : World), t.depth ≤ n → n ≤ 4000 → Rep (fun g => g < B) w t v → B ≤ w.heap.size → t.good →
  Calls Tryz.prog 45 #[v] w fun e w' => e = .returned (.string ⟨(sfree t).toArray⟩) ∧ Below w.heap.size w w'
/-- What a region of the function needs of a world: the box's names and kids, and the cells of the first 1. -/
abbrev FreeS1 (w : World) (names : Text) (g cap : Nat) (x0 y0 : Int) (st0 : ByteArray) (aa0 : Option Addr) (l0 cc0 : Nat) (w' : World) : Prop :=
  w'.cell? ⟨w.heap.size, 2, none⟩ = some (.string ⟨(names : Text).toArray⟩) ∧ w'.cell? ⟨w.heap.size, 3, none⟩ = some (.slice (some ⟨g, 0, none⟩) 1 cap) ∧ w'.cell? ⟨g, 0, none⟩ = some (.int .u8 x0) ∧ w'.cell? ⟨g, 1, none⟩ = some (.int .i64 y0) ∧ w'.cell? ⟨g, 2, none⟩ = some (.string st0) ∧ w'.cell? ⟨g, 3, none⟩ = some (.slice aa0 l0 cc0) ∧ Below w.heap.size w w' ∧ w.heap.size < w'.heap.size
theorem FreeS1.keep {w : World} {names : Text} {g cap : Nat} {x0 y0 : Int} {st0 : ByteArray} {aa0 : Option Addr} {l0 cc0 : Nat} {w1 w2 : World} (h : FreeS1 w names g cap x0 y0 st0 aa0 l0 cc0 w1) (hg : g < w.heap.size) (hb : Below w1.heap.size w1 w2) : FreeS1 w names g cap x0 y0 st0 aa0 l0 cc0 w2 := by
  obtain ⟨h0, h1, h2, h3, h4, h5, h6, h7⟩ := h
  have k := hb.size
  exact ⟨(hb.cell (p := ⟨w.heap.size, 2, none⟩) (by simpa using h7)).trans h0, (hb.cell (p := ⟨w.heap.size, 3, none⟩) (by simpa using h7)).trans h1, (hb.cell (p := ⟨g, 0, none⟩) (by simp; omega)).trans h2, (hb.cell (p := ⟨g, 1, none⟩) (by simp; omega)).trans h3, (hb.cell (p := ⟨g, 2, none⟩) (by simp; omega)).trans h4, (hb.cell (p := ⟨g, 3, none⟩) (by simp; omega)).trans h5, h6.trans (hb.mono h6.size), by omega⟩
/-- What a region of the function needs of a world: the box's names and kids, and the cells of the first 2. -/
abbrev FreeS2 (w : World) (names : Text) (g cap : Nat) (x0 y0 : Int) (st0 : ByteArray) (aa0 : Option Addr) (l0 cc0 : Nat) (x1 y1 : Int) (st1 : ByteArray) (aa1 : Option Addr) (l1 cc1 : Nat) (w' : World) : Prop :=
  w'.cell? ⟨w.heap.size, 2, none⟩ = some (.string ⟨(names : Text).toArray⟩) ∧ w'.cell? ⟨w.heap.size, 3, none⟩ = some (.slice (some ⟨g, 0, none⟩) 2 cap) ∧ w'.cell? ⟨g, 0, none⟩ = some (.int .u8 x0) ∧ w'.cell? ⟨g, 1, none⟩ = some (.int .i64 y0) ∧ w'.cell? ⟨g, 2, none⟩ = some (.string st0) ∧ w'.cell? ⟨g, 3, none⟩ = some (.slice aa0 l0 cc0) ∧ w'.cell? ⟨g, 4, none⟩ = some (.int .u8 x1) ∧ w'.cell? ⟨g, 5, none⟩ = some (.int .i64 y1) ∧ w'.cell? ⟨g, 6, none⟩ = some (.string st1) ∧ w'.cell? ⟨g, 7, none⟩ = some (.slice aa1 l1 cc1) ∧ Below w.heap.size w w' ∧ w.heap.size < w'.heap.size
theorem FreeS2.keep {w : World} {names : Text} {g cap : Nat} {x0 y0 : Int} {st0 : ByteArray} {aa0 : Option Addr} {l0 cc0 : Nat} {x1 y1 : Int} {st1 : ByteArray} {aa1 : Option Addr} {l1 cc1 : Nat} {w1 w2 : World} (h : FreeS2 w names g cap x0 y0 st0 aa0 l0 cc0 x1 y1 st1 aa1 l1 cc1 w1) (hg : g < w.heap.size) (hb : Below w1.heap.size w1 w2) : FreeS2 w names g cap x0 y0 st0 aa0 l0 cc0 x1 y1 st1 aa1 l1 cc1 w2 := by
  obtain ⟨h0, h1, h2, h3, h4, h5, h6, h7, h8, h9, h10, h11⟩ := h
  have k := hb.size
  exact ⟨(hb.cell (p := ⟨w.heap.size, 2, none⟩) (by simpa using h11)).trans h0, (hb.cell (p := ⟨w.heap.size, 3, none⟩) (by simpa using h11)).trans h1, (hb.cell (p := ⟨g, 0, none⟩) (by simp; omega)).trans h2, (hb.cell (p := ⟨g, 1, none⟩) (by simp; omega)).trans h3, (hb.cell (p := ⟨g, 2, none⟩) (by simp; omega)).trans h4, (hb.cell (p := ⟨g, 3, none⟩) (by simp; omega)).trans h5, (hb.cell (p := ⟨g, 4, none⟩) (by simp; omega)).trans h6, (hb.cell (p := ⟨g, 5, none⟩) (by simp; omega)).trans h7, (hb.cell (p := ⟨g, 6, none⟩) (by simp; omega)).trans h8, (hb.cell (p := ⟨g, 7, none⟩) (by simp; omega)).trans h9, h10.trans (hb.mono h10.size), by omega⟩
theorem str_app2 (s t : Text) : (⟨s.toArray⟩ ++ ⟨t.toArray⟩ : ByteArray) = ⟨(s ++ t).toArray⟩ := by
  apply ba_ext
  simp [ByteArray.data_append]
set_option maxRecDepth 100000 in
set_option maxHeartbeats 4000000 in
theorem free_fn (n : Nat) (ih : FreeC n) (c : UInt8) (b : Tm) (B : Nat) (v : Value) (w : World) (ht0 : b.depth ≤ n) (hn : n + 1 ≤ 4000) (hrep : Rep (fun g => g < B) w (.fn c b) v) (hB : B ≤ w.heap.size) (hgd0 : b.good) :
    Calls Tryz.prog 45 #[v] w fun e w' => e = .returned (.string ⟨(lessN (sfree b) [c]).toArray⟩) ∧ Below w.heap.size w w' := by
  cases hrep with
  | mk _ g cap cs hg hc hk =>
  have hr0 := hk 0 b rfl
  obtain ⟨x0, y0, st0, aa0, l0, cc0, he0⟩ := hr0.junk
  have hq0 : Rep (fun g => g < B) w b (.agg #[.int .u8 x0, .int .i64 y0, .string st0, .slice aa0 l0 cc0]) := by rw [← he0]; exact hr0
  unfold four at he0
  simp only [Value.agg.injEq, Array.mk.injEq, List.cons.injEq, and_true, Nat.mul_zero, Nat.zero_add] at he0
  obtain ⟨i0, i1, i2, i3⟩ := he0
  have e0 := hc 0 (by simp [Tm.kids])
  rw [i0] at e0
  have e1 := hc 1 (by simp [Tm.kids])
  rw [i1] at e1
  have e2 := hc 2 (by simp [Tm.kids])
  rw [i2] at e2
  have e3 := hc 3 (by simp [Tm.kids])
  rw [i3] at e3
  have C0 : ∀ w', FreeS1 w [c] g cap x0 y0 st0 aa0 l0 cc0 w' → Calls Tryz.prog 45 #[.agg #[.int .u8 x0, .int .i64 y0, .string st0, .slice aa0 l0 cc0]] w' fun e w'' => e = .returned (.string ⟨(sfree b).toArray⟩) ∧ FreeS1 w [c] g cap x0 y0 st0 aa0 l0 cc0 w'' := fun w' hS => by
    obtain ⟨h0, h1, h2, h3, h4, h5, h6, h7⟩ := id hS
    exact (ih b B _ w' ht0 (by omega) (hq0.keep (fun g' hg' => h6.block g' (by omega)) (fun g' hg' => hg')) (by omega) hgd0).mono fun e w'' h => ⟨h.1, hS.keep (by omega) h.2⟩
  have L : ∀ w', Calls Tryz.prog 66 #[.string ⟨(sfree b).toArray⟩, .string ⟨([c] : Text).toArray⟩] w' fun e w'' => e = .returned (.string ⟨(lessN (sfree b) [c]).toArray⟩) ∧ w'' = w' := fun w' => less_c _ _ w' (by have := sfree_len b; omega) (by simp)
  clear hc hk ih hr0 hq0 i0 i1 i2 i3
  unfold tmHead
  show Calls Tryz.prog 45 #[.agg #[.int .u8 92, .int .i64 0, .string ⟨([c] : Text).toArray⟩, .slice (some ⟨g, 0, none⟩) 1 cap]] w _
  go_enter Tryz.func45, Tryz.ntmps45
  go_wp2_with fail
  have hW : FreeS1 w [c] g cap x0 y0 st0 aa0 l0 cc0 (w.alloc (.cells #[.int .u8 92, .int .i64 0, .string ⟨([c] : Text).toArray⟩, .slice (some ⟨g, 0, none⟩) 1 cap] 78)) := by
    have hb := (Below.refl w.heap.size w).alloc (Nat.le_refl _) (.cells #[.int .u8 92, .int .i64 0, .string ⟨([c] : Text).toArray⟩, .slice (some ⟨g, 0, none⟩) 1 cap] 78)
    refine ⟨?_, ?_, (hb.cell (p := ⟨g, 0, none⟩) (by simp; omega)).trans e0, (hb.cell (p := ⟨g, 1, none⟩) (by simp; omega)).trans e1, (hb.cell (p := ⟨g, 2, none⟩) (by simp; omega)).trans e2, (hb.cell (p := ⟨g, 3, none⟩) (by simp; omega)).trans e3, hb, by simp⟩
    · exact cell_new w [.int .u8 92, .int .i64 0, .string ⟨([c] : Text).toArray⟩, .slice (some ⟨g, 0, none⟩) 1 cap] 78 2
    · exact cell_new w [.int .u8 92, .int .i64 0, .string ⟨([c] : Text).toArray⟩, .slice (some ⟨g, 0, none⟩) 1 cap] 78 3
  obtain ⟨W1, hW1⟩ : ∃ W1, w.alloc (.cells #[.int .u8 92, .int .i64 0, .string ⟨([c] : Text).toArray⟩, .slice (some ⟨g, 0, none⟩) 1 cap] 78) = W1 := ⟨_, rfl⟩
  rw [hW1] at hW ⊢
  clear hW1
  obtain ⟨s0, s1, s2, s3, s4, s5, s6, s7⟩ := hW
  have s20 := s6.drew
  clear e0 e1 e2 e3
  go_region_held3 (fun w' => w'.cell? ⟨w.heap.size, 2, none⟩ = some (.string ⟨([c] : Text).toArray⟩) ∧ w'.cell? ⟨w.heap.size, 3, none⟩ = some (.slice (some ⟨g, 0, none⟩) 1 cap) ∧ w'.cell? ⟨g, 0, none⟩ = some (.int .u8 x0) ∧ w'.cell? ⟨g, 1, none⟩ = some (.int .i64 y0) ∧ w'.cell? ⟨g, 2, none⟩ = some (.string st0) ∧ w'.cell? ⟨g, 3, none⟩ = some (.slice aa0 l0 cc0) ∧ Below w.heap.size w w' ∧ w.heap.size < w'.heap.size)
    (first | go_keep | refine ⟨?_, ?_, ?_, ?_, ?_, ?_, ?_, ?_⟩ <;> assumption)
    (first | (go_at_call 45; refine (C0 _ ?_).mono ?_; (refine ⟨?_, ?_, ?_, ?_, ?_, ?_, ?_, ?_⟩ <;> assumption); rintro e w2 ⟨rfl, h0, h1, h2, h3, h4, h5, h6, h7⟩) | (go_at_call 66; refine (L _).mono ?_; rintro e w2 ⟨rfl, rfl⟩))
  all_goals go_wp2_with fail
  all_goals go_ret
  all_goals exact ⟨rfl, by assumption⟩
set_option maxRecDepth 100000 in
set_option maxHeartbeats 4000000 in
theorem free_fix (n : Nat) (ih : FreeC n) (f c : UInt8) (b : Tm) (B : Nat) (v : Value) (w : World) (ht0 : b.depth ≤ n) (hn : n + 1 ≤ 4000) (hrep : Rep (fun g => g < B) w (.fix f c b) v) (hB : B ≤ w.heap.size) (hgd0 : b.good) :
    Calls Tryz.prog 45 #[v] w fun e w' => e = .returned (.string ⟨(lessN (sfree b) [f, c]).toArray⟩) ∧ Below w.heap.size w w' := by
  cases hrep with
  | mk _ g cap cs hg hc hk =>
  have hr0 := hk 0 b rfl
  obtain ⟨x0, y0, st0, aa0, l0, cc0, he0⟩ := hr0.junk
  have hq0 : Rep (fun g => g < B) w b (.agg #[.int .u8 x0, .int .i64 y0, .string st0, .slice aa0 l0 cc0]) := by rw [← he0]; exact hr0
  unfold four at he0
  simp only [Value.agg.injEq, Array.mk.injEq, List.cons.injEq, and_true, Nat.mul_zero, Nat.zero_add] at he0
  obtain ⟨i0, i1, i2, i3⟩ := he0
  have e0 := hc 0 (by simp [Tm.kids])
  rw [i0] at e0
  have e1 := hc 1 (by simp [Tm.kids])
  rw [i1] at e1
  have e2 := hc 2 (by simp [Tm.kids])
  rw [i2] at e2
  have e3 := hc 3 (by simp [Tm.kids])
  rw [i3] at e3
  have C0 : ∀ w', FreeS1 w [f, c] g cap x0 y0 st0 aa0 l0 cc0 w' → Calls Tryz.prog 45 #[.agg #[.int .u8 x0, .int .i64 y0, .string st0, .slice aa0 l0 cc0]] w' fun e w'' => e = .returned (.string ⟨(sfree b).toArray⟩) ∧ FreeS1 w [f, c] g cap x0 y0 st0 aa0 l0 cc0 w'' := fun w' hS => by
    obtain ⟨h0, h1, h2, h3, h4, h5, h6, h7⟩ := id hS
    exact (ih b B _ w' ht0 (by omega) (hq0.keep (fun g' hg' => h6.block g' (by omega)) (fun g' hg' => hg')) (by omega) hgd0).mono fun e w'' h => ⟨h.1, hS.keep (by omega) h.2⟩
  have L : ∀ w', Calls Tryz.prog 66 #[.string ⟨(sfree b).toArray⟩, .string ⟨([f, c] : Text).toArray⟩] w' fun e w'' => e = .returned (.string ⟨(lessN (sfree b) [f, c]).toArray⟩) ∧ w'' = w' := fun w' => less_c _ _ w' (by have := sfree_len b; omega) (by simp)
  clear hc hk ih hr0 hq0 i0 i1 i2 i3
  unfold tmHead
  show Calls Tryz.prog 45 #[.agg #[.int .u8 64, .int .i64 0, .string ⟨([f, c] : Text).toArray⟩, .slice (some ⟨g, 0, none⟩) 1 cap]] w _
  go_enter Tryz.func45, Tryz.ntmps45
  go_wp2_with fail
  have hW : FreeS1 w [f, c] g cap x0 y0 st0 aa0 l0 cc0 (w.alloc (.cells #[.int .u8 64, .int .i64 0, .string ⟨([f, c] : Text).toArray⟩, .slice (some ⟨g, 0, none⟩) 1 cap] 78)) := by
    have hb := (Below.refl w.heap.size w).alloc (Nat.le_refl _) (.cells #[.int .u8 64, .int .i64 0, .string ⟨([f, c] : Text).toArray⟩, .slice (some ⟨g, 0, none⟩) 1 cap] 78)
    refine ⟨?_, ?_, (hb.cell (p := ⟨g, 0, none⟩) (by simp; omega)).trans e0, (hb.cell (p := ⟨g, 1, none⟩) (by simp; omega)).trans e1, (hb.cell (p := ⟨g, 2, none⟩) (by simp; omega)).trans e2, (hb.cell (p := ⟨g, 3, none⟩) (by simp; omega)).trans e3, hb, by simp⟩
    · exact cell_new w [.int .u8 64, .int .i64 0, .string ⟨([f, c] : Text).toArray⟩, .slice (some ⟨g, 0, none⟩) 1 cap] 78 2
    · exact cell_new w [.int .u8 64, .int .i64 0, .string ⟨([f, c] : Text).toArray⟩, .slice (some ⟨g, 0, none⟩) 1 cap] 78 3
  obtain ⟨W1, hW1⟩ : ∃ W1, w.alloc (.cells #[.int .u8 64, .int .i64 0, .string ⟨([f, c] : Text).toArray⟩, .slice (some ⟨g, 0, none⟩) 1 cap] 78) = W1 := ⟨_, rfl⟩
  rw [hW1] at hW ⊢
  clear hW1
  obtain ⟨s0, s1, s2, s3, s4, s5, s6, s7⟩ := hW
  have s20 := s6.drew
  clear e0 e1 e2 e3
  go_region_held3 (fun w' => w'.cell? ⟨w.heap.size, 2, none⟩ = some (.string ⟨([f, c] : Text).toArray⟩) ∧ w'.cell? ⟨w.heap.size, 3, none⟩ = some (.slice (some ⟨g, 0, none⟩) 1 cap) ∧ w'.cell? ⟨g, 0, none⟩ = some (.int .u8 x0) ∧ w'.cell? ⟨g, 1, none⟩ = some (.int .i64 y0) ∧ w'.cell? ⟨g, 2, none⟩ = some (.string st0) ∧ w'.cell? ⟨g, 3, none⟩ = some (.slice aa0 l0 cc0) ∧ Below w.heap.size w w' ∧ w.heap.size < w'.heap.size)
    (first | go_keep | refine ⟨?_, ?_, ?_, ?_, ?_, ?_, ?_, ?_⟩ <;> assumption)
    (first | (go_at_call 45; refine (C0 _ ?_).mono ?_; (refine ⟨?_, ?_, ?_, ?_, ?_, ?_, ?_, ?_⟩ <;> assumption); rintro e w2 ⟨rfl, h0, h1, h2, h3, h4, h5, h6, h7⟩) | (go_at_call 66; refine (L _).mono ?_; rintro e w2 ⟨rfl, rfl⟩))
  all_goals go_wp2_with fail
  all_goals go_ret
  all_goals exact ⟨rfl, by assumption⟩
end Go.Proofs.YtjfhncfbejephaaGreatDoor

/- The specification's l1Free, at a binding. -/
namespace Go.Proofs.YtjfhncfbejephaaGreatDoor
open Go.RowKit
open Ff
set_option linter.unusedVariables false

attribute [local irreducible] Calls

set_option maxRecDepth 100000 in
set_option maxHeartbeats 4000000 in
theorem free_bind (n : Nat) (ih : FreeC n) (c : UInt8) (a b : Tm) (B : Nat) (v : Value) (w : World) (ht0 : a.depth ≤ n) (ht1 : b.depth ≤ n) (hn : n + 1 ≤ 4000) (hrep : Rep (fun g => g < B) w (.bind c a b) v) (hB : B ≤ w.heap.size) (hgd0 : a.good) (hgd1 : b.good) :
    Calls Tryz.prog 45 #[v] w fun e w' => e = .returned (.string ⟨(sortN (sfree a ++ lessN (sfree b) [c])).toArray⟩) ∧ Below w.heap.size w w' := by
  cases hrep with
  | mk _ g cap cs hg hc hk =>
  have hr0 := hk 0 a rfl
  obtain ⟨x0, y0, st0, aa0, l0, cc0, he0⟩ := hr0.junk
  have hq0 : Rep (fun g => g < B) w a (.agg #[.int .u8 x0, .int .i64 y0, .string st0, .slice aa0 l0 cc0]) := by rw [← he0]; exact hr0
  unfold four at he0
  simp only [Value.agg.injEq, Array.mk.injEq, List.cons.injEq, and_true, Nat.mul_zero, Nat.zero_add] at he0
  obtain ⟨i0, i1, i2, i3⟩ := he0
  have e0 := hc 0 (by simp [Tm.kids])
  rw [i0] at e0
  have e1 := hc 1 (by simp [Tm.kids])
  rw [i1] at e1
  have e2 := hc 2 (by simp [Tm.kids])
  rw [i2] at e2
  have e3 := hc 3 (by simp [Tm.kids])
  rw [i3] at e3
  have hr1 := hk 1 b rfl
  obtain ⟨x1, y1, st1, aa1, l1, cc1, he1⟩ := hr1.junk
  have hq1 : Rep (fun g => g < B) w b (.agg #[.int .u8 x1, .int .i64 y1, .string st1, .slice aa1 l1 cc1]) := by rw [← he1]; exact hr1
  unfold four at he1
  simp only [Value.agg.injEq, Array.mk.injEq, List.cons.injEq, and_true, Nat.mul_one, Nat.reduceAdd] at he1
  obtain ⟨i4, i5, i6, i7⟩ := he1
  have e4 := hc 4 (by simp [Tm.kids])
  rw [i4] at e4
  have e5 := hc 5 (by simp [Tm.kids])
  rw [i5] at e5
  have e6 := hc 6 (by simp [Tm.kids])
  rw [i6] at e6
  have e7 := hc 7 (by simp [Tm.kids])
  rw [i7] at e7
  have C0 : ∀ w', FreeS2 w [c] g cap x0 y0 st0 aa0 l0 cc0 x1 y1 st1 aa1 l1 cc1 w' → Calls Tryz.prog 45 #[.agg #[.int .u8 x0, .int .i64 y0, .string st0, .slice aa0 l0 cc0]] w' fun e w'' => e = .returned (.string ⟨(sfree a).toArray⟩) ∧ FreeS2 w [c] g cap x0 y0 st0 aa0 l0 cc0 x1 y1 st1 aa1 l1 cc1 w'' := fun w' hS => by
    obtain ⟨h0, h1, h2, h3, h4, h5, h6, h7, h8, h9, h10, h11⟩ := id hS
    exact (ih a B _ w' ht0 (by omega) (hq0.keep (fun g' hg' => h10.block g' (by omega)) (fun g' hg' => hg')) (by omega) hgd0).mono fun e w'' h => ⟨h.1, hS.keep (by omega) h.2⟩
  have C1 : ∀ w', FreeS2 w [c] g cap x0 y0 st0 aa0 l0 cc0 x1 y1 st1 aa1 l1 cc1 w' → Calls Tryz.prog 45 #[.agg #[.int .u8 x1, .int .i64 y1, .string st1, .slice aa1 l1 cc1]] w' fun e w'' => e = .returned (.string ⟨(sfree b).toArray⟩) ∧ FreeS2 w [c] g cap x0 y0 st0 aa0 l0 cc0 x1 y1 st1 aa1 l1 cc1 w'' := fun w' hS => by
    obtain ⟨h0, h1, h2, h3, h4, h5, h6, h7, h8, h9, h10, h11⟩ := id hS
    exact (ih b B _ w' ht1 (by omega) (hq1.keep (fun g' hg' => h10.block g' (by omega)) (fun g' hg' => hg')) (by omega) hgd1).mono fun e w'' h => ⟨h.1, hS.keep (by omega) h.2⟩
  have L : ∀ w', Calls Tryz.prog 66 #[.string ⟨(sfree b).toArray⟩, .string ⟨([c] : Text).toArray⟩] w' fun e w'' => e = .returned (.string ⟨(lessN (sfree b) [c]).toArray⟩) ∧ w'' = w' := fun w' => less_c _ _ w' (by have := sfree_len b; omega) (by simp)
  have R : ∀ w', FreeS2 w [c] g cap x0 y0 st0 aa0 l0 cc0 x1 y1 st1 aa1 l1 cc1 w' → Calls Tryz.prog 67 #[.string (⟨(sfree a).toArray⟩ ++ ⟨(lessN (sfree b) [c]).toArray⟩)] w' fun e w'' => e = .returned (.string ⟨(sortN (sfree a ++ lessN (sfree b) [c])).toArray⟩) ∧ FreeS2 w [c] g cap x0 y0 st0 aa0 l0 cc0 x1 y1 st1 aa1 l1 cc1 w'' := fun w' hS => by
    rw [str_app2]
    exact (sorted_c _ w' (by have := sfree_len a; have := sfree_len b; have := less_len (sfree b) [c]; simp; omega)).mono fun e w'' h => ⟨h.1, hS.keep (by omega) h.2⟩
  have z1 := sfree_len a
  have z2 : (lessN (sfree b) [c]).length ≤ 16 := Nat.le_trans (less_len _ _) (sfree_len _)
  have z3 : ¬ 9223372036854775807 < (sfree a).length + (lessN (sfree b) [c]).length := by omega
  clear hc hk ih hr0 hq0 hr1 hq1 i0 i1 i2 i3 i4 i5 i6 i7
  unfold tmHead
  show Calls Tryz.prog 45 #[.agg #[.int .u8 61, .int .i64 0, .string ⟨([c] : Text).toArray⟩, .slice (some ⟨g, 0, none⟩) 2 cap]] w _
  go_enter Tryz.func45, Tryz.ntmps45
  go_wp2_with fail
  have hW : FreeS2 w [c] g cap x0 y0 st0 aa0 l0 cc0 x1 y1 st1 aa1 l1 cc1 (w.alloc (.cells #[.int .u8 61, .int .i64 0, .string ⟨([c] : Text).toArray⟩, .slice (some ⟨g, 0, none⟩) 2 cap] 78)) := by
    have hb := (Below.refl w.heap.size w).alloc (Nat.le_refl _) (.cells #[.int .u8 61, .int .i64 0, .string ⟨([c] : Text).toArray⟩, .slice (some ⟨g, 0, none⟩) 2 cap] 78)
    refine ⟨?_, ?_, (hb.cell (p := ⟨g, 0, none⟩) (by simp; omega)).trans e0, (hb.cell (p := ⟨g, 1, none⟩) (by simp; omega)).trans e1, (hb.cell (p := ⟨g, 2, none⟩) (by simp; omega)).trans e2, (hb.cell (p := ⟨g, 3, none⟩) (by simp; omega)).trans e3, (hb.cell (p := ⟨g, 4, none⟩) (by simp; omega)).trans e4, (hb.cell (p := ⟨g, 5, none⟩) (by simp; omega)).trans e5, (hb.cell (p := ⟨g, 6, none⟩) (by simp; omega)).trans e6, (hb.cell (p := ⟨g, 7, none⟩) (by simp; omega)).trans e7, hb, by simp⟩
    · exact cell_new w [.int .u8 61, .int .i64 0, .string ⟨([c] : Text).toArray⟩, .slice (some ⟨g, 0, none⟩) 2 cap] 78 2
    · exact cell_new w [.int .u8 61, .int .i64 0, .string ⟨([c] : Text).toArray⟩, .slice (some ⟨g, 0, none⟩) 2 cap] 78 3
  obtain ⟨W1, hW1⟩ : ∃ W1, w.alloc (.cells #[.int .u8 61, .int .i64 0, .string ⟨([c] : Text).toArray⟩, .slice (some ⟨g, 0, none⟩) 2 cap] 78) = W1 := ⟨_, rfl⟩
  rw [hW1] at hW ⊢
  clear hW1
  obtain ⟨s0, s1, s2, s3, s4, s5, s6, s7, s8, s9, s10, s11⟩ := hW
  have s20 := s10.drew
  clear e0 e1 e2 e3 e4 e5 e6 e7
  go_region_held3 (fun w' => w'.cell? ⟨w.heap.size, 2, none⟩ = some (.string ⟨([c] : Text).toArray⟩) ∧ w'.cell? ⟨w.heap.size, 3, none⟩ = some (.slice (some ⟨g, 0, none⟩) 2 cap) ∧ w'.cell? ⟨g, 0, none⟩ = some (.int .u8 x0) ∧ w'.cell? ⟨g, 1, none⟩ = some (.int .i64 y0) ∧ w'.cell? ⟨g, 2, none⟩ = some (.string st0) ∧ w'.cell? ⟨g, 3, none⟩ = some (.slice aa0 l0 cc0) ∧ w'.cell? ⟨g, 4, none⟩ = some (.int .u8 x1) ∧ w'.cell? ⟨g, 5, none⟩ = some (.int .i64 y1) ∧ w'.cell? ⟨g, 6, none⟩ = some (.string st1) ∧ w'.cell? ⟨g, 7, none⟩ = some (.slice aa1 l1 cc1) ∧ Below w.heap.size w w' ∧ w.heap.size < w'.heap.size)
    (first | go_keep | refine ⟨?_, ?_, ?_, ?_, ?_, ?_, ?_, ?_, ?_, ?_, ?_, ?_⟩ <;> assumption)
    (first | (go_at_call 45; refine (C0 _ ?_).mono ?_; (refine ⟨?_, ?_, ?_, ?_, ?_, ?_, ?_, ?_, ?_, ?_, ?_, ?_⟩ <;> assumption); rintro e w2 ⟨rfl, h0, h1, h2, h3, h4, h5, h6, h7, h8, h9, h10, h11⟩) | (go_at_call 45; refine (C1 _ ?_).mono ?_; (refine ⟨?_, ?_, ?_, ?_, ?_, ?_, ?_, ?_, ?_, ?_, ?_, ?_⟩ <;> assumption); rintro e w2 ⟨rfl, h0, h1, h2, h3, h4, h5, h6, h7, h8, h9, h10, h11⟩) | (go_at_call 66; refine (L _).mono ?_; rintro e w2 ⟨rfl, rfl⟩) | (go_at_call 67; refine (R _ ?_).mono ?_; (refine ⟨?_, ?_, ?_, ?_, ?_, ?_, ?_, ?_, ?_, ?_, ?_, ?_⟩ <;> assumption); rintro e w2 ⟨rfl, h0, h1, h2, h3, h4, h5, h6, h7, h8, h9, h10, h11⟩))
  all_goals go_wp2_with fail
  all_goals go_ret
  all_goals exact ⟨rfl, by assumption⟩
end Go.Proofs.YtjfhncfbejephaaGreatDoor

/- The specification's l1Free, at every term. -/
namespace Go.Proofs.YtjfhncfbejephaaGreatDoor
open Go.RowKit
open Ff
set_option linter.unusedVariables false

set_option maxHeartbeats 2000000 in
theorem free_var (c : UInt8) (B : Nat) (v : Value) (w : World) (hrep : Rep (fun g => g < B) w (.var c) v) :
    Calls Tryz.prog 45 #[v] w fun e w' => e = .returned (.string ⟨([c] : Text).toArray⟩) ∧ Below w.heap.size w w' := by
  cases hrep with
  | mk _ g cap cs hg hc hk =>
  unfold tmHead
  show Calls Tryz.prog 45 #[.agg #[.int .u8 118, .int .i64 0, .string ⟨#[c]⟩, .slice (some ⟨g, 0, none⟩) 0 cap]] w _
  go_enter Tryz.func45, Tryz.ntmps45
  go_wp2_with fail
  go_ret
  exact ⟨rfl, (Below.refl _ w).alloc (Nat.le_refl _) _⟩

set_option maxRecDepth 100000 in
set_option maxHeartbeats 4000000 in
theorem free_rest (n : Nat) (ih : FreeC n) (t : Tm) (B : Nat) (v : Value) (w : World) (ht : t.depth ≤ n + 1) (hn : n + 1 ≤ 4000) (hrep : Rep (fun g => g < B) w t v) (hB : B ≤ w.heap.size) (hgd : t.good)
    (h1 : kindOf t ≠ 118) (h2 : kindOf t ≠ 92) (h3 : kindOf t ≠ 64) (h4 : kindOf t ≠ 61) :
    Calls Tryz.prog 45 #[v] w fun e w' => e = .returned (.string ⟨(sfree t).toArray⟩) ∧ Below w.heap.size w w' := by
  cases hrep with
  | mk _ g cap c hg hc hk =>
  have hkl : t.kids.length ≤ 3 := by cases t <;> simp [Tm.kids]
  rw [free_kids t ⟨h1, h2, h3, h4⟩]
  have HC := Lib.hid hc
  have HK := Lib.hid hk
  clear hc hk
  unfold tmHead
  have k1 : ¬ ((kindOf t : Int) = 118) := by omega
  have k2 : ¬ ((kindOf t : Int) = 92) := by omega
  have k3 : ¬ ((kindOf t : Int) = 64) := by omega
  have k4 : ¬ ((kindOf t : Int) = 61) := by omega
  generalize (kindOf t : Int) = kd at k1 k2 k3 k4 ⊢
  have b1 : (kd == 118) = false := by simp [k1]
  have b2 : (kd == 92) = false := by simp [k2]
  have b3 : (kd == 64) = false := by simp [k3]
  have b4 : (kd == 61) = false := by simp [k4]
  clear h1 h2 h3 h4
  go_enter Tryz.func45, Tryz.ntmps45
  go_wp2_with fail
  obtain ⟨W1, hW1⟩ : ∃ W1, w.alloc (.cells #[.int .u8 kd, .int .i64 (numOf t : Int), .string ⟨(namesOf t).toArray⟩, .slice (some ⟨g, 0, none⟩) t.kids.length cap] 78) = W1 := ⟨_, rfl⟩
  have hb0 : Below w.heap.size w W1 := by rw [← hW1]; exact (Below.refl _ w).alloc (Nat.le_refl _) _
  rw [hW1]
  clear hW1
  go_loopw [3, 43] (fun o i wr => ∃ k : Nat, k ≤ t.kids.length ∧ i = .int .i64 k ∧ o = .string ⟨(freeTo t.kids k).toArray⟩ ∧ Below w.heap.size w wr) (fun _ i _ => t.kids.length - (intOf i).toNat)
  case atStart => exact ⟨0, Nat.zero_le _, rfl, rfl, hb0⟩
  case round =>
    obtain ⟨k, hkl2, rfl, rfl, hBl⟩ := hrel
    have hfl := freeTo_len t.kids k
    by_cases hlt : k < t.kids.length
    · obtain ⟨s, hs⟩ : ∃ s, t.kids[k]? = some s := ⟨_, List.getElem?_eq_getElem hlt⟩
      have hr := HK.out k s hs
      obtain ⟨x, y, st, aa, l, cc, he⟩ := hr.junk
      have hcells : ∀ j, j < 4 → wr.cell? ⟨g, 4 * k + j, none⟩ = some (c (4 * k + j)) := fun j hj => (hBl.cell (p := ⟨g, 4 * k + j, none⟩) (by show g < w.heap.size; omega)).trans (HC.out (4 * k + j) (by omega))
      have hr2 : Rep (fun g => g < B) w s (.agg #[.int .u8 x, .int .i64 y, .string st, .slice aa l cc]) := by rw [← he]; exact hr
      unfold four at he
      simp only [Value.agg.injEq, Array.mk.injEq, List.cons.injEq, and_true] at he
      obtain ⟨i0, i1, i2, i3⟩ := he
      have e0 : wr.cell? ⟨g, k * 4, none⟩ = some (.int .u8 x) := by rw [← i0]; have := hcells 0 (by omega); rwa [Nat.mul_comm k 4]
      have e1 : wr.cell? ⟨g, k * 4 + 1, none⟩ = some (.int .i64 y) := by rw [← i1]; have := hcells 1 (by omega); rwa [Nat.mul_comm k 4]
      have e2 : wr.cell? ⟨g, k * 4 + 2, none⟩ = some (.string st) := by rw [← i2]; have := hcells 2 (by omega); rwa [Nat.mul_comm k 4]
      have e3 : wr.cell? ⟨g, k * 4 + 3, none⟩ = some (.slice aa l cc) := by rw [← i3]; have := hcells 3 (by omega); rwa [Nat.mul_comm k 4]
      have HS := Lib.hid hs
      have hsz := hBl.size
      have hsl := sfree_len s
      have hw2 : Below w.heap.size w (wr.alloc (.cells #[.int .u8 x, .int .i64 y, .string st, .slice aa l cc] 78)) := hBl.alloc hsz _
      have C := ih s B (.agg #[.int .u8 x, .int .i64 y, .string st, .slice aa l cc]) (wr.alloc (.cells #[.int .u8 x, .int .i64 y, .string st, .slice aa l cc] 78)) (by have := kid_depth (List.mem_of_getElem? hs); omega) (by omega) (hr2.keep (fun g' hg' => hw2.block g' (by omega)) (fun g' hg' => hg')) (by simp; omega) (Tm.kid_good hgd (List.mem_of_getElem? hs))
      clear hcells i0 i1 i2 i3 hs hr hr2 HC HK
      have z3 : ¬ 9223372036854775807 < (freeTo t.kids k).length + (sfree s).length := by omega
      go_wp2_with (go_at_call 45; refine C.mono ?_; clear C; rintro e w2 ⟨rfl, hb2⟩)
      refine ⟨⟨k + 1, by omega, by go_num, ?_, hw2.trans (hb2.mono (by simp; omega))⟩, by simp [intOf]; omega⟩
      rw [freeTo_succ _ _ _ HS.out, str_app2]
    · obtain rfl : k = t.kids.length := by omega
      have C := sorted_c (freeTo t.kids t.kids.length) wr (by omega)
      go_wp2_with (go_at_call 67; refine C.mono ?_; clear C; rintro e w2 ⟨rfl, hb2⟩)
      go_ret
      exact ⟨rfl, hBl.trans (hb2.mono hBl.size)⟩

theorem free_c : ∀ n, FreeC n
  | 0 => fun t _ _ _ ht => absurd ht (by have := t.depth_pos; omega)
  | n + 1 => by
    intro t B v w ht hn hrep hB hgd
    have ih := free_c n
    have hd : ∀ s ∈ t.kids, s.depth ≤ n := fun s hs => by have := kid_depth hs; omega
    have hgk : ∀ s ∈ t.kids, s.good := fun s hs => Tm.kid_good hgd hs
    cases t with
    | var c => exact free_var c B v w hrep
    | fn c b => exact free_fn n ih c b B v w (hd b (by simp [Tm.kids])) hn hrep hB (hgk b (by simp [Tm.kids]))
    | fix f c b => exact free_fix n ih f c b B v w (hd b (by simp [Tm.kids])) hn hrep hB (hgk b (by simp [Tm.kids]))
    | bind c a b => exact free_bind n ih c a b B v w (hd a (by simp [Tm.kids])) (hd b (by simp [Tm.kids])) hn hrep hB (hgk a (by simp [Tm.kids])) (hgk b (by simp [Tm.kids]))
    | num m => exact free_rest n ih _ B v w ht hn hrep hB hgd (by simp [kindOf]) (by simp [kindOf]) (by simp [kindOf]) (by simp [kindOf])
    | app f a => exact free_rest n ih _ B v w ht hn hrep hB hgd (by simp [kindOf]) (by simp [kindOf]) (by simp [kindOf]) (by simp [kindOf])
    | sel a b c => exact free_rest n ih _ B v w ht hn hrep hB hgd (by simp [kindOf]) (by simp [kindOf]) (by simp [kindOf]) (by simp [kindOf])
    | op s l r => 
      have hs : s.toNat = 43 ∨ s.toNat = 45 ∨ s.toNat = 42 := by rcases hgd.1 with h | h | h <;> subst h <;> decide
      exact free_rest n ih _ B v w ht hn hrep hB hgd (by simp only [kindOf]; omega) (by simp only [kindOf]; omega) (by simp only [kindOf]; omega) (by simp only [kindOf]; omega)
end Go.Proofs.YtjfhncfbejephaaGreatDoor
