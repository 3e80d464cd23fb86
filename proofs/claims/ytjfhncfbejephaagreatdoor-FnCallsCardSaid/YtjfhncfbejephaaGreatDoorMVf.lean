import Derived.Test.YtjfhncfbejephaaGreatDoorMVb
import Derived.Test.YtjfhncfbejephaaGreatDoorMYi
import Derived.Test.YtjfhncfbejephaaGreatDoorMCt
import Derived.Test.YtjfhncfbejephaaGreatDoorMFr
import Derived.Deep.RegionHeld3
/- The specification's l3Number: each part is given its number. -/
namespace Go.Proofs.YtjfhncfbejephaaGreatDoor
open Go.RowKit Go.Shelf
open Ff
set_option linter.unusedVariables false

/-- k kids have been numbered. -/
def NumAt (t : Tm) (i : Nat) (w : World) (k : Nat) (v : Value) (W : World) : Prop :=
  ∃ xs : List Value, W.ownsRow (w.heap.size + 2) 78 4 v k xs ∧ v ≠ .slice none 0 0 ∧
    ∀ r s, r < k → t.kids[r]? = some s → RepN (fun g => (w.heap.size + 2 ≤ g ∧ g < W.heap.size) ∧ some g ≠ v.ownBlock) W s (i + (before t r).length) (four (fun j => (xs[j]?).getD undef) r)
theorem RepN.junk {S : Nat → Prop} {w : World} {t : Tm} {i : Nat} {v : Value} (h : RepN S w t i v) : Junk v := h.any.junk
theorem num_start (t : Tm) (i : Nat) (w W : World) (hw : W.heap.size = w.heap.size + 2) : NumAt t i w 0 (.slice (some ⟨W.heap.size, 0, none⟩) 0 0) (W.alloc (.cells #[] 78)) := by
  have ho := World.ownsRow_lit (base := w.heap.size + 2) (e := 78) (size := 4) W #[] 0 (by omega) (by simp [maxLen]) (by simp)
  exact ⟨[], ho, by simp, fun r s hr => by omega⟩
theorem num_round {t s : Tm} {i k : Nat} {w W W1 W2 : World} {v v' c0 c1 c2 c3 : Value} {o : Obj} {xs : List Value} (hs : t.kids[k]? = some s) (hown : W.ownsRow (w.heap.size + 2) 78 4 v k xs) (hv : v ≠ .slice none 0 0)
    (hreps : ∀ r s, r < k → t.kids[r]? = some s → RepN (fun g => (w.heap.size + 2 ≤ g ∧ g < W.heap.size) ∧ some g ≠ v.ownBlock) W s (i + (before t r).length) (four (fun j => (xs[j]?).getD undef) r))
    (hb : Below W.heap.size W W1) (hr : RepN (New W W1) W1 s (i + (before t k).length) (.agg #[c0, c1, c2, c3]))
    (hown' : W2.ownsRow (w.heap.size + 2) 78 4 v' (k + 1) (xs ++ [c0, c1, c2, c3])) (hgrow : (W1.alloc o).grownBy W2 v.ownBlock) (hnil : v' = .slice none 0 0 → v = .slice none 0 0) (hwhere : v'.ownBlock = v.ownBlock ∨ v'.ownBlock = some (W1.alloc o).heap.size) :
    NumAt t i w (k + 1) v' W2 := by
  obtain ⟨g, hg1, hg2, hg3⟩ := own_ne_nil hown hv
  have hz : (W1.alloc o).heap.size = W1.heap.size + 1 := by simp
  have hs1 := hb.size
  have hs2 := hgrow.size
  have hlen := hown.1
  have keep : ∀ g', g' < W1.heap.size → some g' ≠ v.ownBlock → W2.heap[g']? = W1.heap[g']? := fun g' h1 h2 => (hgrow.block g' (by omega) h2).trans (Below.heap_alloc _ _ _ h1)
  have far : ∀ g', g' < W1.heap.size → some g' ≠ v.ownBlock → some g' ≠ v'.ownBlock := by
    intro g' h1 h2
    rcases hwhere with h | h
    · rw [h]; exact h2
    · rw [h, hz]; simp; omega
  refine ⟨_, hown', fun e => hv (hnil e), fun r s' hr' hs' => ?_⟩
  by_cases hlt : r < k
  · have e : four (fun j => ((xs ++ [c0, c1, c2, c3])[j]?).getD undef) r = four (fun j => (xs[j]?).getD undef) r := by
      unfold four
      simp only [List.getElem?_append_left (show 4 * r < xs.length by omega), List.getElem?_append_left (show 4 * r + 1 < xs.length by omega), List.getElem?_append_left (show 4 * r + 2 < xs.length by omega), List.getElem?_append_left (show 4 * r + 3 < xs.length by omega)]
    rw [e]
    refine (hreps r s' hlt hs').keep (fun g' hg' => ?_)
    obtain ⟨⟨h1, h2⟩, h3⟩ := hg'
    exact ⟨(keep g' (by omega) h3).trans (hb.block g' h2), ⟨h1, by omega⟩, far g' (by omega) h3⟩
  · obtain rfl : r = k := by omega
    obtain rfl : s = s' := by rw [hs] at hs'; injection hs'
    have e : four (fun j => ((xs ++ [c0, c1, c2, c3])[j]?).getD undef) r = .agg #[c0, c1, c2, c3] := by
      unfold four
      have e0 : 4 * r = xs.length := by omega
      simp [e0]
    rw [e]
    refine hr.keep (fun g' hg' => ?_)
    have hne : some g' ≠ v.ownBlock := by rw [hg1]; have := hg'.1; simp; omega
    exact ⟨keep g' hg'.2 hne, ⟨by have := hg'.1; omega, by have := hg'.2; omega⟩, far g' hg'.2 hne⟩
theorem num_fin {t : Tm} {i g cap : Nat} {w W wf : World} (h : NumAt t i w t.kids.length (.slice (some ⟨g, 0, none⟩) t.kids.length cap) W) (hs : W.heap.size ≤ wf.heap.size) (hf : ∀ g', w.heap.size + 2 ≤ g' → g' < W.heap.size → wf.heap[g']? = W.heap[g']?) : RepN (New w wf) wf t i (tmHeadA t (numAt t i) g cap) := by
  obtain ⟨xs, hown, hv, hreps⟩ := h
  obtain ⟨g0, e0, h1, h2⟩ := own_ne_nil hown hv
  obtain rfl : g = g0 := by simpa [Value.ownBlock] using e0
  refine .mk t i g cap (fun j => (xs[j]?).getD undef) ⟨by omega, by omega⟩ (fun k hk => ?_) (fun r s hi => ?_)
  · rw [World.cell?_of_block (a := ⟨g, k, none⟩) (hf g h1 h2), hown.cellAt k (by omega)]
    have hl : k < xs.length := by rw [hown.1]; omega
    simp [List.getElem?_eq_getElem hl]
  · have hlt := (List.getElem?_eq_some_iff.1 hi).1
    exact (hreps r s hlt hi).keep (fun g' hg' => ⟨hf g' hg'.1.1 hg'.1.2, by have := hg'.1.1; omega, by have := hg'.1.2; omega⟩)
/-- What numbering comes to. -/
def NumC (n : Nat) : Prop := ∀ (t : Tm) (i : Nat) (S : Nat → Prop) (v : Value) (w : World), t.depth ≤ n → (parts t).length + i ≤ 4000 → t.good → Rep S w t v → (∀ g, S g → g < w.heap.size) →
  Calls Tryz.prog 46 #[v, .int .i64 (i : Int)] w fun e w' => ∃ x, e = .returned (.tuple #[x, .int .i64 ((i + (parts t).length : Nat) : Int)]) ∧ Below w.heap.size w w' ∧ RepN (New w w') w' t i x
theorem kind_num (t : Tm) (i : Nat) (h : t.good) : (kindOf t = 110 ∧ numAt t i = (numOf t : Int)) ∨ (kindOf t ≠ 110 ∧ numAt t i = (i : Int)) := by
  cases t with
  | num n => exact .inl ⟨rfl, rfl⟩
  | op s l r =>
    refine .inr ⟨?_, rfl⟩
    have h1 := h.1
    rcases h1 with rfl | rfl | rfl <;> simp [kindOf]
  | _ => exact .inr ⟨by simp [kindOf], rfl⟩
/-- The boxes with which numbering begins. -/
def nW (w : World) (x0 x1 x2 x3 : Value) : World := (w.alloc (.cells #[x0, x1, x2, x3] 78)).alloc (.cells #[.int .u8 0, .int .i64 0, .string ⟨#[]⟩, .slice none 0 0] 78)
theorem nW_facts (w : World) (x0 x1 x2 x3 : Value) : (nW w x0 x1 x2 x3).heap.size = w.heap.size + 2 ∧ Below w.heap.size w (nW w x0 x1 x2 x3) ∧ (nW w x0 x1 x2 x3).heap[w.heap.size]? = some (.cells #[x0, x1, x2, x3] 78 (0, 0)) ∧ (nW w x0 x1 x2 x3).heap[w.heap.size + 1]? = some (.cells #[.int .u8 0, .int .i64 0, .string ⟨#[]⟩, .slice none 0 0] 78 (0, 0)) :=
  ⟨by simp [nW], ((Below.refl _ w).alloc (Nat.le_refl _) _).alloc (by simp) _, alloc_old (alloc_at w _), alloc_at2 w _ _⟩
theorem four_of {w : World} {b : Nat} {z0 z1 z2 z3 : Value} {t : TypeId} (h : w.heap[b]? = some (.cells #[z0, z1, z2, z3] t (0, 0))) : w.cell? ⟨b, 0, none⟩ = some z0 ∧ w.cell? ⟨b, 1, none⟩ = some z1 ∧ w.cell? ⟨b, 2, none⟩ = some z2 ∧ w.cell? ⟨b, 3, none⟩ = some z3 ∧ w.frozen? ⟨b, 0, none⟩ = false ∧ w.frozen? ⟨b, 1, none⟩ = false ∧ w.frozen? ⟨b, 2, none⟩ = false ∧ w.frozen? ⟨b, 3, none⟩ = false := by
  refine ⟨?_, ?_, ?_, ?_, ?_, ?_, ?_, ?_⟩ <;> simp [World.cell?, World.frozen?, h]
attribute [local irreducible] Calls
set_option maxRecDepth 100000 in
set_option maxHeartbeats 4000000 in
theorem num_step (n : Nat) (ih : NumC n) : NumC (n + 1) := by
  intro t i S v w ht hp hgd hrep hS
  cases hrep with
  | mk _ g cap c hg hc hk =>
  have hkl : t.kids.length ≤ 3 := by cases t <;> simp [Tm.kids]
  obtain ⟨i0, hi, hz0, hz1, hz2⟩ := info_parts Tryz.infoTerm
  have HC := Lib.hid hc
  have HK := Lib.hid hk
  have hgl := hS g hg
  have hpp : 1 ≤ (parts t).length := by rw [parts_kids]; simp
  clear hc hk
  unfold tmHead
  obtain ⟨ws, wb, x0, z0⟩ := nW_facts w (.int .u8 (kindOf t : Int)) (.int .i64 (numOf t : Int)) (.string ⟨(namesOf t).toArray⟩) (.slice (some ⟨g, 0, none⟩) t.kids.length cap)
  go_enter Tryz.func46, Tryz.ntmps46
  generalize hW : nW w (.int .u8 (kindOf t : Int)) (.int .i64 (numOf t : Int)) (.string ⟨(namesOf t).toArray⟩) (.slice (some ⟨g, 0, none⟩) t.kids.length cap) = W at ws wb x0 z0
  unfold nW at hW
  obtain ⟨a0, a1, a2, a3, _⟩ := four_of x0
  go_wp2_with fail
  have hst := num_start t i w W ws
  have hbs := (Below.refl (w.heap.size + 2) W).alloc (by omega) (.cells #[] 78)
  rw [ws] at hst
  clear a0 a1 a2 a3 hW
  go_loopw [1, 7, 19] (fun nx v ix wr => ∃ k : Nat, k ≤ t.kids.length ∧ ix = .int .i64 k ∧ nx = .int .i64 ((i + (before t k).length : Nat) : Int) ∧ NumAt t i w k v wr ∧ Below (w.heap.size + 2) W wr) (fun _ _ ix _ => t.kids.length - (intOf ix).toNat)
  case atStart => exact ⟨0, Nat.zero_le _, rfl, by simp [before], hst, hbs⟩
  case round =>
    clear hst hbs
    obtain ⟨k, hkl2, rfl, rfl, hat, hbl⟩ := hrel
    have hsz := hbl.size
    have hbw : Below w.heap.size w wr := wb.trans (hbl.mono (by omega))
    have hbx := (hbl.block w.heap.size (by omega)).trans x0
    have hbz := (hbl.block (w.heap.size + 1) (by omega)).trans z0
    have hble := before_le t k
    by_cases hlt : k < t.kids.length
    · obtain ⟨s, hs⟩ : ∃ s, t.kids[k]? = some s := ⟨_, List.getElem?_eq_getElem hlt⟩
      obtain ⟨xs, hown, hv, hreps⟩ := hat
      have hr := HK.out k s hs
      obtain ⟨x, y, st, aa, l, cc, he⟩ := hr.junk
      have hcells : ∀ j, j < 4 → wr.cell? ⟨g, 4 * k + j, none⟩ = some (c (4 * k + j)) := fun j hj => (hbw.cell (p := ⟨g, 4 * k + j, none⟩) hgl).trans (HC.out (4 * k + j) (by omega))
      have hr2 : Rep S w s (.agg #[.int .u8 x, .int .i64 y, .string st, .slice aa l cc]) := by rw [← he]; exact hr
      unfold four at he
      simp only [Value.agg.injEq, Array.mk.injEq, List.cons.injEq, and_true] at he
      obtain ⟨i0', i1, i2, i3⟩ := he
      have e0 : wr.cell? ⟨g, k * 4, none⟩ = some (.int .u8 x) := by rw [← i0']; have := hcells 0 (by omega); rwa [Nat.mul_comm k 4]
      have e1 : wr.cell? ⟨g, k * 4 + 1, none⟩ = some (.int .i64 y) := by rw [← i1]; have := hcells 1 (by omega); rwa [Nat.mul_comm k 4]
      have e2 : wr.cell? ⟨g, k * 4 + 2, none⟩ = some (.string st) := by rw [← i2]; have := hcells 2 (by omega); rwa [Nat.mul_comm k 4]
      have e3 : wr.cell? ⟨g, k * 4 + 3, none⟩ = some (.slice aa l cc) := by rw [← i3]; have := hcells 3 (by omega); rwa [Nat.mul_comm k 4]
      have HS := Lib.hid hs
      have hmem := List.mem_of_getElem? hs
      have hpl := before_le t (k + 1)
      have hbs := before_succ t k s hs
      have hpl2 : (before t k).length + (parts s).length ≤ (parts t).length := by rw [hbs, List.length_append] at hpl; omega
      have hw2 : Below w.heap.size w (wr.alloc (.cells #[.int .u8 x, .int .i64 y, .string st, .slice aa l cc] 78)) := hbw.alloc hbw.size _
      have C := ih s (i + (before t k).length) S (.agg #[.int .u8 x, .int .i64 y, .string st, .slice aa l cc]) (wr.alloc (.cells #[.int .u8 x, .int .i64 y, .string st, .slice aa l cc] 78)) (by have := kid_depth hmem; omega) (by omega) (Tm.kid_good hgd hmem) (hr2.keep (fun g' hg' => hw2.block g' (hS g' hg')) (fun g' hg' => hg')) (fun g' hg' => by have := hS g' hg'; have := hw2.size; omega)
      have HO := Lib.hid hown
      have HV := Lib.hid hv
      have HR := Lib.hid hreps
      have HB := Lib.hid hbs
      clear hcells i0' i1 i2 i3 hs hr hr2 HC HK hpl hbs hmem hown hv hreps
      go_wp2_with fail
      refine C.mono ?_
      clear C
      rintro e w2 ⟨v2, rfl, hb2, hrn⟩
      obtain ⟨x', y', st', aa', l', cc', rfl⟩ := hrn.junk
      have hs2 := hb2.size
      have hs3 : (wr.alloc (.cells #[.int .u8 x, .int .i64 y, .string st, .slice aa l cc] 78)).heap.size = wr.heap.size + 1 := by simp
      have hb3 : Below wr.heap.size wr (w2.alloc (.cells #[.int .u8 x', .int .i64 y', .string st', .slice aa' l' cc'] 78)) := (((Below.refl _ wr).alloc (Nat.le_refl _) _).trans (hb2.mono (by omega))).alloc (by omega) _
      have hrn2 : RepN (New wr (w2.alloc (.cells #[.int .u8 x', .int .i64 y', .string st', .slice aa' l' cc'] 78))) (w2.alloc (.cells #[.int .u8 x', .int .i64 y', .string st', .slice aa' l' cc'] 78)) s (i + (before t k).length) (.agg #[.int .u8 x', .int .i64 y', .string st', .slice aa' l' cc']) :=
        hrn.keep (fun g' hg' => ⟨Below.heap_alloc _ _ _ hg'.2, by have := hg'.1; omega, by have := hg'.2; simp; omega⟩)
      obtain ⟨gv, hgv, hgv1, hgv2⟩ := own_ne_nil HO.out HV.out
      have hown1 := (HO.out.kept (row := none) (grown_none hb3) (by rw [hgv]; exact .inr (by simp))).alloc (.cells #[.int .u8 x', .int .i64 y', .string st', .slice aa' l' cc'] 78)
      obtain ⟨W1, hW1⟩ : ∃ W1, w2.alloc (.cells #[.int .u8 x', .int .i64 y', .string st', .slice aa' l' cc'] 78) = W1 := ⟨_, rfl⟩
      have hx1 := World.alloc_heap_new w2 (.cells #[.int .u8 x', .int .i64 y', .string st', .slice aa' l' cc'] 78)
      rw [hW1] at hown1 hrn2 hb3 hx1
      obtain ⟨j0, j1, j2, j3, _⟩ := four_of hx1
      have hsW1 := hb3.size
      have q2 : ∀ u ∈ [Value.int .u8 x', .int .i64 y', .string st', .slice aa' l' cc'], u.oneCell' = true := by simp [Value.oneCell']
      have q3 : k + 1 ≤ maxLen := by unfold maxLen; omega
      have q5 : w.heap.size + 2 ≤ (W1.alloc (.cells #[.int .u8 x', .int .i64 y', .string st', .slice aa' l' cc'] 78)).heap.size := by simp; omega
      have H1 := Lib.hid hown1
      have HRN := Lib.hid hrn2
      have HGV := Lib.hid hgv
      clear hown1 hrn hrn2 hgv
      go_wp2_with (at_builtin; (refine wpList_append_own_at _ rfl _ _ 76 rfl (w.heap.size + 2) 78 i0 _ 4 56 Tryz.underlying76 hi hz0 hz1 hz2 rfl (by decide) _ _ _ rfl H1.out ⟨W1.heap.size, 0, none⟩ 1 1 [.int .u8 x', .int .i64 y', .string st', .slice aa' l' cc'] rfl rfl (four_new _ _ _ _ _ _) q2 q3 (by omega) q5 ?_); intro v' w3 hown' hgrow hnil hwhere; have HN := Lib.hid hnil; have HW := Lib.hid hwhere; clear hnil hwhere)
      have hblA : Below (w.heap.size + 2) W (W1.alloc (.cells #[.int .u8 x', .int .i64 y', .string st', .slice aa' l' cc'] 78)) := (hbl.trans (hb3.mono (by omega))).alloc (by omega) _
      refine ⟨⟨k + 1, by omega, by go_num, by rw [HB.out, List.length_append]; congr 1; omega, num_round HS.out HO.out HV.out HR.out hb3 HRN.out hown' hgrow (fun e => (HN.out.1 e).1) HW.out, ?_⟩, by simp [intOf]; omega⟩
      exact hblA.grown (row := some gv) (by have hg3 := hgrow; have hgv3 := HGV.out; first | exact hgv3 ▸ hg3 | (rw [hgv3] at hg3; exact hg3)) (by simp; omega) (fun j hj => by injection hj with hj; omega)
    · obtain rfl : k = t.kids.length := by omega
      obtain ⟨xs, hown, hv, hreps⟩ := hat
      obtain ⟨gv, capv, rfl⟩ := own_shape hown hv
      have HAT := Lib.hid (show NumAt t i w t.kids.length (.slice (some ⟨gv, 0, none⟩) t.kids.length capv) wr from ⟨xs, hown, hv, hreps⟩)
      rw [before_all]
      obtain ⟨b0, b1, b2, b3, f0, f1, f2, f3⟩ := four_of hbx
      obtain ⟨z0, z1, z2, z3, e0, e1, e2, e3⟩ := four_of hbz
      have hne : w.heap.size + 1 ≠ w.heap.size := by omega
      clear hown hv hreps HC HK hbx hbz hble x0
      rcases kind_num t i hgd with ⟨hk1, hk2⟩ | ⟨hk1, hk2⟩
      · have HK2 := Lib.hid hk2
        have HK1 := Lib.hid hk1
        rw [hk1] at b0
        clear hk1 hk2
        go_wp2_with fail
        refine bodyPost_ret (v := .tuple #[tmHeadA t (numAt t i) gv capv, .int .i64 ((i + (parts t).length : Nat) : Int)]) (by rw [HK2.out]; simp [results, Tryz.results46, go_sem, tmHeadA, HK1.out, z0, z1, z2, z3]) rfl ?_
        refine ⟨_, rfl, ?_, num_fin HAT.out (by simp) (fun g' h1 h2 => ?_)⟩
        · exact ((((hbw.setCell (p := ⟨w.heap.size, 3, none⟩) (Nat.le_refl _) _).setCell (p := ⟨w.heap.size + 1, 0, none⟩) (Nat.le_succ _) _).setCell (p := ⟨w.heap.size + 1, 1, none⟩) (Nat.le_succ _) _).setCell (p := ⟨w.heap.size + 1, 2, none⟩) (Nat.le_succ _) _).setCell (p := ⟨w.heap.size + 1, 3, none⟩) (Nat.le_succ _) _
        · rw [Below.heap_setCell _ _ _ _ (by show g' ≠ w.heap.size + 1; omega), Below.heap_setCell _ _ _ _ (by show g' ≠ w.heap.size + 1; omega), Below.heap_setCell _ _ _ _ (by show g' ≠ w.heap.size + 1; omega), Below.heap_setCell _ _ _ _ (by show g' ≠ w.heap.size + 1; omega), Below.heap_setCell _ _ _ _ (by show g' ≠ w.heap.size; omega)]
      · have HK2 := Lib.hid hk2
        have hk3 : ¬ ((kindOf t : Int) = 110) := by omega
        clear hk1 hk2
        go_wp2_with fail
        refine bodyPost_ret (v := .tuple #[tmHeadA t (numAt t i) gv capv, .int .i64 ((i + (parts t).length : Nat) : Int)]) (by rw [HK2.out]; simp [results, Tryz.results46, go_sem, tmHeadA, z0, z1, z2, z3]) rfl ?_
        refine ⟨_, rfl, ?_, num_fin HAT.out (by simp) (fun g' h1 h2 => ?_)⟩
        · exact (((((hbw.setCell (p := ⟨w.heap.size, 3, none⟩) (Nat.le_refl _) _).setCell (p := ⟨w.heap.size, 1, none⟩) (Nat.le_refl _) _).setCell (p := ⟨w.heap.size + 1, 0, none⟩) (Nat.le_succ _) _).setCell (p := ⟨w.heap.size + 1, 1, none⟩) (Nat.le_succ _) _).setCell (p := ⟨w.heap.size + 1, 2, none⟩) (Nat.le_succ _) _).setCell (p := ⟨w.heap.size + 1, 3, none⟩) (Nat.le_succ _) _
        · rw [Below.heap_setCell _ _ _ _ (by show g' ≠ w.heap.size + 1; omega), Below.heap_setCell _ _ _ _ (by show g' ≠ w.heap.size + 1; omega), Below.heap_setCell _ _ _ _ (by show g' ≠ w.heap.size + 1; omega), Below.heap_setCell _ _ _ _ (by show g' ≠ w.heap.size + 1; omega), Below.heap_setCell _ _ _ _ (by show g' ≠ w.heap.size; omega), Below.heap_setCell _ _ _ _ (by show g' ≠ w.heap.size; omega)]
theorem num_c : ∀ n, NumC n
  | 0 => fun t _ _ _ _ ht => absurd ht (by have := t.depth_pos; omega)
  | n + 1 => num_step n (num_c n)
end Go.Proofs.YtjfhncfbejephaaGreatDoor

/- Closed terms: the specification's l3Closed, the program's readClosed. -/
namespace Go.Proofs.YtjfhncfbejephaaGreatDoor
open Go.RowKit
open Ff
set_option linter.unusedVariables false
attribute [local irreducible] Calls

/-- A closed term of a text. -/
def closedS (s : Text) : Option Tm := (readS s).bind fun t => if sfree t = [] then some t else none
theorem closedS_some {s : Text} {t : Tm} (h : closedS s = some t) : readS s = some t ∧ sfree t = [] := by
  unfold closedS at h
  rcases hr : readS s with _ | u
  · simp [hr] at h
  · simp only [hr, Option.bind_some] at h
    split at h
    · injection h with h; subst h; exact ⟨rfl, by assumption⟩
    · cases h
theorem set4_far (W : World) (g b : Nat) (hne : g ≠ b) {u0 u1 u2 u3 v : Value} {k : Nat} (h : W.cell? ⟨g, k, none⟩ = some v) : ((((W.setCell ⟨b, 0, none⟩ u0).setCell ⟨b, 1, none⟩ u1).setCell ⟨b, 2, none⟩ u2).setCell ⟨b, 3, none⟩ u3).cell? ⟨g, k, none⟩ = some v := by
  have q : ∀ (W : World) (j : Nat) (u : Value), (W.setCell ⟨b, j, none⟩ u).cell? ⟨g, k, none⟩ = W.cell? ⟨g, k, none⟩ := fun W j u => World.cell?_setCell_other W _ _ u (fun e => hne (by injection e with e; exact e.symm))
  rw [q, q, q, q]; exact h
theorem fourz_of {w : World} {b : Nat} {z0 z1 z2 z3 : Value} {t : TypeId} (h : w.heap[b]? = some (.cells #[z0, z1, z2, z3] t (0, 0))) : w.cell? ⟨b, 0, none⟩ = some z0 ∧ w.cell? ⟨b, 1, none⟩ = some z1 ∧ w.cell? ⟨b, 2, none⟩ = some z2 ∧ w.cell? ⟨b, 3, none⟩ = some z3 ∧ w.frozen? ⟨b, 0, none⟩ = false ∧ w.frozen? ⟨b, 1, none⟩ = false ∧ w.frozen? ⟨b, 2, none⟩ = false ∧ w.frozen? ⟨b, 3, none⟩ = false := by
  refine ⟨?_, ?_, ?_, ?_, ?_, ?_, ?_, ?_⟩ <;> simp [World.cell?, World.frozen?, h]
def ClosedPost (w : World) (o : Option Tm) (e : Ending) (w' : World) : Prop := Below w.heap.size w w' ∧ ∃ v, Junk v ∧ e = .returned (.tuple #[v, .bool o.isSome]) ∧ ∀ t, o = some t → Rep (New w w') w' t v
set_option maxRecDepth 100000 in
set_option maxHeartbeats 2000000 in
theorem sclosed_c (s : Text) (w : World) (hl : s.length ≤ 9223372036854775807) :
    Calls Tryz.prog 27 #[.string ⟨s.toArray⟩] w (ClosedPost w (closedS s)) := by
  have C := sread_c s (w.alloc (.cells #[.int .u8 0, .int .i64 0, .string ⟨#[]⟩, .slice none 0 0] 78)) hl
  have hb0 := (Below.refl w.heap.size w).alloc (Nat.le_refl _) (.cells #[.int .u8 0, .int .i64 0, .string ⟨#[]⟩, .slice none 0 0] 78)
  have hs0 : (w.alloc (.cells #[.int .u8 0, .int .i64 0, .string ⟨#[]⟩, .slice none 0 0] 78)).heap.size = w.heap.size + 1 := by simp
  have hz0 : (w.alloc (.cells #[.int .u8 0, .int .i64 0, .string ⟨#[]⟩, .slice none 0 0] 78)).heap[w.heap.size]? = some (.cells #[.int .u8 0, .int .i64 0, .string ⟨#[]⟩, .slice none 0 0] 78 (0, 0)) := World.alloc_heap_new w _
  go_enter Tryz.func27, Tryz.ntmps27
  go_wp2_with fail
  generalize w.alloc (.cells #[.int .u8 0, .int .i64 0, .string ⟨#[]⟩, .slice none 0 0] 78) = W at C hb0 hs0 hz0 ⊢
  refine C.mono ?_
  clear C
  rcases hr : readS s with _ | t
  · rintro e w1 ⟨rfl, hb1⟩
    have hc : closedS s = none := by unfold closedS; rw [hr]; rfl
    have HC := Lib.hid hc
    clear hr hc
    unfold zeroTm
    have hs1 := hb1.size
    have hb2 := (Below.refl _ w1).alloc (Nat.le_refl _) (.cells #[.int .u8 0, .int .i64 0, .string ⟨#[]⟩, .slice none 0 0] 78)
    obtain ⟨t0, t1, t2, t3, f0, f1, f2, f3⟩ := fourz_of ((hb2.block w.heap.size (by omega)).trans ((hb1.block w.heap.size (by omega)).trans hz0))
    obtain ⟨k0, k1, k2, k3, _⟩ := fourz_of (World.alloc_heap_new w1 (.cells #[.int .u8 0, .int .i64 0, .string ⟨#[]⟩, .slice none 0 0] 78))
    go_wp2_with fail
    generalize w1.alloc (.cells #[.int .u8 0, .int .i64 0, .string ⟨#[]⟩, .slice none 0 0] 78) = w2 at hb2 t0 t1 t2 t3 f0 f1 f2 f3 k0 k1 k2 k3 ⊢
    have hbw : Below w.heap.size w w2 := (hb0.trans (hb1.mono (by omega))).trans (hb2.mono (by omega))
    have hbd := hbw.drew
    go_region_with (fail)
    all_goals try go_wp2_with fail
    all_goals refine bodyPost_ret (v := .tuple #[.agg #[.int .u8 0, .int .i64 0, .string ⟨#[]⟩, .slice none 0 0], .bool false]) (by simp [results, Tryz.results27, go_sem, t0, t1, t2, t3]) rfl ?_
    all_goals refine ⟨?_, _, ⟨_, _, _, _, _, _, rfl⟩, by rw [HC.out]; rfl, fun t h => by rw [HC.out] at h; cases h⟩
    all_goals first
      | exact ((((hbw.setCell (p := ⟨w.heap.size, 0, none⟩) (Nat.le_refl _) _).setCell (p := ⟨w.heap.size, 1, none⟩) (Nat.le_refl _) _).setCell (p := ⟨w.heap.size, 2, none⟩) (Nat.le_refl _) _).setCell (p := ⟨w.heap.size, 3, none⟩) (Nat.le_refl _) _)
      | exact ((((hbd.setCell (p := ⟨w.heap.size, 0, none⟩) (Nat.le_refl _) _).setCell (p := ⟨w.heap.size, 1, none⟩) (Nat.le_refl _) _).setCell (p := ⟨w.heap.size, 2, none⟩) (Nat.le_refl _) _).setCell (p := ⟨w.heap.size, 3, none⟩) (Nat.le_refl _) _)
  · rintro e w1 ⟨v, rfl, hb1, hrep⟩
    have hd := readS_depth hr
    have hgd := readS_good hr
    have hc : closedS s = if sfree t = [] then some t else none := by unfold closedS; rw [hr]; rfl
    have HR := Lib.hid hc
    clear hr hc
    obtain ⟨x, y, st, aa, l, cc, rfl⟩ := hrep.junk
    have hs1 := hb1.size
    have hb2 := (Below.refl _ w1).alloc (Nat.le_refl _) (.cells #[.int .u8 x, .int .i64 y, .string st, .slice aa l cc] 78)
    obtain ⟨t0, t1, t2, t3, f0, f1, f2, f3⟩ := fourz_of ((hb2.block w.heap.size (by omega)).trans ((hb1.block w.heap.size (by omega)).trans hz0))
    have hx2 := World.alloc_heap_new w1 (.cells #[.int .u8 x, .int .i64 y, .string st, .slice aa l cc] 78)
    have hz1 := (hb1.block w.heap.size (by omega)).trans hz0
    obtain ⟨k0, k1, k2, k3, _⟩ := fourz_of hx2
    have D : ∀ W', Below w1.heap.size w1 W' → Calls Tryz.prog 45 #[.agg #[.int .u8 x, .int .i64 y, .string st, .slice aa l cc]] W' fun e w2 => e = .returned (.string ⟨(sfree t).toArray⟩) ∧ Below W'.heap.size W' w2 := fun W' hW' =>
      free_c 4000 t w1.heap.size _ W' (by omega) (by omega) (hrep.keep (fun g' hg' => hW'.block g' hg'.2) (fun g' hg' => hg'.2)) hW'.size hgd
    have HD := Lib.hid D
    have HP := Lib.hid hrep
    clear hrep D
    go_wp2_with fail
    generalize w1.alloc (.cells #[.int .u8 x, .int .i64 y, .string st, .slice aa l cc] 78) = w2 at hb2 hx2 t0 t1 t2 t3 f0 f1 f2 f3 k0 k1 k2 k3 ⊢
    have hb2d := hb2.drew
    have hne : w1.heap.size ≠ w.heap.size := by omega
    have hl2 : w1.heap.size < w2.heap.size := (Array.getElem?_eq_some_iff.1 hx2).1
    have c0d : w2.drew.cell? ⟨w1.heap.size, 0, none⟩ = some (.int .u8 x) := k0
    have c1d : w2.drew.cell? ⟨w1.heap.size, 1, none⟩ = some (.int .i64 y) := k1
    have c2d : w2.drew.cell? ⟨w1.heap.size, 2, none⟩ = some (.string st) := k2
    have c3d : w2.drew.cell? ⟨w1.heap.size, 3, none⟩ = some (.slice aa l cc) := k3
    go_region_held3 (fun w' => w'.cell? ⟨w1.heap.size, 0, none⟩ = some (.int .u8 x) ∧ w'.cell? ⟨w1.heap.size, 1, none⟩ = some (.int .i64 y) ∧ w'.cell? ⟨w1.heap.size, 2, none⟩ = some (.string st) ∧ w'.cell? ⟨w1.heap.size, 3, none⟩ = some (.slice aa l cc))
      (first | (refine ⟨?_, ?_, ?_, ?_⟩ <;> with_reducible assumption) | (refine ⟨?_, ?_, ?_, ?_⟩ <;> (apply set4_far _ _ _ hne; with_reducible assumption)))
      (first | (go_at_call 45; refine (HD.out _ hb2.drew).mono ?_; rintro e w3 ⟨rfl, hb3⟩; have hb13 := hb2d.trans (hb3.mono hb2d.size); have j0 := (hb3.cell (p := ⟨w1.heap.size, 0, none⟩) (by simpa using hl2)).trans c0d; have j1 := (hb3.cell (p := ⟨w1.heap.size, 1, none⟩) (by simpa using hl2)).trans c1d; have j2 := (hb3.cell (p := ⟨w1.heap.size, 2, none⟩) (by simpa using hl2)).trans c2d; have j3 := (hb3.cell (p := ⟨w1.heap.size, 3, none⟩) (by simpa using hl2)).trans c3d; obtain ⟨t0, t1, t2, t3, f0, f1, f2, f3⟩ := fourz_of ((hb13.block w.heap.size (by omega)).trans hz1)))
    all_goals try go_wp2_with fail
    all_goals have hbw : Below w.heap.size w w3 := (hb0.trans (hb1.mono (by omega))).trans (hb13.mono (by omega))
    all_goals have hrep := HP.out
    all_goals have E : (closedS s).isSome = ((⟨(sfree t).toArray⟩ : ByteArray) == ⟨#[]⟩) := by rw [HR.out, str_nil]; by_cases h0 : sfree t = [] <;> simp [h0]
    all_goals refine bodyPost_ret (v := .tuple #[.agg #[.int .u8 x, .int .i64 y, .string st, .slice aa l cc], .bool (closedS s).isSome]) (by rw [E]; simp [results, Tryz.results27, go_sem, t0, t1, t2, t3]; cases sfree t <;> rfl) rfl ?_
    all_goals refine ⟨?_, _, ⟨_, _, _, _, _, _, rfl⟩, rfl, fun t' h => ?_⟩
    all_goals first
      | exact ((((hbw.setCell (p := ⟨w.heap.size, 0, none⟩) (Nat.le_refl _) _).setCell (p := ⟨w.heap.size, 1, none⟩) (Nat.le_refl _) _).setCell (p := ⟨w.heap.size, 2, none⟩) (Nat.le_refl _) _).setCell (p := ⟨w.heap.size, 3, none⟩) (Nat.le_refl _) _)
      | skip
    all_goals
      have h2 := HR.out.symm.trans h
      split at h2
      · injection h2 with h2
        subst h2
        refine hrep.keep (fun g' hg' => ?_) (fun g' hg' => ⟨by have := hg'.1; omega, by have := hg'.2; have := hb13.size; simp; omega⟩)
        have hg1 : w.heap.size < g' := by have := hg'.1; omega
        rw [Below.heap_setCell _ _ _ _ (by show g' ≠ w.heap.size; omega), Below.heap_setCell _ _ _ _ (by show g' ≠ w.heap.size; omega), Below.heap_setCell _ _ _ _ (by show g' ≠ w.heap.size; omega), Below.heap_setCell _ _ _ _ (by show g' ≠ w.heap.size; omega)]
        exact hb13.block g' hg'.2
      · cases h2
end Go.Proofs.YtjfhncfbejephaaGreatDoor
