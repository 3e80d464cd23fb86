import Derived.Test.YtencgkhofjmdhaaLaU
import Derived.Test.YtencgkhofjmdhaaMPc
/- Laws over drawn terms: FnCaptured, FnCapturedUnder. -/
namespace Go.Proofs.Ytencgkhofjmdhaa
open Go.RowKit Go.Shelf
open Ff
set_option linter.unusedVariables false
attribute [local irreducible] Calls

set_option maxHeartbeats 2000000 in
theorem some_c (b : Nat) (a : Option Addr) (l c p : Nat) (w0 w : World) (hD : DG b a l c w0 p w) (hp : p ≤ 5) :
    Calls Try.prog 12 #[.pointer (some ⟨b, 0, none⟩)] w fun e w' => ∃ (s : Text) (p' : Nat), e = .returned (.string ⟨s.toArray⟩) ∧ s.length ≤ 5000 ∧ p' ≤ p + 5000 ∧ DG b a l c w0 p' w' := by
  go_enter Try.func12, Try.ntmps12
  go_wp2_with fail
  refine (pick_g hD _ (by omega) (by omega) (by omega)).mono ?_; rintro e w1 ⟨k1, rfl, hk1, hD1⟩
  go_wp2_with fail
  · refine (of_g hD1 [[92, 97, 92, 97, 97], [61, 97, 97, 61, 97, 97, 97], [92, 98, 40, 97, 98, 41], [64, 97, 98, 40, 97, 98, 41], [92, 97, 92, 98, 40, 97, 98, 41], [61, 98, 43, 97, 98, 40, 98, 97, 41], [40, 92, 97, 97, 92, 97, 97, 41], [64, 98, 97, 40, 99, 97, 41], [92, 99, 61, 98, 40, 97, 99, 41, 98]] _ 9 (by decide) (by omega) (by decide) (by decide)).mono ?_; rintro e w2 ⟨z, hz, rfl, hD2⟩
    go_wp2_with fail
    go_ret
    obtain ⟨⟨z⟩⟩ := z
    have hz2 : z.length ≤ 9 := hz
    exact ⟨z, _, rfl, by omega, by omega, hD2⟩
  · refine (any_c _ _ _ _ _ _ _ hD1 (by omega)).mono ?_; rintro e w3 ⟨s, p', rfl, hs, hp, hD3⟩
    go_wp2_with fail
    go_ret
    exact ⟨s, p', rfl, hs, by omega, hD3⟩
set_option maxHeartbeats 1000000 in
theorem drawCapturedBy_c (a : Option Addr) (l c : Nat) (w : World) (h : Src w a l c) :
    Calls Try.prog 5 #[.slice a l c] w fun e w' => ∃ s : Text, e = .returned (.string ⟨s.toArray⟩) ∧ s.length ≤ 5000 ∧ Below w.heap.size w w' := by
  go_enter Try.func5, Try.ntmps5
  go_wp2_with fail
  refine (open_c a l c w h).mono ?_; rintro e w1 ⟨l', rfl, hD⟩
  go_wp2_with fail
  refine (some_c _ _ _ _ _ _ _ hD (by omega)).mono ?_; rintro e w2 ⟨s, p', rfl, hs, hp, hD2⟩
  go_wp2_with fail
  go_ret
  exact ⟨s, rfl, hs, hD2.below⟩
theorem kCapsI (s : Text) (hs : s.length ≤ 100000) (w : World) : Calls Try.prog 6 #[.string ⟨s.toArray⟩] w fun e w' => ∃ v, e = .returned (.tuple #[v, .bool (readS s).isSome]) ∧ Strs w' w.heap.size v (capsO (readS s)) ∧ Below w.heap.size w w' := by rw [readS_eq]; exact iCapturedBy_c s w (by omega)
theorem kCapsS (s : Text) (hs : s.length ≤ 100000) (w : World) : Calls Try.prog 7 #[.string ⟨s.toArray⟩] w fun e w' => ∃ v, e = .returned (.tuple #[v, .bool (readS s).isSome]) ∧ Strs w' w.heap.size v (capsO (readS s)) ∧ Below w.heap.size w w' := sCapturedBy_c s w (by omega)

set_option maxRecDepth 100000 in
set_option maxHeartbeats 8000000 in
theorem law_fnCaptured (a : Option Addr) (l c : Nat) (w : World) (h : Src w a l c) :
    Calls Try.prog 3 #[.slice a l c] w fun e w' => e = .returned (.bool true) ∧ Below w.heap.size w w' := by
  by_cases hl : l ≤ 1048576
  · have hl2 : (l : Int) ≤ 1048576 := by omega
    go_enter Try.func3, Try.ntmps3
    go_wp2_with fail
    refine (drawCapturedBy_c a l c w h).mono ?_; rintro e w1 ⟨s, rfl, hs, hb⟩
    go_wp2_with fail
    rcases hT : readS s with _ | T
    · have HT := Lib.hid hT
      clear hT
      refine (kCapsI s (by omega) w1).mono ?_; rw [HT.out]; simp only [Option.isSome]; rintro e w2 ⟨v1, rfl, s1, hb2⟩; replace hb := next hb hb2; clear hb2
      obtain ⟨⟨aa, ca, rfl⟩, _⟩ := s1.cases
      go_wp2_with fail
      refine (kCapsS s (by omega) w2).mono ?_; rw [HT.out]; simp only [Option.isSome]; rintro e w3 ⟨v2, rfl, s2, hb2⟩; replace hb := next hb hb2; replace s1 := Strs.below s1 hb2 (Nat.le_refl _); clear hb2
      go_wp2_with fail
      refine (texts_c _ v2 _ _ _ w3 s1 s2 (by simp [capsO])).mono ?_; rintro e w4 ⟨rfl, hb2⟩; replace hb := next hb hb2; replace s1 := Strs.below s1 hb2 (Nat.le_refl _); replace s2 := Strs.below s2 hb2 (Nat.le_refl _); clear hb2
      go_wp2_with fail
      refine (texts_c _ v2 _ _ _ w4 s1 s2 (by simp [capsO])).mono ?_; rintro e w5 ⟨rfl, hb2⟩; replace hb := next hb hb2; clear hb2
      go_wp2_with fail
      go_ret
      exact ⟨by simp [capsO], hb⟩
    · have hpl := rows_len hT
      have hgd := readS_good hT
      have htx := readS_text hT
      have HT := Lib.hid hT
      have HX := Lib.hid htx
      have HG := Lib.hid hgd
      clear hT htx hgd
      have hfl : ((parts T).filter isFun).length ≤ (parts T).length := List.length_filter_le _ _
      have hlo : (capsO (some T)).length = ((parts T).filter isFun).length := by simp [capsO, capsT]
      have hat : ∀ (i : Nat) (p : Tm), ((parts T).filter isFun)[i]? = some p → (capsO (some T))[i]? = some (sfree p) := fun i p hp => by show (List.map sfree ((parts T).filter isFun))[i]? = _; rw [List.getElem?_map, hp]; rfl
      have hlo2 : (funsO (some T)).length = ((parts T).filter isFun).length := by simp [funsO, funsT]
      have hat2 : ∀ (i : Nat) (p : Tm), ((parts T).filter isFun)[i]? = some p → (funsO (some T))[i]? = some (textN p) := fun i p hp => by show (List.map textN ((parts T).filter isFun))[i]? = _; rw [List.getElem?_map, hp]; rfl
      refine (kCapsI s (by omega) w1).mono ?_; rw [HT.out]; simp only [Option.isSome]; rintro e w2 ⟨v1, rfl, s1, hb2⟩; replace hb := next hb hb2; clear hb2
      go_wp2_with fail
      refine (kCapsS s (by omega) w2).mono ?_; rw [HT.out]; simp only [Option.isSome]; rintro e w3 ⟨v2, rfl, s2, hb2⟩; replace hb := next hb hb2; replace s1 := Strs.below s1 hb2 (Nat.le_refl _); clear hb2
      go_wp2_with fail
      refine (texts_c v1 v2 _ _ _ w3 s1 s2 (by omega)).mono ?_; rintro e w4 ⟨rfl, hb2⟩; replace hb := next hb hb2; replace s1 := Strs.below s1 hb2 (Nat.le_refl _); clear hb2 s2
      go_wp2_with fail
      refine (kFunsI s (by omega) w4).mono ?_; rw [HT.out]; simp only [Option.isSome]; rintro e w5 ⟨v3, rfl, s2, hb2⟩; replace hb := next hb hb2; replace s1 := Strs.below s1 hb2 (Nat.le_refl _); clear hb2
      obtain ⟨⟨aa, ca, rfl⟩, hc⟩ := s1.cases
      obtain ⟨⟨ab, cb, rfl⟩, hd⟩ := s2.cases
      rw [hlo] at hc ⊢
      rw [hlo2] at hd ⊢
      have hcell : ∀ (i : Nat) (p : Tm), ((parts T).filter isFun)[i]? = some p → ∃ g, aa = some ⟨g, 0, none⟩ ∧ g < w5.heap.size ∧ w5.cell? ⟨g, i, none⟩ = some (.string ⟨(sfree p).toArray⟩) := fun i p hp => by
        obtain ⟨g, c', hv, _, h1, h2, _⟩ := hc i _ (hat i p hp)
        injection hv with h3
        exact ⟨g, h3, h1, h2⟩
      have hcell2 : ∀ (i : Nat) (p : Tm), ((parts T).filter isFun)[i]? = some p → ∃ g, ab = some ⟨g, 0, none⟩ ∧ g < w5.heap.size ∧ w5.cell? ⟨g, i, none⟩ = some (.string ⟨(textN p).toArray⟩) := fun i p hp => by
        obtain ⟨g, c', hv, _, h1, h2, _⟩ := hd i _ (hat2 i p hp)
        injection hv with h3
        exact ⟨g, h3, h1, h2⟩
      clear hc hd hat hat2 s1 s2 hlo hlo2
      have HC := Lib.hid hcell
      have HD := Lib.hid hcell2
      clear hcell hcell2
      go_wp2_with fail
      go_loopw [67] (fun i wr => ∃ k : Nat, k ≤ ((parts T).filter isFun).length ∧ i = .int .i64 k ∧ Below w.heap.size w wr ∧ Below w5.heap.size w5 wr) (fun i _ => ((parts T).filter isFun).length - (intOf i).toNat)
      case atStart => exact ⟨0, Nat.zero_le _, rfl, hb, Below.refl _ _⟩
      case round =>
        obtain ⟨k, hk, rfl, hb, hB⟩ := hrel
        by_cases hlt : k < ((parts T).filter isFun).length
        · obtain ⟨p, hp⟩ : ∃ p, ((parts T).filter isFun)[k]? = some p := ⟨_, List.getElem?_eq_getElem hlt⟩
          obtain ⟨g, rfl, hg, hc⟩ := HC.out k p hp
          obtain ⟨g2, rfl, hg2, hd⟩ := HD.out k p hp
          have hc2 := (hB.cell (p := ⟨g, k, none⟩) hg).trans hc
          have hd2 := (hB.cell (p := ⟨g2, k, none⟩) hg2).trans hd
          have hmem := List.mem_filter.1 (List.mem_of_getElem? hp)
          have hpr := part_read HT.out hmem.1
          have hle1 := (part_le hmem.1).1
          have hx1 := congrArg List.length HX.out
          have HR := Lib.hid hpr
          clear hp hc hd hpr HC HD hmem
          generalize textN p = X at hd2 hle1 HR
          have hX2 : X.length ≤ 100000 := by omega
          go_wp2_with fail
          refine (kFree X hX2 wr).mono ?_; rw [HR.out]; simp only [txtP]; rintro e u1 ⟨rfl, hb2⟩
          have hc3 := (hb2.cell (p := ⟨g, k, none⟩) (by show g < wr.heap.size; have := hB.size; omega)).trans hc2
          replace hb := next hb hb2; replace hB := next hB hb2; clear hb2 hc2
          go_wp2_with fail
          exact ⟨⟨k + 1, by omega, by go_num, hb, hB⟩, by simp [intOf]; omega⟩
        · obtain rfl : k = ((parts T).filter isFun).length := by omega
          go_wp2_with fail
          go_ret
          exact ⟨rfl, hb⟩
  · have hl2 : 1048576 < (l : Int) := by omega
    go_enter Try.func3, Try.ntmps3
    go_wp2_with fail
    go_ret
    exact ⟨rfl, Below.refl _ _⟩

set_option maxRecDepth 100000 in
set_option maxHeartbeats 2000000 in
theorem texts2_c (g1 o1 c1 : Nat) (vb : Value) (b2 : Nat) (l : List Text) (w : World) (ha : ∀ (i : Nat) (s : Text), l[i]? = some s → w.cell? ⟨g1, o1 + i, none⟩ = some (sv s)) (hb : Strs w b2 vb l) (hl : l.length ≤ 1000000) :
    Calls Try.prog 8 #[.slice (some ⟨g1, o1, none⟩) l.length c1, vb] w fun e w' => e = .returned (.bool true) ∧ Below w.heap.size w w' := by
  obtain ⟨⟨ab, cb, rfl⟩, hcb⟩ := hb.cases
  have HA := Lib.hid ha
  have HB := Lib.hid hcb
  clear ha hcb hb
  go_enter Try.func8, Try.ntmps8
  go_wp2_with fail
  go_loopw [11] (fun i wr => ∃ k : Nat, k ≤ l.length ∧ i = .int .i64 k ∧ Below w.heap.size w wr) (fun i _ => l.length - (intOf i).toNat)
  case atStart => exact ⟨0, Nat.zero_le _, rfl, Below.refl _ _⟩
  case round =>
    obtain ⟨k, hk, rfl, hB⟩ := hrel
    by_cases hlt : k < l.length
    · obtain ⟨s, hs⟩ : ∃ s, l[k]? = some s := ⟨_, List.getElem?_eq_getElem hlt⟩
      have h1 := HA.out k s hs
      have hg1 := cell_lt h1
      obtain ⟨g2, c2, e2, _, hg2, h2, _⟩ := HB.out k s hs
      injection e2 with e2 _ e2c
      subst e2 e2c
      have d1 := (hB.cell (p := ⟨g1, o1 + k, none⟩) hg1).trans h1
      have d2 := (hB.cell (p := ⟨g2, k, none⟩) hg2).trans h2
      clear hs h1 h2 HA HB
      go_wp2_with fail
      go_region
      all_goals go_wp2_with fail
      all_goals exact ⟨⟨k + 1, by omega, by go_num, hB.drew⟩, by simp [intOf]; omega⟩
    · obtain rfl : k = l.length := by omega
      go_wp2_with fail
      go_ret
      exact ⟨rfl, hB⟩
set_option maxRecDepth 100000 in
set_option maxHeartbeats 8000000 in
theorem law_fnCapturedUnder (a : Option Addr) (l c : Nat) (w : World) (h : Src w a l c) :
    Calls Try.prog 4 #[.slice a l c] w fun e w' => e = .returned (.bool true) ∧ Below w.heap.size w w' := by
  by_cases hl : l ≤ 1048576
  · have hl2 : (l : Int) ≤ 1048576 := by omega
    go_enter Try.func4, Try.ntmps4
    go_wp2_with fail
    refine (drawCapturedBy_c a l c w h).mono ?_; rintro e w1 ⟨s, rfl, hs, hb⟩
    have q1 : ¬ 9223372036854775807 < 2 + s.length := by omega
    obtain ⟨F, hF⟩ : ∃ F : Text, F = 92 :: 98 :: s := ⟨_, rfl⟩
    have e1 : (⟨#[92, 98]⟩ ++ ⟨s.toArray⟩ : ByteArray) = ⟨F.toArray⟩ := by
      show (⟨([92, 98] : Text).toArray⟩ ++ ⟨s.toArray⟩ : ByteArray) = _
      rw [str_app2, hF]; rfl
    have hFl : F.length ≤ 100000 := by rw [hF]; simp; omega
    have HF := Lib.hid hF
    clear hF
    go_wp2_with fail
    rcases hT : readS s with _ | T
    · have hFn : readS F = none := by
        rcases hr : readS F with _ | X
        · rfl
        · rw [HF.out] at hr
          obtain ⟨b, hb, _⟩ := fn_split hr
          rw [hT] at hb; cases hb
      have HT := Lib.hid hT
      have HN := Lib.hid hFn
      clear hT hFn
      refine (kCapsI s (by omega) w1).mono ?_; rw [HT.out]; simp only [Option.isSome]; rintro e w2 ⟨v1, rfl, s1, hb2⟩; replace hb := next hb hb2; clear hb2
      go_wp2_with fail
      refine (kCapsS s (by omega) w2).mono ?_; rw [HT.out]; simp only [Option.isSome]; rintro e w3 ⟨v2, rfl, s2, hb2⟩; replace hb := next hb hb2; clear hb2
      go_wp2_with fail
      refine (kCapsI F hFl w3).mono ?_; rw [HN.out]; simp only [Option.isSome]; rintro e w4 ⟨v3, rfl, s3, hb2⟩; replace hb := next hb hb2; clear hb2
      go_wp2_with fail
      go_ret
      exact ⟨rfl, hb⟩
    · have hpl := rows_len hT
      have HT := Lib.hid hT
      clear hT
      refine (kCapsI s (by omega) w1).mono ?_; rw [HT.out]; simp only [Option.isSome]; rintro e w2 ⟨v1, rfl, s1, hb2⟩; replace hb := next hb hb2; clear hb2
      go_wp2_with fail
      refine (kCapsS s (by omega) w2).mono ?_; rw [HT.out]; simp only [Option.isSome]; rintro e w3 ⟨v2, rfl, s2, hb2⟩; replace hb := next hb hb2; replace s1 := Strs.below s1 hb2 (Nat.le_refl _); clear hb2 s2
      go_wp2_with fail
      rcases hU : readS F with _ | U
      · have HU := Lib.hid hU
        clear hU
        refine (kCapsI F hFl w3).mono ?_; rw [HU.out]; simp only [Option.isSome]; rintro e w4 ⟨v3, rfl, s3, hb2⟩; replace hb := next hb hb2; clear hb2
        go_wp2_with fail
        refine (kValid F hFl w4).mono ?_; rw [HU.out]; simp only [Option.isSome]; rintro e w5 ⟨rfl, hb2⟩; replace hb := next hb hb2; clear hb2
        go_wp2_with fail
        go_ret
        exact ⟨rfl, hb⟩
      · have hU2 := hU
        rw [HF.out] at hU2
        obtain ⟨b, hb0, rfl⟩ := fn_split hU2
        rw [HT.out] at hb0
        injection hb0 with hb0
        subst hb0
        have hco : capsO (some (Tm.fn 98 T)) = sfree (.fn 98 T) :: capsO (some T) := by
          have hf : isFun (Tm.fn 98 T) = true := rfl
          show List.map sfree (List.filter isFun (Tm.fn 98 T :: parts T)) = _
          rw [List.filter_cons, if_pos hf]; rfl
        have HU := Lib.hid hU
        clear hU hU2
        refine (kCapsI F hFl w3).mono ?_; rw [HU.out]; simp only [Option.isSome]; rintro e w4 ⟨v3, rfl, s3, hb2⟩; replace hb := next hb hb2; replace s1 := Strs.below s1 hb2 (Nat.le_refl _); clear hb2
        rw [hco] at s3
        obtain ⟨_, hc⟩ := s3.cases
        obtain ⟨g, cp, rfl, _, hg, h0, _⟩ := hc 0 (sfree (.fn 98 T)) rfl
        have hcell : ∀ (i : Nat) (x : Text), (capsO (some T))[i]? = some x → w4.cell? ⟨g, 1 + i, none⟩ = some (sv x) := fun i x hx => by
          obtain ⟨g', c', hv, _, _, h2, _⟩ := hc (i + 1) x hx
          injection hv with h3
          injection h3 with h3
          injection h3 with h3
          subst h3
          rw [Nat.add_comm]
          exact h2
        have hcl : (capsO (some T)).length ≤ 120 := by have := capsT_len (parts T); show (capsT (parts T)).length ≤ _; omega
        obtain ⟨⟨aa, ca, rfl⟩, _⟩ := s1.cases
        have hcp : (capsO (some T)).length + 1 ≤ cp := by
          rcases s3.2 with ⟨h2, _⟩ | ⟨g', cap', cur, hv, _, _, hn, _⟩
          · cases h2
          · injection hv with _ _ hv; simp only [List.length_cons] at hn; omega
        clear hc s3
        have HC := Lib.hid hcell
        clear hcell
        generalize capsO (some T) = L at HC hcl s1 hcp ⊢
        go_wp2_with fail
        refine (kFree F hFl w4).mono ?_; rw [HU.out]; simp only [txtP]; rintro e w5 ⟨rfl, hb2⟩
        have h02 := (hb2.cell (p := ⟨g, 0, none⟩) hg).trans h0
        have hcell : ∀ (i : Nat) (x : Text), L[i]? = some x → w5.cell? ⟨g, 1 + i, none⟩ = some (sv x) := fun i x hx => (hb2.cell (p := ⟨g, 1 + i, none⟩) hg).trans (HC.out i x hx)
        replace hb := next hb hb2
        replace s1 := Strs.below s1 hb2 (Nat.le_refl _)
        clear hb2 HC h0
        have HC := Lib.hid hcell
        clear hcell
        by_cases hcp1 : cp = 1
        · subst hcp1
          have hL : L = [] := List.eq_nil_of_length_eq_zero (by omega)
          subst hL
          go_wp2_with fail
          refine (texts2_c g 0 _ _ _ [] w5 (fun i x hx => by simp at hx) s1 (by simp)).mono ?_; rintro e w6 ⟨rfl, hb2⟩; replace hb := next hb hb2; clear hb2
          go_wp2_with fail
          go_ret
          exact ⟨by simp, hb⟩
        · have hcp2 : cp - 1 ≠ 0 := by omega
          go_wp2_with fail
          refine (texts2_c g 1 _ _ _ L w5 HC.out s1 (by omega)).mono ?_; rintro e w6 ⟨rfl, hb2⟩; replace hb := next hb hb2; clear hb2
          go_wp2_with fail
          go_ret
          exact ⟨by simp, hb⟩
  · have hl2 : 1048576 < (l : Int) := by omega
    go_enter Try.func4, Try.ntmps4
    go_wp2_with fail
    go_ret
    exact ⟨rfl, Below.refl _ _⟩
end Go.Proofs.Ytencgkhofjmdhaa
