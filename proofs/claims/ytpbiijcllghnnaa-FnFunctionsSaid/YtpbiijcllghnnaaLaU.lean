import Derived.Test.YtpbiijcllghnnaaLaT
import Derived.Test.YtpbiijcllghnnaaMPf
/- Laws over drawn terms: FnFunctions. -/
namespace Go.Proofs.Ytpbiijcllghnnaa
open Go.RowKit Go.Shelf
open Ff
set_option linter.unusedVariables false
attribute [local irreducible] Calls

theorem cell_lt {W : World} {p : Addr} {v : Value} (h : W.cell? p = some v) : p.block < W.heap.size := by
  obtain ⟨o, ho, _⟩ := cells_of_cell h
  exact (Array.getElem?_eq_some_iff.1 ho).1
theorem filter_at {α : Type} (f : α → Bool) (l : List α) (k : Nat) (p : α) (h : l[k]? = some p) (hf : f p = true) : (l.filter f)[((l.take k).filter f).length]? = some p := by
  have e : l = l.take k ++ p :: l.drop (k + 1) := by
    have hk : k < l.length := (List.getElem?_eq_some_iff.1 h).1
    have h2 := (List.getElem?_eq_some_iff.1 h).2
    rw [← h2, ← List.drop_eq_getElem_cons hk, List.take_append_drop]
  have e2 : l.filter f = (l.take k).filter f ++ (p :: (l.drop (k + 1)).filter f) := by
    conv => lhs; rw [e]
    rw [List.filter_append, List.filter_cons, if_pos hf]
  rw [e2, List.getElem?_append_right (Nat.le_refl _)]
  simp
theorem filter_next {α : Type} (f : α → Bool) (l : List α) (k : Nat) (p : α) (h : l[k]? = some p) : ((l.take (k + 1)).filter f).length = ((l.take k).filter f).length + (if f p then 1 else 0) := by
  rw [List.take_add_one, h]
  simp only [Option.toList_some, List.filter_append, List.length_append, List.filter_cons, List.filter_nil]
  split <;> simp
/-- What a part's text begins with. -/
theorem part_head {p : Tm} (hg : p.good) : ∃ c r, textN p = c :: r ∧ ((isFun p = true ∧ c.toNat = 92) ∨ (isFun p = true ∧ c.toNat = 64) ∨ (isFun p = false ∧ c.toNat ≠ 92 ∧ c.toNat ≠ 64)) := by
  cases p with
  | num n =>
    by_cases h : n < 10
    · exact ⟨_, _, by simp only [textN, numN, decN, if_pos h]; rfl, .inr (.inr ⟨rfl, by rw [dig_toN h]; omega, by rw [dig_toN h]; omega⟩)⟩
    · exact ⟨_, _, by simp only [textN, numN, if_neg h]; rfl, .inr (.inr ⟨rfl, by decide, by decide⟩)⟩
  | var c =>
    have h : 97 ≤ c.toNat ∧ c.toNat ≤ 112 := by simpa [Tm.good, isNam] using hg
    exact ⟨c, [], rfl, .inr (.inr ⟨rfl, by omega, by omega⟩)⟩
  | fn c b => exact ⟨_, _, rfl, .inl ⟨rfl, rfl⟩⟩
  | fix f c b => exact ⟨_, _, rfl, .inr (.inl ⟨rfl, rfl⟩)⟩
  | app f a => exact ⟨_, _, rfl, .inr (.inr ⟨rfl, by decide, by decide⟩)⟩
  | bind c v b => exact ⟨_, _, rfl, .inr (.inr ⟨rfl, by decide, by decide⟩)⟩
  | op s l r =>
    have h : s.toNat = 43 ∨ s.toNat = 45 ∨ s.toNat = 42 := by rcases hg.1 with e | e | e <;> subst e <;> decide
    exact ⟨s, _, rfl, .inr (.inr ⟨rfl, by omega, by omega⟩)⟩
  | sel a b c => exact ⟨_, _, rfl, .inr (.inr ⟨rfl, by decide, by decide⟩)⟩
theorem fun_val {p : Tm} (h : isFun p = true) : p.isVal = true := by cases p <;> first | rfl | cases h
theorem kValueT {s : Text} {p : Tm} (h : readS s = some p) (hv : p.isVal = true) (hs : s.length ≤ 100000) (w : World) : Calls Try.prog 16 #[.string ⟨s.toArray⟩] w fun e w' => e = .returned (.bool true) ∧ Below w.heap.size w w' := by
  have k := kValue s hs w
  rw [h] at k
  simpa only [Option.any, hv] using k
theorem kValueS (s : Text) (hs : s.length ≤ 100000) (w : World) : Calls Try.prog 32 #[.string ⟨s.toArray⟩] w fun e w' => e = .returned (.bool ((readS s).any Tm.isVal)) ∧ Below w.heap.size w w' := sIsValue_c s w (by omega)
theorem kFunsI (s : Text) (hs : s.length ≤ 100000) (w : World) : Calls Try.prog 29 #[.string ⟨s.toArray⟩] w fun e w' => ∃ v, e = .returned (.tuple #[v, .bool (readS s).isSome]) ∧ Strs w' w.heap.size v (funsO (readS s)) ∧ Below w.heap.size w w' := by rw [readS_eq]; exact iFunctionsIn_c s w (by omega)
theorem kFunsS (s : Text) (hs : s.length ≤ 100000) (w : World) : Calls Try.prog 30 #[.string ⟨s.toArray⟩] w fun e w' => ∃ v, e = .returned (.tuple #[v, .bool (readS s).isSome]) ∧ Strs w' w.heap.size v (funsO (readS s)) ∧ Below w.heap.size w w' := sFunctionsIn_c s w (by omega)
set_option maxHeartbeats 1000000 in
theorem drawFunctionsIn_c (a : Option Addr) (l c : Nat) (w : World) (h : Src w a l c) :
    Calls Try.prog 28 #[.slice a l c] w fun e w' => ∃ s : Text, e = .returned (.string ⟨s.toArray⟩) ∧ s.length ≤ 5000 ∧ Below w.heap.size w w' := by
  go_enter Try.func28, Try.ntmps28
  go_wp2_with fail
  refine (open_c a l c w h).mono ?_; rintro e w1 ⟨l', rfl, hD⟩
  go_wp2_with fail
  refine (any_c _ _ _ _ _ _ _ hD (by omega)).mono ?_; rintro e w2 ⟨s, p', rfl, hs, hp, hD2⟩
  go_wp2_with fail
  go_ret
  exact ⟨s, rfl, hs, hD2.below⟩
set_option maxHeartbeats 1000000 in
theorem drawIsValue_c (a : Option Addr) (l c : Nat) (w : World) (h : Src w a l c) :
    Calls Try.prog 31 #[.slice a l c] w fun e w' => ∃ s : Text, e = .returned (.string ⟨s.toArray⟩) ∧ s.length ≤ 5000 ∧ Below w.heap.size w w' := by
  go_enter Try.func31, Try.ntmps31
  go_wp2_with fail
  refine (open_c a l c w h).mono ?_; rintro e w1 ⟨l', rfl, hD⟩
  go_wp2_with fail
  refine (any_c _ _ _ _ _ _ _ hD (by omega)).mono ?_; rintro e w2 ⟨s, p', rfl, hs, hp, hD2⟩
  go_wp2_with fail
  go_ret
  exact ⟨s, rfl, hs, hD2.below⟩
set_option maxRecDepth 100000 in
set_option maxHeartbeats 8000000 in
theorem law_fnFunctions (a : Option Addr) (l c : Nat) (a2 : Option Addr) (l2 c2 : Nat) (w : World) (h : Src w a l c) (h2 : Src w a2 l2 c2) :
    Calls Try.prog 6 #[.slice a l c, .slice a2 l2 c2] w fun e w' => e = .returned (.bool true) ∧ Below w.heap.size w w' := by
  by_cases hl : l ≤ 1048576
  · have hl2 : (l : Int) ≤ 1048576 := by omega
    by_cases hm : l2 ≤ 1048576
    · have hm2 : (l2 : Int) ≤ 1048576 := by omega
      go_enter Try.func6, Try.ntmps6
      go_wp2_with fail
      refine (drawFunctionsIn_c a l c w h).mono ?_; rintro e w1 ⟨s, rfl, hs, hb⟩
      have k2 := h2.keep hb
      go_wp2_with fail
      rcases hT : readS s with _ | T
      · have HT := Lib.hid hT
        clear hT
        refine (kFunsI s (by omega) w1).mono ?_; rw [HT.out]; simp only [Option.isSome]; rintro e w2 ⟨v1, rfl, s1, hb2⟩; replace hb := next hb hb2; replace k2 := k2.keep hb2; clear hb2
        go_wp2_with fail
        refine (kFunsS s (by omega) w2).mono ?_; rw [HT.out]; simp only [Option.isSome]; rintro e w3 ⟨v2, rfl, s2, hb2⟩; replace hb := next hb hb2; replace s1 := Strs.below s1 hb2 (Nat.le_refl _); replace k2 := k2.keep hb2; clear hb2
        go_wp2_with fail
        refine (drawIsValue_c a2 l2 c2 w3 k2).mono ?_; rintro e w4 ⟨x, rfl, hx, hb2⟩; replace hb := next hb hb2; replace s1 := Strs.below s1 hb2 (Nat.le_refl _); replace s2 := Strs.below s2 hb2 (Nat.le_refl _); clear hb2 k2
        obtain ⟨B, hB0⟩ : ∃ B, (readS x).any Tm.isVal = B := ⟨_, rfl⟩
        have HB0 := Lib.hid hB0
        clear hB0
        go_wp2_with fail
        refine (texts_c v1 v2 _ _ _ w4 s1 s2 (by simp [funsO])).mono ?_; rintro e w5 ⟨rfl, hb2⟩; replace hb := next hb hb2; replace s1 := Strs.below s1 hb2 (Nat.le_refl _); replace s2 := Strs.below s2 hb2 (Nat.le_refl _); clear hb2
        go_wp2_with fail
        refine (kValue x (by omega) w5).mono ?_; rw [HB0.out]; rintro e w6 ⟨rfl, hb2⟩; replace hb := next hb hb2; replace s1 := Strs.below s1 hb2 (Nat.le_refl _); replace s2 := Strs.below s2 hb2 (Nat.le_refl _); clear hb2
        go_wp2_with fail
        refine (kValueS x (by omega) w6).mono ?_; rw [HB0.out]; rintro e w7 ⟨rfl, hb2⟩; replace hb := next hb hb2; replace s1 := Strs.below s1 hb2 (Nat.le_refl _); replace s2 := Strs.below s2 hb2 (Nat.le_refl _); clear hb2
        go_wp2_with fail
        refine (texts_c v1 v2 _ _ _ w7 s1 s2 (by simp [funsO])).mono ?_; rintro e w8 ⟨rfl, hb2⟩; replace hb := next hb hb2; clear hb2
        go_wp2_with fail
        refine (kValue x (by omega) w8).mono ?_; rw [HB0.out]; rintro e w9 ⟨rfl, hb2⟩; replace hb := next hb hb2; clear hb2
        go_wp2_with fail
        refine (kValueS x (by omega) w9).mono ?_; rw [HB0.out]; rintro e w10 ⟨rfl, hb2⟩; replace hb := next hb hb2; clear hb2
        go_wp2_with fail
        go_ret
        exact ⟨by simp, hb⟩
      · have hpl := rows_len hT
        have hgd := readS_good hT
        have htx := readS_text hT
        have HT := Lib.hid hT
        have HX := Lib.hid htx
        have HG := Lib.hid hgd
        clear hT htx hgd
        have hfl : ((parts T).filter isFun).length ≤ (parts T).length := List.length_filter_le _ _
        have hlo : (funsO (some T)).length = ((parts T).filter isFun).length := by simp [funsO, funsT]
        have hat : ∀ (i : Nat) (p : Tm), ((parts T).filter isFun)[i]? = some p → (funsO (some T))[i]? = some (textN p) := fun i p hp => by show (List.map textN ((parts T).filter isFun))[i]? = _; rw [List.getElem?_map, hp]; rfl
        refine (kFunsI s (by omega) w1).mono ?_; rw [HT.out]; simp only [Option.isSome]; rintro e w2 ⟨v1, rfl, s1, hb2⟩; replace hb := next hb hb2; replace k2 := k2.keep hb2; clear hb2
        go_wp2_with fail
        refine (kFunsS s (by omega) w2).mono ?_; rw [HT.out]; simp only [Option.isSome]; rintro e w3 ⟨v2, rfl, s2, hb2⟩; replace hb := next hb hb2; replace s1 := Strs.below s1 hb2 (Nat.le_refl _); replace k2 := k2.keep hb2; clear hb2
        go_wp2_with fail
        refine (drawIsValue_c a2 l2 c2 w3 k2).mono ?_; rintro e w4 ⟨x, rfl, hx, hb2⟩; replace hb := next hb hb2; replace s1 := Strs.below s1 hb2 (Nat.le_refl _); replace s2 := Strs.below s2 hb2 (Nat.le_refl _); clear hb2 k2
        obtain ⟨B, hB0⟩ : ∃ B, (readS x).any Tm.isVal = B := ⟨_, rfl⟩
        have HB0 := Lib.hid hB0
        clear hB0
        go_wp2_with fail
        refine (texts_c v1 v2 _ _ _ w4 s1 s2 (by omega)).mono ?_; rintro e w5 ⟨rfl, hb2⟩; replace hb := next hb hb2; replace s1 := Strs.below s1 hb2 (Nat.le_refl _); clear hb2 s2
        go_wp2_with fail
        refine (kValue x (by omega) w5).mono ?_; rw [HB0.out]; rintro e w6 ⟨rfl, hb2⟩; replace hb := next hb hb2; replace s1 := Strs.below s1 hb2 (Nat.le_refl _); clear hb2
        go_wp2_with fail
        refine (kValueS x (by omega) w6).mono ?_; rw [HB0.out]; rintro e w7 ⟨rfl, hb2⟩; replace hb := next hb hb2; replace s1 := Strs.below s1 hb2 (Nat.le_refl _); clear hb2
        obtain ⟨⟨aa, ca, rfl⟩, hc⟩ := s1.cases
        rw [hlo] at hc ⊢
        have hcell : ∀ (i : Nat) (p : Tm), ((parts T).filter isFun)[i]? = some p → ∃ g, aa = some ⟨g, 0, none⟩ ∧ g < w7.heap.size ∧ w7.cell? ⟨g, i, none⟩ = some (.string ⟨(textN p).toArray⟩) := fun i p hp => by
          obtain ⟨g, c', hv, _, h1, h2, _⟩ := hc i _ (hat i p hp)
          injection hv with h3
          exact ⟨g, h3, h1, h2⟩
        clear hc hat s1 hlo
        have HC := Lib.hid hcell
        clear hcell
        go_wp2_with fail
        refine (kParts s (by omega) T HT.out w7).mono ?_; rintro e w8 ⟨g2, cp, rfl, hcell2, hb2⟩; replace hb := next hb hb2
        have HD := Lib.hid hcell2
        have HB := Lib.hid hb2
        clear hcell2 hb2
        go_wp2_with fail
        go_loopw [13, 80] (fun j i wr => ∃ k : Nat, k ≤ (parts T).length ∧ i = .int .i64 k ∧ j = .int .i64 (((parts T).take k).filter isFun).length ∧ Below w.heap.size w wr ∧ Below w8.heap.size w8 wr) (fun _ i _ => (parts T).length - (intOf i).toNat)
        case atStart => exact ⟨0, Nat.zero_le _, rfl, rfl, hb, Below.refl _ _⟩
        case round =>
          obtain ⟨k, hk, rfl, rfl, hb, hB⟩ := hrel
          by_cases hlt : k < (parts T).length
          · obtain ⟨p, hp⟩ : ∃ p, (parts T)[k]? = some p := ⟨_, List.getElem?_eq_getElem hlt⟩
            have hc2 := (hB.cell (p := ⟨g2, k, none⟩) (cell_lt (HD.out k p hp))).trans (HD.out k p hp)
            have hpr := part_read HT.out (List.mem_of_getElem? hp)
            have hle1 := (part_le (List.mem_of_getElem? hp)).1
            have hx1 := congrArg List.length HX.out
            have hcn := filter_next isFun (parts T) k p hp
            have hfa := filter_at isFun (parts T) k p hp
            have hhd := part_head (parts_good HG.out (List.mem_of_getElem? hp))
            have hft : (((parts T).take k).filter isFun).length ≤ 120 := Nat.le_trans (List.length_filter_le _ _) (by simp; omega)
            generalize (((parts T).take k).filter isFun).length = j at hcn hfa hft ⊢
            obtain ⟨d, r, hX, hd⟩ := hhd
            clear hp
            rcases hd with ⟨hf, hd⟩ | ⟨hf, hd⟩ | ⟨hf, hd1, hd2⟩
            · obtain ⟨g, rfl, hg, hc⟩ := HC.out j p (hfa hf)
              have hj : j < ((parts T).filter isFun).length := (List.getElem?_eq_some_iff.1 (hfa hf)).1
              have hc3 := (hB.cell (p := ⟨g, j, none⟩) (Nat.lt_of_lt_of_le hg HB.out.size)).trans ((HB.out.cell (p := ⟨g, j, none⟩) hg).trans hc)
              rw [if_pos hf] at hcn
              have hv := fun_val hf
              have HR := Lib.hid hpr
              have HV := Lib.hid hv
              have HN := Lib.hid hcn
              clear hc hpr hv hcn hfa hf HC HD HB
              generalize textN p = X at hc2 hc3 hle1 HR hX
              obtain ⟨q, hix⟩ : ∃ h : 0 < (⟨X.toArray⟩ : ByteArray).size, (⟨X.toArray⟩ : ByteArray)[0]'h = d := ⟨by rw [size_data, hX]; simp, index_byte X 0 d (by rw [hX]; rfl) _⟩
              have hd3 : (d.toNat : Int) = 92 := by omega
              have hX2 : X.length ≤ 100000 := by omega
              clear hX
              go_wp2_with fail
              refine (kValueT HR.out HV.out hX2 wr).mono ?_; rintro e u1 ⟨rfl, hb2⟩; replace hb := next hb hb2; replace hB := next hB hb2; clear hb2
              go_wp2_with fail
              exact ⟨⟨k + 1, by omega, by go_num, by rw [HN.out]; go_num, hb, hB⟩, by simp [intOf]; omega⟩
            · obtain ⟨g, rfl, hg, hc⟩ := HC.out j p (hfa hf)
              have hj : j < ((parts T).filter isFun).length := (List.getElem?_eq_some_iff.1 (hfa hf)).1
              have hc3 := (hB.cell (p := ⟨g, j, none⟩) (Nat.lt_of_lt_of_le hg HB.out.size)).trans ((HB.out.cell (p := ⟨g, j, none⟩) hg).trans hc)
              rw [if_pos hf] at hcn
              have hv := fun_val hf
              have HR := Lib.hid hpr
              have HV := Lib.hid hv
              have HN := Lib.hid hcn
              clear hc hpr hv hcn hfa hf HC HD HB
              generalize textN p = X at hc2 hc3 hle1 HR hX
              obtain ⟨q, hix⟩ : ∃ h : 0 < (⟨X.toArray⟩ : ByteArray).size, (⟨X.toArray⟩ : ByteArray)[0]'h = d := ⟨by rw [size_data, hX]; simp, index_byte X 0 d (by rw [hX]; rfl) _⟩
              have hd3 : (d.toNat : Int) = 64 := by omega
              have hX2 : X.length ≤ 100000 := by omega
              clear hX
              go_wp2_with fail
              refine (kValueT HR.out HV.out hX2 wr).mono ?_; rintro e u1 ⟨rfl, hb2⟩; replace hb := next hb hb2; replace hB := next hB hb2; clear hb2
              go_wp2_with fail
              exact ⟨⟨k + 1, by omega, by go_num, by rw [HN.out]; go_num, hb, hB⟩, by simp [intOf]; omega⟩
            · rw [hf] at hcn
              simp only [Bool.false_eq_true, if_false, Nat.add_zero] at hcn
              have HN := Lib.hid hcn
              clear hpr hcn hfa hf HC HD HB
              generalize textN p = X at hc2 hle1 hX
              obtain ⟨q, hix⟩ : ∃ h : 0 < (⟨X.toArray⟩ : ByteArray).size, (⟨X.toArray⟩ : ByteArray)[0]'h = d := ⟨by rw [size_data, hX]; simp, index_byte X 0 d (by rw [hX]; rfl) _⟩
              have hd3 : ((d.toNat : Int) == 92) = false := by rw [beq_eq_false_iff_ne]; omega
              have hd4 : ((d.toNat : Int) == 64) = false := by rw [beq_eq_false_iff_ne]; omega
              clear hX
              go_wp2_with fail
              exact ⟨⟨k + 1, by omega, by go_num, by rw [HN.out], hb, hB⟩, by simp [intOf]; omega⟩
          · obtain rfl : k = (parts T).length := by omega
            rw [List.take_length]
            go_wp2_with fail
            go_ret
            exact ⟨by simp, hb⟩
    · have hm2 : 1048576 < (l2 : Int) := by omega
      go_enter Try.func6, Try.ntmps6
      go_wp2_with fail
      go_ret
      exact ⟨rfl, Below.refl _ _⟩
  · have hl2 : 1048576 < (l : Int) := by omega
    go_enter Try.func6, Try.ntmps6
    go_wp2_with fail
    go_ret
    exact ⟨rfl, Below.refl _ _⟩
end Go.Proofs.Ytpbiijcllghnnaa
