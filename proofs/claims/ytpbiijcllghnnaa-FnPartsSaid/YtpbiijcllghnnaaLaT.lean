import Derived.Test.YtpbiijcllghnnaaLaG
/- Laws over drawn terms: rows of texts; FnParts. -/
namespace Go.Proofs.Ytpbiijcllghnnaa
open Go.RowKit Go.Shelf
open Ff
set_option linter.unusedVariables false
attribute [local irreducible] Calls

set_option maxRecDepth 100000 in
set_option maxHeartbeats 2000000 in
theorem texts_c (va vb : Value) (b1 b2 : Nat) (l : List Text) (w : World) (ha : Strs w b1 va l) (hb : Strs w b2 vb l) (hl : l.length ≤ 1000000) :
    Calls Try.prog 25 #[va, vb] w fun e w' => e = .returned (.bool true) ∧ Below w.heap.size w w' := by
  obtain ⟨⟨aa, ca, rfl⟩, hca⟩ := ha.cases
  obtain ⟨⟨ab, cb, rfl⟩, hcb⟩ := hb.cases
  have HA := Lib.hid hca
  have HB := Lib.hid hcb
  clear hca hcb ha hb
  go_enter Try.func25, Try.ntmps25
  go_wp2_with fail
  go_loopw [11] (fun i wr => ∃ k : Nat, k ≤ l.length ∧ i = .int .i64 k ∧ Below w.heap.size w wr) (fun i _ => l.length - (intOf i).toNat)
  case atStart => exact ⟨0, Nat.zero_le _, rfl, Below.refl _ _⟩
  case round =>
    obtain ⟨k, hk, rfl, hB⟩ := hrel
    by_cases hlt : k < l.length
    · obtain ⟨s, hs⟩ : ∃ s, l[k]? = some s := ⟨_, List.getElem?_eq_getElem hlt⟩
      obtain ⟨g1, c1, e1, _, hg1, h1, _⟩ := HA.out k s hs
      obtain ⟨g2, c2, e2, _, hg2, h2, _⟩ := HB.out k s hs
      injection e1 with e1 _ e1c
      injection e2 with e2 _ e2c
      subst e1 e1c e2 e2c
      have d1 := (hB.cell (p := ⟨g1, k, none⟩) hg1).trans h1
      have d2 := (hB.cell (p := ⟨g2, k, none⟩) hg2).trans h2
      clear hs h1 h2 HA HB
      go_wp2_with fail
      go_region
      all_goals go_wp2_with fail
      all_goals exact ⟨⟨k + 1, by omega, by go_num, hB.drew⟩, by simp [intOf]; omega⟩
    · obtain rfl : k = l.length := by omega
      go_wp2_with fail
      go_ret
      exact ⟨rfl, hB⟩
theorem part_le {T p : Tm} (hp : p ∈ parts T) : (textN p).length ≤ (textN T).length ∧ (parts p).length ≤ (parts T).length ∧ p.depth ≤ T.depth := by
  induction T with
  | num n => simp only [parts, List.mem_singleton] at hp; subst hp; exact ⟨Nat.le_refl _, Nat.le_refl _, Nat.le_refl _⟩
  | var c => simp only [parts, List.mem_singleton] at hp; subst hp; exact ⟨Nat.le_refl _, Nat.le_refl _, Nat.le_refl _⟩
  | fn c b ih =>
    simp only [parts, List.mem_cons] at hp
    rcases hp with rfl | hp
    · exact ⟨Nat.le_refl _, Nat.le_refl _, Nat.le_refl _⟩
    · have := ih hp; simp only [textN, parts, Tm.depth, List.length_cons]; omega
  | fix f c b ih =>
    simp only [parts, List.mem_cons] at hp
    rcases hp with rfl | hp
    · exact ⟨Nat.le_refl _, Nat.le_refl _, Nat.le_refl _⟩
    · have := ih hp; simp only [textN, parts, Tm.depth, List.length_cons]; omega
  | app f a h1 h2 =>
    simp only [parts, List.mem_cons, List.mem_append] at hp
    rcases hp with rfl | hp | hp
    · exact ⟨Nat.le_refl _, Nat.le_refl _, Nat.le_refl _⟩
    · have := h1 hp; simp only [textN, parts, Tm.depth, List.length_cons, List.length_append]; omega
    · have := h2 hp; simp only [textN, parts, Tm.depth, List.length_cons, List.length_append]; omega
  | bind c f a h1 h2 =>
    simp only [parts, List.mem_cons, List.mem_append] at hp
    rcases hp with rfl | hp | hp
    · exact ⟨Nat.le_refl _, Nat.le_refl _, Nat.le_refl _⟩
    · have := h1 hp; simp only [textN, parts, Tm.depth, List.length_cons, List.length_append]; omega
    · have := h2 hp; simp only [textN, parts, Tm.depth, List.length_cons, List.length_append]; omega
  | op c f a h1 h2 =>
    simp only [parts, List.mem_cons, List.mem_append] at hp
    rcases hp with rfl | hp | hp
    · exact ⟨Nat.le_refl _, Nat.le_refl _, Nat.le_refl _⟩
    · have := h1 hp; simp only [textN, parts, Tm.depth, List.length_cons, List.length_append]; omega
    · have := h2 hp; simp only [textN, parts, Tm.depth, List.length_cons, List.length_append]; omega
  | sel a b c h1 h2 h3 =>
    simp only [parts, List.mem_cons, List.mem_append] at hp
    rcases hp with rfl | hp | hp | hp
    · exact ⟨Nat.le_refl _, Nat.le_refl _, Nat.le_refl _⟩
    · have := h1 hp; simp only [textN, parts, Tm.depth, List.length_cons, List.length_append]; omega
    · have := h2 hp; simp only [textN, parts, Tm.depth, List.length_cons, List.length_append]; omega
    · have := h3 hp; simp only [textN, parts, Tm.depth, List.length_cons, List.length_append]; omega
theorem depth_parts (t : Tm) : t.depth ≤ (parts t).length := by
  induction t with
  | num n => simp [Tm.depth, parts]
  | var c => simp [Tm.depth, parts]
  | _ => simp only [Tm.depth, parts, List.length_cons, List.length_append]; omega
/-- A part's text reads as the part. -/
theorem part_read {s : Text} {T p : Tm} (h : readS s = some T) (hp : p ∈ parts T) : readS (textN p) = some p := by
  have h1 := part_le hp
  have h2 := readS_nest h
  have h3 := readS_text h
  obtain ⟨_, _, _, h4⟩ := readS_some h
  rw [← h3] at h4
  exact text_readS (parts_good (readS_good h) hp) (by omega) (by omega)
theorem kSizeS (s : Text) (hs : s.length ≤ 100000) (w : World) : Calls Try.prog 26 #[.string ⟨s.toArray⟩] w fun e w' => e = .returned (.int .i64 (sizeI (readS s))) ∧ Below w.heap.size w w' := sSizeOf_c s w (by omega)
theorem kDepthS (s : Text) (hs : s.length ≤ 100000) (w : World) : Calls Try.prog 27 #[.string ⟨s.toArray⟩] w fun e w' => e = .returned (.int .i64 (depthI (readS s))) ∧ Below w.heap.size w w' := sDepthOf_c s w (by omega)
theorem kPartsI (s : Text) (hs : s.length ≤ 100000) (w : World) : Calls Try.prog 22 #[.string ⟨s.toArray⟩] w fun e w' => ∃ v, e = .returned (.tuple #[v, .bool (readS s).isSome]) ∧ Strs w' w.heap.size v (partsO (readS s)) ∧ Below w.heap.size w w' := by rw [readS_eq]; exact iPartsOf_c s w (by omega)
theorem kPartsS (s : Text) (hs : s.length ≤ 100000) (w : World) : Calls Try.prog 24 #[.string ⟨s.toArray⟩] w fun e w' => ∃ v, e = .returned (.tuple #[v, .bool (readS s).isSome]) ∧ Strs w' w.heap.size v (partsO (readS s)) ∧ Below w.heap.size w w' := sPartsOf_c s w (by omega)
theorem kSizeT {s : Text} {T : Tm} (hT : readS s = some T) (hs : s.length ≤ 100000) (w : World) : Calls Try.prog 13 #[.string ⟨s.toArray⟩] w fun e w' => e = .returned (.int .i64 ((parts T).length : Nat)) ∧ Below w.heap.size w w' := by have h := kSize s hs w; rw [hT] at h; exact h
theorem kDepthT {s : Text} {T : Tm} (hT : readS s = some T) (hs : s.length ≤ 100000) (w : World) : Calls Try.prog 14 #[.string ⟨s.toArray⟩] w fun e w' => e = .returned (.int .i64 (T.depth : Nat)) ∧ Below w.heap.size w w' := by have h := kDepth s hs w; rw [hT] at h; exact h
theorem kSizeST {s : Text} {T : Tm} (hT : readS s = some T) (hs : s.length ≤ 100000) (w : World) : Calls Try.prog 26 #[.string ⟨s.toArray⟩] w fun e w' => e = .returned (.int .i64 ((parts T).length : Nat)) ∧ Below w.heap.size w w' := by have h := kSizeS s hs w; rw [hT] at h; exact h
theorem kDepthST {s : Text} {T : Tm} (hT : readS s = some T) (hs : s.length ≤ 100000) (w : World) : Calls Try.prog 27 #[.string ⟨s.toArray⟩] w fun e w' => e = .returned (.int .i64 (T.depth : Nat)) ∧ Below w.heap.size w w' := by have h := kDepthS s hs w; rw [hT] at h; exact h
theorem kValidT {s : Text} {T : Tm} (hT : readS s = some T) (hs : s.length ≤ 100000) (w : World) : Calls Try.prog 9 #[.string ⟨s.toArray⟩] w fun e w' => e = .returned (.bool true) ∧ Below w.heap.size w w' := by have h := kValid s hs w; rw [hT] at h; exact h
theorem rows_len {s : Text} {T : Tm} (h : readS s = some T) : (parts T).length ≤ 120 := readS_parts h

set_option maxRecDepth 100000 in
set_option maxHeartbeats 8000000 in
theorem law_fnParts (a : Option Addr) (l c : Nat) (w : World) (h : Src w a l c) :
    Calls Try.prog 5 #[.slice a l c] w fun e w' => e = .returned (.bool true) ∧ Below w.heap.size w w' := by
  by_cases hl : l ≤ 1048576
  · have hl2 : (l : Int) ≤ 1048576 := by omega
    go_enter Try.func5, Try.ntmps5
    go_wp2_with fail
    refine (drawPartsOf_c a l c w h).mono ?_; rintro e w1 ⟨s, rfl, hs, hb⟩
    go_wp2_with fail
    rcases hT : readS s with _ | T
    · have HT := Lib.hid hT
      clear hT
      refine (kPartsI s (by omega) w1).mono ?_; rw [HT.out]; simp only [Option.isSome]; rintro e w2 ⟨v1, rfl, s1, hb2⟩; replace hb := next hb hb2; clear hb2
      go_wp2_with fail
      refine (kPartsS s (by omega) w2).mono ?_; rw [HT.out]; simp only [Option.isSome]; rintro e w3 ⟨v2, rfl, s2, hb2⟩; replace hb := next hb hb2; replace s1 := Strs.below s1 hb2 (Nat.le_refl _); clear hb2
      go_wp2_with fail
      refine (texts_c v1 v2 _ _ _ w3 s1 s2 (by simp [partsO])).mono ?_; rintro e w4 ⟨rfl, hb2⟩; replace hb := next hb hb2; replace s1 := Strs.below s1 hb2 (Nat.le_refl _); replace s2 := Strs.below s2 hb2 (Nat.le_refl _); clear hb2
      go_wp2_with fail
      refine (kValid s (by omega) w4).mono ?_; rw [HT.out]; simp only [Option.isSome]; rintro e w5 ⟨rfl, hb2⟩; replace hb := next hb hb2; replace s1 := Strs.below s1 hb2 (Nat.le_refl _); replace s2 := Strs.below s2 hb2 (Nat.le_refl _); clear hb2
      go_wp2_with fail
      refine (kSize s (by omega) w5).mono ?_; rw [HT.out]; rintro e w6 ⟨rfl, hb2⟩; replace hb := next hb hb2; replace s1 := Strs.below s1 hb2 (Nat.le_refl _); replace s2 := Strs.below s2 hb2 (Nat.le_refl _); clear hb2
      go_wp2_with fail
      refine (kSizeS s (by omega) w6).mono ?_; rw [HT.out]; rintro e w7 ⟨rfl, hb2⟩; replace hb := next hb hb2; replace s1 := Strs.below s1 hb2 (Nat.le_refl _); replace s2 := Strs.below s2 hb2 (Nat.le_refl _); clear hb2
      go_wp2_with fail
      refine (kDepth s (by omega) w7).mono ?_; rw [HT.out]; rintro e w8 ⟨rfl, hb2⟩; replace hb := next hb hb2; replace s1 := Strs.below s1 hb2 (Nat.le_refl _); replace s2 := Strs.below s2 hb2 (Nat.le_refl _); clear hb2
      go_wp2_with fail
      refine (kDepthS s (by omega) w8).mono ?_; rw [HT.out]; rintro e w9 ⟨rfl, hb2⟩; replace hb := next hb hb2; replace s1 := Strs.below s1 hb2 (Nat.le_refl _); replace s2 := Strs.below s2 hb2 (Nat.le_refl _); clear hb2
      go_wp2_with fail
      refine (texts_c v1 v2 _ _ _ w9 s1 s2 (by simp [partsO])).mono ?_; rintro e w10 ⟨rfl, hb2⟩; replace hb := next hb hb2; clear hb2
      go_wp2_with fail
      refine (kValid s (by omega) w10).mono ?_; rw [HT.out]; simp only [Option.isSome]; rintro e w11 ⟨rfl, hb2⟩; replace hb := next hb hb2; clear hb2
      go_wp2_with fail
      refine (kSize s (by omega) w11).mono ?_; rw [HT.out]; rintro e w12 ⟨rfl, hb2⟩; replace hb := next hb hb2; clear hb2
      go_wp2_with fail
      refine (kSizeS s (by omega) w12).mono ?_; rw [HT.out]; rintro e w13 ⟨rfl, hb2⟩; replace hb := next hb hb2; clear hb2
      go_wp2_with fail
      refine (kDepth s (by omega) w13).mono ?_; rw [HT.out]; rintro e w14 ⟨rfl, hb2⟩; replace hb := next hb hb2; clear hb2
      go_wp2_with fail
      refine (kDepthS s (by omega) w14).mono ?_; rw [HT.out]; rintro e w15 ⟨rfl, hb2⟩; replace hb := next hb hb2; clear hb2
      go_wp2_with fail
      go_ret
      exact ⟨rfl, hb⟩
    · have hpl := rows_len hT
      have hdp := depth_parts T
      have hd24 := readS_nest hT
      have htx := readS_text hT
      obtain ⟨P0, hP0⟩ : ∃ P0 : List Tm, (parts T) = T :: P0 := by rw [parts_kids]; exact ⟨_, rfl⟩
      have HT := Lib.hid hT
      have HP0 := Lib.hid hP0
      have HX := Lib.hid htx
      clear hT hP0 htx
      have hlo : (partsO (some T)).length = (parts T).length := by simp [partsO, partsT]
      have hat : ∀ (i : Nat) (p : Tm), (parts T)[i]? = some p → (partsO (some T))[i]? = some (textN p) := fun i p hp => by show (List.map textN (parts T))[i]? = _; rw [List.getElem?_map, hp]; rfl
      refine (kPartsI s (by omega) w1).mono ?_; rw [HT.out]; simp only [Option.isSome]; rintro e w2 ⟨v1, rfl, s1, hb2⟩; replace hb := next hb hb2; clear hb2
      go_wp2_with fail
      refine (kPartsS s (by omega) w2).mono ?_; rw [HT.out]; simp only [Option.isSome]; rintro e w3 ⟨v2, rfl, s2, hb2⟩; replace hb := next hb hb2; replace s1 := Strs.below s1 hb2 (Nat.le_refl _); clear hb2
      go_wp2_with fail
      refine (texts_c v1 v2 _ _ _ w3 s1 s2 (by omega)).mono ?_; rintro e w4 ⟨rfl, hb2⟩; replace hb := next hb hb2; replace s1 := Strs.below s1 hb2 (Nat.le_refl _); clear hb2 s2
      go_wp2_with fail
      refine (kValidT HT.out (by omega) w4).mono ?_; rintro e w5 ⟨rfl, hb2⟩; replace hb := next hb hb2; replace s1 := Strs.below s1 hb2 (Nat.le_refl _); clear hb2
      go_wp2_with fail
      refine (kSizeT HT.out (by omega) w5).mono ?_; rintro e w6 ⟨rfl, hb2⟩; replace hb := next hb hb2; replace s1 := Strs.below s1 hb2 (Nat.le_refl _); clear hb2
      go_wp2_with fail
      refine (kSizeST HT.out (by omega) w6).mono ?_; rintro e w7 ⟨rfl, hb2⟩; replace hb := next hb hb2; replace s1 := Strs.below s1 hb2 (Nat.le_refl _); clear hb2
      go_wp2_with fail
      refine (kDepthT HT.out (by omega) w7).mono ?_; rintro e w8 ⟨rfl, hb2⟩; replace hb := next hb hb2; replace s1 := Strs.below s1 hb2 (Nat.le_refl _); clear hb2
      go_wp2_with fail
      refine (kDepthST HT.out (by omega) w8).mono ?_; rintro e w9 ⟨rfl, hb2⟩; replace hb := next hb hb2; replace s1 := Strs.below s1 hb2 (Nat.le_refl _); clear hb2
      obtain ⟨⟨aa, ca, rfl⟩, hc⟩ := s1.cases
      rw [hlo] at hc ⊢
      have hcell : ∀ (i : Nat) (p : Tm), (parts T)[i]? = some p → ∃ g, aa = some ⟨g, 0, none⟩ ∧ g < w9.heap.size ∧ w9.cell? ⟨g, i, none⟩ = some (.string ⟨(textN p).toArray⟩) := fun i p hp => by
        obtain ⟨g, c', hv, _, h1, h2, _⟩ := hc i _ (hat i p hp)
        injection hv with h3
        exact ⟨g, h3, h1, h2⟩
      clear hc hat s1 hlo
      have HC := Lib.hid hcell
      clear hcell
      go_wp2_with fail
      go_loopw [88] (fun i wr => ∃ k : Nat, k ≤ (parts T).length ∧ i = .int .i64 k ∧ Below w.heap.size w wr ∧ Below w9.heap.size w9 wr) (fun i _ => (parts T).length - (intOf i).toNat)
      case atStart => exact ⟨0, Nat.zero_le _, rfl, hb, Below.refl _ _⟩
      case round =>
        obtain ⟨k, hk, rfl, hb, hB⟩ := hrel
        by_cases hlt : k < (parts T).length
        · obtain ⟨p, hp⟩ : ∃ p, (parts T)[k]? = some p := ⟨_, List.getElem?_eq_getElem hlt⟩
          obtain ⟨g, rfl, hg, hc⟩ := HC.out k p hp
          have hc2 := (hB.cell (p := ⟨g, k, none⟩) hg).trans hc
          have hpr := part_read HT.out (List.mem_of_getElem? hp)
          obtain ⟨hle1, hle2, hle3⟩ := part_le (List.mem_of_getElem? hp)
          have hx := congrArg List.length HX.out
          have HR := Lib.hid hpr
          clear hp hc hpr HC
          generalize textN p = X at hc2 hle1 HR
          have hX : X.length ≤ 100000 := by omega
          have hd : (p.depth : Int) ≤ (T.depth : Int) := by omega
          have hd2 : ((parts p).length : Int) ≤ ((parts T).length : Int) := by omega
          go_wp2_with fail
          refine (kValidT HR.out hX wr).mono ?_; rintro e u1 ⟨rfl, hb2⟩; replace hb := next hb hb2; replace hB := next hB hb2; clear hb2
          go_wp2_with fail
          refine (kSizeT HR.out hX u1).mono ?_; rintro e u2 ⟨rfl, hb2⟩; replace hb := next hb hb2; replace hB := next hB hb2; clear hb2
          go_wp2_with fail
          refine (kSizeT HT.out (by omega) u2).mono ?_; rintro e u3 ⟨rfl, hb2⟩; replace hb := next hb hb2; replace hB := next hB hb2; clear hb2
          go_wp2_with fail
          refine (kDepthT HR.out hX u3).mono ?_; rintro e u4 ⟨rfl, hb2⟩; replace hb := next hb hb2; replace hB := next hB hb2; clear hb2
          go_wp2_with fail
          refine (kDepthT HT.out (by omega) u4).mono ?_; rintro e u5 ⟨rfl, hb2⟩; replace hb := next hb hb2; replace hB := next hB hb2; clear hb2
          go_wp2_with fail
          exact ⟨⟨k + 1, by omega, by go_num, hb, hB⟩, by simp [intOf]; omega⟩
        · obtain rfl : k = (parts T).length := by omega
          obtain ⟨g, rfl, hg, hc⟩ := HC.out 0 T (by rw [HP0.out]; rfl)
          have hc2 := (hB.cell (p := ⟨g, 0, none⟩) hg).trans hc
          rw [HX.out] at hc2
          have hn : 0 < (parts T).length := by rw [HP0.out]; simp
          have hd : (T.depth : Int) ≤ ((parts T).length : Int) := by omega
          have hd2 : (T.depth : Int) ≤ 24 := by omega
          clear hc HC
          go_wp2_with fail
          refine (kSizeT HT.out (by omega) wr).mono ?_; rintro e u1 ⟨rfl, hb2⟩; replace hb := next hb hb2; clear hb2
          go_wp2_with fail
          refine (kDepthT HT.out (by omega) u1).mono ?_; rintro e u2 ⟨rfl, hb2⟩; replace hb := next hb hb2; clear hb2
          go_wp2_with fail
          refine (kDepthT HT.out (by omega) u2).mono ?_; rintro e u3 ⟨rfl, hb2⟩; replace hb := next hb hb2; clear hb2
          go_wp2_with fail
          go_ret
          exact ⟨by simp, hb⟩
  · have hl2 : 1048576 < (l : Int) := by omega
    go_enter Try.func5, Try.ntmps5
    go_wp2_with fail
    go_ret
    exact ⟨rfl, Below.refl _ _⟩
end Go.Proofs.Ytpbiijcllghnnaa
