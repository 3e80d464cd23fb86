import Derived.Test.YtnfehnajcadlpaaLaB
/- Laws over drawn terms: FnLetTerm. -/
namespace Go.Proofs.Ytnfehnajcadlpaa
open Go.RowKit
open Ff
set_option linter.unusedVariables false
attribute [local irreducible] Calls

theorem kValidS (s : Text) (hs : s.length ≤ 100000) (w : World) : Calls Try.prog 22 #[.string ⟨s.toArray⟩] w fun e w' => e = .returned (.bool (readS s).isSome) ∧ Below w.heap.size w w' := sTermValid_c s w (by omega)
theorem cnt_a (T U : Tm) : cntF (.bind 97 T U) 97 = cntF T 97 := by simp [cntF]
theorem cnt_b (T U : Tm) : cntF (.bind 97 T U) 98 = cntF T 98 + cntF U 98 := by
  have h : ¬ ((98 : UInt8) ∈ [(97 : UInt8)]) := by decide
  simp only [cntF, if_neg h]
theorem size_let (c : UInt8) (T U : Tm) : (parts (.bind c T U)).length = (parts T).length + (parts U).length + 1 := by simp [parts]
theorem bound_let (T U : Tm) : (97 : UInt8) ∈ sbound (.bind 97 T U) := by
  unfold sbound
  rw [mem_sort]
  refine ⟨by decide, ?_⟩
  unfold boundTo
  rw [List.take_length]
  simp [parts, bindsOf]
theorem bound_len (t : Tm) : (sbound t).length ≤ 16 := sort_len _
theorem name_a : nameOf [97] = some 97 := rfl
theorem name_b : nameOf [98] = some 98 := rfl
theorem cAt (T : Tm) (s : Text) (x : UInt8) (h : readS s = some T) (hx : nameOf [x] = some x) : cntI (readS s) (nameOf [x]) = (cntF T x : Int) := by rw [h, hx]; rfl

set_option maxRecDepth 100000 in
set_option maxHeartbeats 4000000 in
theorem law_fnLetTerm (a : Option Addr) (l c : Nat) (a2 : Option Addr) (l2 c2 : Nat) (w : World) (h : Src w a l c) (h2 : Src w a2 l2 c2) :
    Calls Try.prog 6 #[.slice a l c, .slice a2 l2 c2] w fun e w' => e = .returned (.bool true) ∧ Below w.heap.size w w' := by
  by_cases hl : l ≤ 1048576
  · have hl2 : (l : Int) ≤ 1048576 := by omega
    by_cases hm : l2 ≤ 1048576
    · have hm2 : (l2 : Int) ≤ 1048576 := by omega
      go_enter Try.func6, Try.ntmps6
      go_wp2_with fail
      refine (drawPartsOf_c a l c w h).mono ?_; rintro e w1 ⟨s, rfl, hs, hb⟩
      go_wp2_with fail
      refine (drawBoundOf_c a2 l2 c2 w1 (h2.keep hb)).mono ?_; rintro e w2 ⟨u, rfl, hu, hb2⟩; replace hb := next hb hb2; clear hb2
      obtain ⟨G, hG⟩ : ∃ G : Text, G = 61 :: 97 :: (s ++ u) := ⟨_, rfl⟩
      have e1 : (⟨#[61, 97]⟩ ++ ⟨s.toArray⟩ ++ ⟨u.toArray⟩ : ByteArray) = ⟨G.toArray⟩ := by
        show (⟨([61, 97] : Text).toArray⟩ ++ ⟨s.toArray⟩ ++ ⟨u.toArray⟩ : ByteArray) = _
        rw [str_app2, str_app2, hG]; simp
      have lG : G.length ≤ 100000 := by rw [hG]; simp; omega
      have q1 : ¬ 9223372036854775807 < 2 + s.length := by omega
      have q2 : ¬ 9223372036854775807 < 2 + s.length + u.length := by omega
      have HG := Lib.hid hG
      clear hG
      go_wp2_with fail
      refine (kValid s (by omega) w2).mono ?_; rintro e w3 ⟨rfl, hb2⟩; replace hb := next hb hb2; clear hb2
      go_wp2_with fail
      refine (kValidS s (by omega) w3).mono ?_; rintro e w4 ⟨rfl, hb2⟩; replace hb := next hb hb2; clear hb2
      rcases hT : readS s with _ | T
      · have HT := Lib.hid hT
        clear hT
        simp only [Option.isSome_none]
        go_wp2_with fail
        refine (kValid s (by omega) w4).mono ?_; rw [HT.out]; simp only [Option.isSome_none]; rintro e w5 ⟨rfl, hb2⟩; replace hb := next hb hb2; clear hb2
        go_wp2_with fail
        go_ret
        exact ⟨rfl, hb⟩
      · have HT := Lib.hid hT
        clear hT
        simp only [Option.isSome_some]
        go_wp2_with fail
        refine (kValid s (by omega) w4).mono ?_; rw [HT.out]; simp only [Option.isSome_some]; rintro e w5 ⟨rfl, hb2⟩; replace hb := next hb hb2; clear hb2
        go_wp2_with fail
        refine (kValid u (by omega) w5).mono ?_; rintro e w6 ⟨rfl, hb2⟩; replace hb := next hb hb2; clear hb2
        rcases hU : readS u with _ | U
        · simp only [Option.isSome_none]
          go_wp2_with fail
          go_ret
          exact ⟨rfl, hb⟩
        · have HU := Lib.hid hU
          clear hU
          simp only [Option.isSome_some]
          go_wp2_with fail
          refine (kValid G lG w6).mono ?_; rintro e w7 ⟨rfl, hb2⟩; replace hb := next hb hb2; clear hb2
          rcases hX : readS G with _ | X
          · simp only [Option.isSome_none]
            go_wp2_with fail
            go_ret
            exact ⟨rfl, hb⟩
          · have hX2 := hX
            rw [HG.out] at hX2
            obtain ⟨U', hU', rfl⟩ := let_read (s := s) hX2 HT.out
            rw [HU.out] at hU'
            obtain rfl : U = U' := by simpa using hU'
            have HX := Lib.hid hX
            clear hX hX2 hU'
            have n1 := cAt _ G 97 HX.out name_a
            rw [cnt_a] at n1
            have n2 := cAt _ G 98 HX.out name_b
            rw [cnt_b, Int.natCast_add] at n2
            have n3 := cAt _ s 97 HT.out name_a
            have n4 := cAt _ s 98 HT.out name_b
            have n5 := cAt _ u 98 HU.out name_b
            have z1 := cnt_le T 98
            have z2 := cnt_le U 98
            have z3 := readS_parts HT.out
            have z4 := readS_parts HU.out
            have z5 := size_let 97 T U
            have z6 := bound_let T U
            have N1 := Lib.hid n1
            have N2 := Lib.hid n2
            have N3 := Lib.hid n3
            have N4 := Lib.hid n4
            have N5 := Lib.hid n5
            have Z5 := Lib.hid z5
            have Z6 := Lib.hid z6
            clear n1 n2 n3 n4 n5 z5 z6
            simp only [Option.isSome_some]
            go_wp2_with fail
            refine (kCount G [97] lG (by decide) w7).mono ?_; rw [N1.out]; rintro e w8 ⟨rfl, hb2⟩; replace hb := next hb hb2; clear hb2
            go_wp2_with fail
            refine (kCount G [98] lG (by decide) w8).mono ?_; rw [N2.out]; rintro e w9 ⟨rfl, hb2⟩; replace hb := next hb hb2; clear hb2
            go_wp2_with fail
            refine (kBound G lG w9).mono ?_; rw [HX.out]; simp only [txtP]; rintro e w10 ⟨rfl, hb2⟩; replace hb := next hb hb2; clear hb2
            go_wp2_with fail
            refine (kCount s [97] (by omega) (by decide) w10).mono ?_; rw [N3.out]; rintro e w11 ⟨rfl, hb2⟩; replace hb := next hb hb2; clear hb2
            go_wp2_with fail
            refine (kCount s [98] (by omega) (by decide) w11).mono ?_; rw [N4.out]; rintro e w12 ⟨rfl, hb2⟩; replace hb := next hb hb2; clear hb2
            go_wp2_with fail
            refine (kCount u [98] (by omega) (by decide) w12).mono ?_; rw [N5.out]; rintro e w13 ⟨rfl, hb2⟩; replace hb := next hb hb2; clear hb2
            go_wp2_with fail
            refine (has_c _ 97 w13 (by have := bound_len (.bind 97 T U); omega)).mono ?_; rw [decide_eq_true Z6.out]; rintro e w14 ⟨rfl, rfl⟩
            go_wp2_with fail
            refine (kSize G lG w14).mono ?_; rw [HX.out]; simp only [sizeI, Z5.out, Int.natCast_add]; rintro e w15 ⟨rfl, hb2⟩; replace hb := next hb hb2; clear hb2
            go_wp2_with fail
            refine (kSize s (by omega) w15).mono ?_; rw [HT.out]; simp only [sizeI]; rintro e w16 ⟨rfl, hb2⟩; replace hb := next hb hb2; clear hb2
            go_wp2_with fail
            refine (kSize u (by omega) w16).mono ?_; rw [HU.out]; simp only [sizeI]; rintro e w17 ⟨rfl, hb2⟩; replace hb := next hb hb2; clear hb2
            go_wp2_with fail
            go_ret
            exact ⟨rfl, hb⟩
    · have hm2 : 1048576 < (l2 : Int) := by omega
      go_enter Try.func6, Try.ntmps6
      go_wp2_with fail
      go_ret
      exact ⟨rfl, Below.refl _ _⟩
  · have hl2 : 1048576 < (l : Int) := by omega
    go_enter Try.func6, Try.ntmps6
    go_wp2_with fail
    go_ret
    exact ⟨rfl, Below.refl _ _⟩
end Go.Proofs.Ytnfehnajcadlpaa
