import Derived.Test.YtipcocjmlpfajaaGreatLaP
import Derived.Test.YtipcocjmlpfajaaGreatPuK
/- FnPut: what stands free, and how many parts there are, where a term has been put. -/
namespace Go.Proofs.YtipcocjmlpfajaaGreat
open Go.RowKit
open Ff
set_option linter.unusedVariables false
attribute [local irreducible] Calls

set_option maxRecDepth 100000 in
set_option maxHeartbeats 8000000 in
theorem law_fnPut (a : Option Addr) (l c : Nat) (w : World) (h : Src w a l c) :
    Calls Tryz.prog 3 #[.slice a l c] w fun e w' => e = .returned (.bool true) ∧ Below w.heap.size w w' := by
  by_cases hl : l ≤ 1048576
  · have hl2 : (l : Int) ≤ 1048576 := by omega
    go_enter Tryz.func3, Tryz.ntmps3
    go_wp2_with fail
    refine (drawPut_c a l c w h).mono ?_; rintro e w1 ⟨s, n, u, rfl, hs, hn, hu, hb⟩
    have C1 := fun W => iPut_c s n u W (by omega) (by omega) (by omega)
    have C2 := fun W => sPut_c s n u W (by omega) (by omega) (by omega)
    rcases hO : putO s n u with _ | R
    · rw [hO] at C1 C2
      simp only [textO, Option.isSome_none] at C1 C2
      clear hO
      go_wp2_with fail
      refine (C1 _).mono ?_; rintro e w2 ⟨rfl, hb2⟩; replace hb := next hb hb2; clear hb2 C1
      go_wp2_with fail
      refine (C2 _).mono ?_; rintro e w3 ⟨rfl, hb2⟩; replace hb := next hb hb2; clear hb2 C2
      go_wp2_with fail
      go_ret
      exact ⟨rfl, hb⟩
    · rw [hO] at C1 C2
      simp only [textO, Option.isSome_some] at C1 C2
      obtain ⟨T, U, x, F⟩ := put_facts hO
      obtain ⟨hT, hU, hn1, hnm, hR, hcnt, hparts, hsame⟩ := F
      have gT := readS_good hT
      have gU := readS_good hU
      have gR := readS_good hR
      have pT := readS_parts hT
      have pU := readS_parts hU
      have pR := readS_parts hR
      have lR : (textN R).length ≤ 120 := (readS_some hR).choose_spec.2.2
      have hcl := cnt_le T x
      have fT := sfree_len T
      have fU := sfree_len U
      have fR := sfree_len R
      have hpp := parts_pos U
      have kF1 := fun W => kFree s (by omega) W
      have kF2 := fun W => kFree u (by omega) W
      have kF3 := fun W => kFree (textN R) (by omega) W
      have kC := fun W => kCount s n (by omega) (by omega) W
      have kV := fun W => kValid (textN R) (by omega) W
      have kS1 := fun W => kSize (textN R) (by omega) W
      have kS2 := fun W => kSize s (by omega) W
      have kS3 := fun W => kSize u (by omega) W
      rw [hT] at kF1 kS2
      rw [hU] at kF2 kS3
      rw [hR] at kF3 kV kS1
      rw [hT, hnm] at kC
      simp only [txtP, sizeI, cntI, Option.isSome_some] at kF1 kF2 kF3 kC kV kS1 kS2 kS3
      have hst : textN T = s := readS_text hT
      have hmem : ∀ y ∈ sfree R, (y ∈ sfree T ∧ y ≠ x) ∨ (0 < cntF T x ∧ y ∈ sfree U) := fun y hy => by
        have h1 := (mem_free gR y).1 hy
        rw [hcnt y] at h1
        by_cases h2 : 0 < cntF T x ∧ 0 < cntF U y
        · exact .inr ⟨h2.1, (mem_free gU y).2 (by omega)⟩
        · have h3 : cntF T x * cntF U y = 0 := by
            rcases Nat.eq_zero_or_pos (cntF T x) with h | h
            · rw [h, Nat.zero_mul]
            · rcases Nat.eq_zero_or_pos (cntF U y) with h' | h'
              · rw [h', Nat.mul_zero]
              · exact absurd ⟨h, h'⟩ h2
          rw [h3, Nat.add_zero] at h1
          by_cases hyx : y = x
          · rw [if_pos hyx] at h1; omega
          · rw [if_neg hyx] at h1
            exact .inl ⟨(mem_free gT y).2 h1, hyx⟩
      have hall : 0 < cntF T x → ∀ y ∈ sfree U, y ∈ sfree R := fun h0 y hy => (mem_free gR y).2 (by
        rw [hcnt y]
        have hp := (mem_free gU y).1 hy
        have : 0 < cntF T x * cntF U y := Nat.mul_pos h0 (by omega)
        omega)
      have hsz : (parts R).length = (parts T).length + cntF T x * ((parts U).length - 1) := by
        obtain ⟨q, hq⟩ : ∃ q, (parts U).length = q + 1 := ⟨(parts U).length - 1, by omega⟩
        rw [hq] at hparts ⊢
        rw [Nat.mul_add, Nat.mul_one] at hparts
        rw [Nat.add_sub_cancel]
        omega
      have hz0 : cntF T x * ((parts U).length - 1) ≤ 120 * 120 := Nat.mul_le_mul (by omega) (by omega)
      have hsame' : cntF T x = 0 → textN R = s := fun h0 => by rw [hsame h0, hst]
      clear hcnt hparts hsame hst hT hU hR hO hnm gT gU gR
      generalize sfree T = fa at *
      generalize sfree U = fb at *
      generalize sfree R = fc at *
      generalize hm : cntF T x = m at *
      obtain ⟨Z, hZ⟩ : ∃ Z, Z = m * ((parts U).length - 1) := ⟨_, rfl⟩
      rw [← hZ] at hsz hz0
      have hZ2 : (m : Int) * (((parts U).length : Int) - 1) = (Z : Int) := by
        rw [hZ, show (((parts U).length : Int) - 1) = (((parts U).length - 1 : Nat) : Int) by omega]
        exact (Int.natCast_mul _ _).symm
      clear hZ hm
      generalize (parts R).length = rr at *
      generalize (parts T).length = tt at *
      generalize (parts U).length = uu at *
      generalize textN R = S at *
      have HM := Lib.hid hmem
      have HA := Lib.hid hall
      have HZ := Lib.hid hsz
      have HS := Lib.hid hsame'
      clear hmem hall hsz hsame'
      subst hn1
      go_wp2_with fail
      refine (C1 _).mono ?_; rintro e w2 ⟨rfl, hb2⟩; replace hb := next hb hb2; clear hb2 C1
      go_wp2_with fail
      refine (C2 _).mono ?_; rintro e w3 ⟨rfl, hb2⟩; replace hb := next hb hb2; clear hb2 C2
      go_wp2_with fail
      refine (kF1 _).mono ?_; rintro e w4 ⟨rfl, hb2⟩; replace hb := next hb hb2; clear hb2 kF1
      go_wp2_with fail
      refine (kF2 _).mono ?_; rintro e w5 ⟨rfl, hb2⟩; replace hb := next hb hb2; clear hb2 kF2
      go_wp2_with fail
      refine (kF3 _).mono ?_; rintro e w6 ⟨rfl, hb2⟩; replace hb := next hb hb2; clear hb2 kF3
      go_wp2_with fail
      refine (kC _).mono ?_; rintro e w7 ⟨rfl, hb2⟩; replace hb := next hb hb2; clear hb2 kC
      go_wp2_with fail
      go_loopw [85] (fun ix wr => ∃ (k : Nat), k ≤ fc.length ∧ ix = .int .i64 k ∧ wr = w7) (fun ix _ => fc.length - (intOf ix).toNat)
      case atStart => exact ⟨0, Nat.zero_le _, rfl, rfl⟩
      case round =>
        obtain ⟨k, hkl, rfl, rfl⟩ := hrel
        by_cases hlt : k < fc.length
        · obtain ⟨y, hy⟩ : ∃ y, fc[k]? = some y := ⟨_, List.getElem?_eq_getElem hlt⟩
          have hx1 := extract_one fc k y hy
          have HY := Lib.hid (HM.out y (List.mem_of_getElem? hy))
          clear hy
          have K1 := has_c fa y wr (by omega)
          have K2 := has_c fb y wr (by omega)
          by_cases h1 : y ∈ fa ∧ y ≠ x
          · rw [decide_eq_true h1.1] at K1
            have hq := byte_ne h1.2
            clear h1 K2
            go_wp2_with (go_at_call 10; refine K1.mono ?_; clear K1; rintro e w8 ⟨rfl, rfl⟩)
            exact ⟨⟨k + 1, by omega, by go_num, trivial⟩, by simp [intOf]; omega⟩
          · obtain ⟨hm0, hyU⟩ := HY.out.resolve_left h1
            have hmi : 0 < (m : Int) := by omega
            rw [decide_eq_true hyU] at K2
            clear hyU
            by_cases h2 : y ∈ fa
            · have h3 : y = x := Classical.byContradiction fun h => h1 ⟨h2, h⟩
              rw [decide_eq_true h2] at K1
              subst h3
              clear h1 h2
              go_wp2_with (go_at_call 10; refine K1.mono ?_; clear K1; rintro e w8 ⟨rfl, hw8⟩)
              subst hw8
              go_wp2_with (go_at_call 10; refine K2.mono ?_; clear K2; rintro e w9 ⟨rfl, rfl⟩)
              exact ⟨⟨k + 1, by omega, by go_num, trivial⟩, by simp [intOf]; omega⟩
            · rw [decide_eq_false h2] at K1
              clear h1 h2
              go_wp2_with (go_at_call 10; refine K1.mono ?_; clear K1; rintro e w8 ⟨rfl, hw8⟩)
              subst hw8
              go_wp2_with (go_at_call 10; refine K2.mono ?_; clear K2; rintro e w9 ⟨rfl, rfl⟩)
              exact ⟨⟨k + 1, by omega, by go_num, trivial⟩, by simp [intOf]; omega⟩
        · obtain rfl : k = fc.length := by omega
          have hw1 : IntKind.i64.wrap ((uu : Int) - 1) = (uu : Int) - 1 := by rw [IntKind.wrap_i64]; omega
          have hw2 : IntKind.i64.wrap (Z : Int) = (Z : Int) := by rw [IntKind.wrap_i64]; omega
          have hw3 : IntKind.i64.wrap ((tt : Int) + (Z : Int)) = (tt : Int) + (Z : Int) := by rw [IntKind.wrap_i64]; omega
          have hEq : ((rr : Int) == (tt : Int) + (Z : Int)) = true := by have := HZ.out; simp; omega
          by_cases h0 : m = 0
          · have hmi : ((m : Int) == 0) = true := by simp [h0]
            have hmi2 : ¬ (0 < (m : Int)) := by omega
            have hSs := HS.out h0
            subst hSs
            clear h0
            go_wp2_with fail
            refine (kV _).mono ?_; rintro e v1 ⟨rfl, hb2⟩; replace hb := next hb hb2; clear hb2 kV
            go_wp2_with fail
            refine (kS1 _).mono ?_; rintro e v2 ⟨rfl, hb2⟩; replace hb := next hb hb2; clear hb2 kS1
            go_wp2_with fail
            refine (kS2 _).mono ?_; rintro e v3 ⟨rfl, hb2⟩; replace hb := next hb hb2; clear hb2 kS2
            go_wp2_with fail
            refine (kS3 _).mono ?_; rintro e v4 ⟨rfl, hb2⟩; replace hb := next hb hb2; clear hb2 kS3
            go_wp2_with fail
            go_ret
            exact ⟨rfl, hb⟩
          · have hmi : ((m : Int) == 0) = false := by rw [beq_eq_false_iff_ne]; omega
            have hmi2 : 0 < (m : Int) := by omega
            have KW := allIn_c fb fc wr (by omega) (by omega) (HA.out (by omega))
            clear h0
            go_wp2_with (go_at_call 11; refine KW.mono ?_; clear KW; rintro e w8 ⟨rfl, hw8⟩; subst hw8)
            refine (kV _).mono ?_; rintro e v1 ⟨rfl, hb2⟩; replace hb := next hb hb2; clear hb2 kV
            go_wp2_with fail
            refine (kS1 _).mono ?_; rintro e v2 ⟨rfl, hb2⟩; replace hb := next hb hb2; clear hb2 kS1
            go_wp2_with fail
            refine (kS2 _).mono ?_; rintro e v3 ⟨rfl, hb2⟩; replace hb := next hb hb2; clear hb2 kS2
            go_wp2_with fail
            refine (kS3 _).mono ?_; rintro e v4 ⟨rfl, hb2⟩; replace hb := next hb hb2; clear hb2 kS3
            go_wp2_with fail
            go_ret
            exact ⟨rfl, hb⟩
  · have hl2 : ¬ (l : Int) ≤ 1048576 := by omega
    go_enter Tryz.func3, Tryz.ntmps3
    go_wp2_with fail
    go_ret
    exact ⟨rfl, Below.refl _ _⟩
end Go.Proofs.YtipcocjmlpfajaaGreat
