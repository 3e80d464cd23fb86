import Derived.Test.YtnfehnajcadlpaaLaA
import Derived.Test.YtnfehnajcadlpaaMDe
/- Laws over drawn terms: FnBind. -/
namespace Go.Proofs.Ytnfehnajcadlpaa
open Go.RowKit
open Ff
set_option linter.unusedVariables false
attribute [local irreducible] Calls

theorem kFreeS (s : Text) (hs : s.length ≤ 100000) (w : World) : Calls Try.prog 17 #[.string ⟨s.toArray⟩] w fun e w' => e = .returned (txtP sfree (readS s)) ∧ Below w.heap.size w w' := sFreeOf_c s w (by omega)
set_option maxRecDepth 100000 in
set_option maxHeartbeats 4000000 in
theorem law_fnBind (a : Option Addr) (l c : Nat) (w : World) (h : Src w a l c) :
    Calls Try.prog 5 #[.slice a l c] w fun e w' => e = .returned (.bool true) ∧ Below w.heap.size w w' := by
  by_cases hl : l ≤ 1048576
  · have hl2 : (l : Int) ≤ 1048576 := by omega
    go_enter Try.func5, Try.ntmps5
    go_wp2_with fail
    refine (drawCountFree2_c a l c w h).mono ?_; rintro e w1 ⟨s, n, rfl, hs, hn, hb⟩
    have hn2 : n.length ≤ 2 := by rcases hn with hn | hn; omega; rw [hn]; simp
    obtain ⟨F, hF⟩ : ∃ F : Text, F = 92 :: (n ++ s) := ⟨_, rfl⟩
    have e1 : (⟨#[92]⟩ ++ ⟨n.toArray⟩ ++ ⟨s.toArray⟩ : ByteArray) = ⟨F.toArray⟩ := by
      show (⟨([92] : Text).toArray⟩ ++ ⟨n.toArray⟩ ++ ⟨s.toArray⟩ : ByteArray) = _
      rw [str_app2, str_app2, hF]; rfl
    have lF : F.length ≤ 100000 := by rw [hF]; simp; omega
    have q1 : ¬ 9223372036854775807 < 1 + n.length := by omega
    have q2 : ¬ 9223372036854775807 < 1 + n.length + s.length := by omega
    have HN := Lib.hid hn
    have HF := Lib.hid hF
    clear hn hF
    go_wp2_with fail
    refine (kFree s (by omega) w1).mono ?_; rintro e w2 ⟨rfl, hb2⟩; replace hb := next hb hb2; clear hb2
    rcases hT : readS s with _ | T
    · have HT := Lib.hid hT
      clear hT
      simp only [txtP]
      go_wp2_with fail
      refine (kFreeS s (by omega) w2).mono ?_; rw [HT.out]; simp only [txtP]; rintro e w3 ⟨rfl, hb2⟩; replace hb := next hb hb2; clear hb2
      go_wp2_with fail
      obtain ⟨st, B, he⟩ := txtP_shape sfree (readS F)
      refine (kFree F lF w3).mono ?_; rw [he]; rintro e w4 ⟨rfl, hb2⟩; replace hb := next hb hb2; clear hb2
      clear he
      go_wp2_with fail
      go_ret
      exact ⟨rfl, hb⟩
    · have HT := Lib.hid hT
      clear hT
      simp only [txtP]
      go_wp2_with fail
      refine (kFreeS s (by omega) w2).mono ?_; rw [HT.out]; simp only [txtP]; rintro e w3 ⟨rfl, hb2⟩; replace hb := next hb hb2; clear hb2
      go_wp2_with fail
      refine (kFree F lF w3).mono ?_; rintro e w4 ⟨rfl, hb2⟩; replace hb := next hb hb2; clear hb2
      rcases hX : readS F with _ | X
      · simp only [txtP]
        have hcase : ((n.length : Int) == 1) = false ∨ ∃ x : UInt8, n = [x] ∧ (((x.toNat : Int) < 97 ∨ 112 < (x.toNat : Int)) ∨ (97 ≤ (x.toNat : Int) ∧ (x.toNat : Int) ≤ 112 ∧ (120 < (F.length : Int) ∨ ((F.length : Int) ≤ 120 ∧ T.depth = 24)))) := by
          rcases hn : n with _ | ⟨x, _ | ⟨y, m⟩⟩
          · exact .inl rfl
          · refine .inr ⟨x, rfl, ?_⟩
            by_cases hx : isNam x = true
            · right
              have h1 : 97 ≤ x.toNat ∧ x.toNat ≤ 112 := by simpa [isNam] using hx
              refine ⟨by omega, by omega, ?_⟩
              by_cases hlen : F.length ≤ 120
              · right
                refine ⟨by omega, ?_⟩
                refine Classical.byContradiction fun hd => ?_
                have := fn_made hx HT.out hd (by rw [HF.out, hn] at hlen; simp at hlen; omega)
                rw [HF.out, hn] at hX
                simp only [List.cons_append, List.nil_append] at hX
                rw [this] at hX
                simp at hX
              · left; omega
            · left; simp [isNam] at hx; omega
          · exact .inl (by simp only [List.length_cons]; rw [beq_eq_false_iff_ne]; omega)
        clear hX
        rcases hcase with h2 | ⟨x, hx, h2⟩
        · have h3 : ¬ n.length = 1 := by intro h; rw [h] at h2; simp at h2
          have h4 : ((n.length : Int) != 1) = true := by simp only [bne, h2]; rfl
          go_wp2_with fail
          go_ret
          exact ⟨rfl, hb⟩
        · obtain ⟨q, hix⟩ : ∃ h : 0 < (⟨n.toArray⟩ : ByteArray).size, (⟨n.toArray⟩ : ByteArray)[0]'h = x := ⟨by rw [size_data, hx]; simp, index_byte n 0 x (by rw [hx]; rfl) _⟩
          have hnl : n.length = 1 := by rw [hx]; rfl
          clear hx
          rcases h2 with (h2 | h2) | ⟨h2, h3, h4 | ⟨h4, h5⟩⟩
          · go_wp2_with fail
            go_ret
            exact ⟨rfl, hb⟩
          · go_wp2_with fail
            go_ret
            exact ⟨rfl, hb⟩
          · go_wp2_with fail
            go_ret
            exact ⟨rfl, hb⟩
          · have H5 := Lib.hid h5
            clear h5
            go_wp2_with fail
            refine (kDepth s (by omega) w4).mono ?_; rw [HT.out]; simp only [depthI, H5.out]; rintro e w5 ⟨rfl, hb2⟩; replace hb := next hb hb2; clear hb2
            go_wp2_with fail
            go_ret
            exact ⟨rfl, hb⟩
      · have hX2 := hX
        rw [HF.out] at hX2
        obtain ⟨x, hx, hnx, rfl⟩ := fn_read HN.out hX2 HT.out
        have hd1 : (Tm.fn x T).depth = T.depth + 1 := rfl
        have hd2 := readS_nest HT.out
        have hsf : sfree (Tm.fn x T) = lessN (sfree T) [x] := rfl
        have hf := sfree_len T
        have HX := Lib.hid hX
        have HD := Lib.hid hd1
        clear hX hX2 hd1
        simp only [txtP, hsf]
        clear hsf
        go_wp2_with fail
        go_loopw [12, 79] (fun v i wr => ∃ (k : Nat) (out : Text), k ≤ (sfree T).length ∧ i = .int .i64 k ∧ v = .string ⟨out.toArray⟩ ∧ out = ((sfree T).take k).filter (fun c => decide (c ∉ [x])) ∧ out.length ≤ k ∧ wr = w4) (fun _ i _ => (sfree T).length - (intOf i).toNat)
        case atStart => exact ⟨0, [], Nat.zero_le _, rfl, rfl, rfl, Nat.le_refl _, rfl⟩
        case round =>
          obtain ⟨k, out, hk, rfl, rfl, ho, hol, rfl⟩ := hrel
          have HO := Lib.hid ho
          clear ho
          by_cases hlt : k < (sfree T).length
          · obtain ⟨d, hd⟩ : ∃ d, (sfree T)[k]? = some d := ⟨_, List.getElem?_eq_getElem hlt⟩
            have hx1 := extract_one _ k d hd
            have L := less_take (sfree T) [x] k d hd
            have HL := Lib.hid L
            clear hd L
            have q : ¬ 9223372036854775807 < out.length + (min (k + 1) (sfree T).length - k) := by omega
            by_cases hc : d = x
            · have Q5 : (d == x) = true := by simpa using hc
              have HC := Lib.hid hc
              clear hc
              go_wp2_with fail
              refine ⟨⟨k + 1, out, by omega, by go_num, rfl, ?_, by omega, trivial⟩, by simp [intOf]; omega⟩
              rw [HL.out, if_pos (by rw [HC.out]; simp), HO.out, List.append_nil]
            · have Q5 : (d == x) = false := by simpa using hc
              have HC := Lib.hid hc
              clear hc
              go_wp2_with fail
              refine ⟨⟨k + 1, out ++ [d], by omega, by go_num, by rw [str_app], ?_, by simp; omega, trivial⟩, by simp [intOf]; omega⟩
              rw [HL.out, if_neg (by simpa using HC.out), HO.out]
          · obtain rfl : k = (sfree T).length := by omega
            have hk2 : (sfree T).take (sfree T).length = sfree T := List.take_of_length_le (Nat.le_refl _)
            rw [hk2] at HO
            have ho : out = lessN (sfree T) [x] := HO.out
            subst ho
            clear hk2
            go_wp2_with fail
            refine (kDepth F lF wr).mono ?_; rw [HX.out]; simp only [depthI, HD.out, Int.natCast_add]; rintro e w5 ⟨rfl, hb2⟩; replace hb := next hb hb2; clear hb2
            go_wp2_with fail
            refine (kDepth s (by omega) w5).mono ?_; rw [HT.out]; simp only [depthI]; rintro e w6 ⟨rfl, hb2⟩; replace hb := next hb hb2; clear hb2
            go_wp2_with fail
            refine (kValue F lF w6).mono ?_; rw [HX.out]; simp only [Option.any_some, Tm.isVal]; rintro e w7 ⟨rfl, hb2⟩; replace hb := next hb hb2; clear hb2
            go_wp2_with fail
            go_ret
            exact ⟨rfl, hb⟩
  · have hl2 : 1048576 < (l : Int) := by omega
    go_enter Try.func5, Try.ntmps5
    go_wp2_with fail
    go_ret
    exact ⟨rfl, Below.refl _ _⟩
end Go.Proofs.Ytnfehnajcadlpaa
