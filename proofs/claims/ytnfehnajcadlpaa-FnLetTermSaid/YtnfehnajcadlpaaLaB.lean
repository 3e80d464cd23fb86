import Derived.Test.YtnfehnajcadlpaaLaA
/- Laws over drawn terms: laws.ffHas; FnCountFree. -/
namespace Go.Proofs.Ytnfehnajcadlpaa
open Go.RowKit
open Ff
set_option linter.unusedVariables false

attribute [local irreducible] Calls
theorem kCountS (s n : Text) (hs : s.length ≤ 100000) (hn : n.length ≤ 100000) (w : World) : Calls Try.prog 9 #[.string ⟨s.toArray⟩, .string ⟨n.toArray⟩] w fun e w' => e = .returned (.int .i64 (cntI (readS s) (nameOf n))) ∧ Below w.heap.size w w' := sCountFree_c s n w (by omega) (by omega)
theorem name_of {n : Text} {c : UInt8} (h : n = [c]) (hc : isNam c = true) : nameOf n = some c := by subst h; simp [nameOf, hc]
/-- In a function of a name that name is not free; in a let of it, only what it is. -/
theorem under_fn {F n s : Text} {c : UInt8} {T : Tm} (hF : F = 92 :: (n ++ s)) (hn : n = [c]) (hc : isNam c = true) (hT : readS s = some T) : ∃ v : Int, cntI (readS F) (nameOf n) = v ∧ v ≤ 0 := by
  refine ⟨_, rfl, ?_⟩
  rw [name_of hn hc]
  rcases h : readS F with _ | X
  · simp [cntI]
  · subst hF
    obtain ⟨c', h1, h2, rfl⟩ := fn_read (.inl (by rw [hn]; simp)) h hT
    rw [hn] at h1
    simp only [List.cons.injEq, and_true] at h1
    subst h1
    simp [cntI, cntF]
theorem under_let {F n s : Text} {c : UInt8} {T : Tm} (hF : F = 61 :: (n ++ (s ++ [49]))) (hn : n = [c]) (hc : isNam c = true) (hT : readS s = some T) : ∃ v : Int, cntI (readS F) (nameOf n) = v ∧ (v < 0 ∨ v = (cntF T c : Int)) := by
  refine ⟨_, rfl, ?_⟩
  rw [name_of hn hc]
  rcases h : readS F with _ | X
  · simp [cntI]
  · subst hF
    subst hn
    obtain ⟨U, hU, rfl⟩ := let_read (s := s) h hT
    rw [read_one] at hU
    obtain rfl : Tm.num 1 = U := by simpa using hU
    right
    simp [cntI, cntF]

set_option maxRecDepth 100000 in
set_option maxHeartbeats 4000000 in
theorem law_fnCountFree (a : Option Addr) (l c : Nat) (w : World) (h : Src w a l c) :
    Calls Try.prog 3 #[.slice a l c] w fun e w' => e = .returned (.bool true) ∧ Below w.heap.size w w' := by
  by_cases hl : l ≤ 1048576
  · have hl2 : (l : Int) ≤ 1048576 := by omega
    go_enter Try.func3, Try.ntmps3
    go_wp2_with fail
    refine (drawCountFree_c a l c w h).mono ?_; rintro e w1 ⟨s, n, rfl, hs, hn, hb⟩
    go_wp2_with fail
    refine (kCount s n (by omega) (by omega) w1).mono ?_; rintro e w2 ⟨rfl, hb2⟩; replace hb := next hb hb2; clear hb2
    go_wp2_with fail
    refine (kCountS s n (by omega) (by omega) w2).mono ?_; rintro e w3 ⟨rfl, hb2⟩; replace hb := next hb hb2; clear hb2
    by_cases hok : ∃ T x, readS s = some T ∧ nameOf n = some x
    · obtain ⟨T, x, hT, hx⟩ := hok
      obtain ⟨hn1, hc⟩ := name_some hx
      obtain ⟨F, hF⟩ : ∃ F : Text, F = 92 :: (n ++ s) := ⟨_, rfl⟩
      obtain ⟨G, hG⟩ : ∃ G : Text, G = 61 :: (n ++ (s ++ [49])) := ⟨_, rfl⟩
      obtain ⟨vb, hvb, hvb2⟩ := under_fn hF hn1 hc hT
      obtain ⟨vl, hvl, hvl2⟩ := under_let hG hn1 hc hT
      have e1 : (⟨#[92]⟩ ++ ⟨n.toArray⟩ ++ ⟨s.toArray⟩ : ByteArray) = ⟨F.toArray⟩ := by
        show (⟨([92] : Text).toArray⟩ ++ ⟨n.toArray⟩ ++ ⟨s.toArray⟩ : ByteArray) = _
        rw [str_app2, str_app2, hF]; rfl
      have e2 : (⟨#[61]⟩ ++ ⟨n.toArray⟩ ++ ⟨s.toArray⟩ ++ ⟨#[49]⟩ : ByteArray) = ⟨G.toArray⟩ := by
        show (⟨([61] : Text).toArray⟩ ++ ⟨n.toArray⟩ ++ ⟨s.toArray⟩ ++ ⟨([49] : Text).toArray⟩ : ByteArray) = _
        rw [str_app2, str_app2, str_app2, hG]; simp
      have lF : F.length ≤ 100000 := by rw [hF]; simp; omega
      have lG : G.length ≤ 100000 := by rw [hG]; simp; omega
      have hm := mem_free (readS_good hT) x
      have hcl := cnt_le T x
      have hcp := readS_parts hT
      have hcn : cntI (readS s) (nameOf n) = (cntF T x : Int) := by rw [hT, hx]; rfl
      rw [hcn]
      generalize hk : cntF T x = m at hvl2 hm hcl
      have hH : ∀ w', Calls Try.prog 12 #[.string ⟨(sfree T).toArray⟩, .string ⟨n.toArray⟩] w' fun e w'' => e = .returned (.bool (decide (x ∈ sfree T))) ∧ w'' = w' := fun w' => by rw [hn1]; exact has_c _ _ w' (by have := sfree_len T; omega)
      have hf := sfree_len T
      have HT := Lib.hid hT
      have HB := Lib.hid hvb
      have HL := Lib.hid hvl
      clear hT hx hn1 hF hG hvb hvl hcn hk
      have q1 : ¬ 9223372036854775807 < 1 + n.length := by omega
      have q2 : ¬ 9223372036854775807 < 1 + n.length + s.length := by omega
      have q3 : ¬ 9223372036854775807 < 1 + n.length + s.length + 1 := by omega
      have hB : ∃ B : Bool, decide (x ∈ sfree T) = B ∧ ((B = true ∧ 0 < (m : Int)) ∨ (B = false ∧ (m : Int) = 0)) := by
        by_cases h0 : x ∈ sfree T
        · exact ⟨true, decide_eq_true h0, .inl ⟨rfl, by have := hm.1 h0; omega⟩⟩
        · exact ⟨false, decide_eq_false h0, .inr ⟨rfl, by have : ¬ m ≠ 0 := fun h => h0 (hm.2 h); omega⟩⟩
      obtain ⟨B, hB1, hB2⟩ := hB
      simp only [hB1] at hH
      clear hB1 hm
      have hm0 : ¬ ((m : Int) < 0) := by omega
      go_wp2_with fail
      refine (kFree s (by omega) w3).mono ?_; rw [HT.out]; rintro e w4 ⟨rfl, hb2⟩; replace hb := next hb hb2; clear hb2
      simp only [txtP]
      go_wp2_with fail
      refine (kCount F n lF (by omega) w4).mono ?_; rw [HB.out]; rintro e w5 ⟨rfl, hb2⟩; replace hb := next hb hb2; clear hb2
      go_wp2_with fail
      refine (kCount G n lG (by omega) w5).mono ?_; rw [HL.out]; rintro e w6 ⟨rfl, hb2⟩; replace hb := next hb hb2; clear hb2
      go_wp2_with fail
      refine (hH w6).mono ?_; rintro e w7 ⟨rfl, rfl⟩
      clear HT HB HL e1 e2
      rcases hB2 with ⟨rfl, hp⟩ | ⟨rfl, hp⟩ <;> rcases hvl2 with hv | rfl
      all_goals go_wp2_with fail
      all_goals go_ret
      all_goals exact ⟨rfl, hb⟩
    · have hcn : cntI (readS s) (nameOf n) = -1 := by
        rcases h1 : readS s with _ | T
        · exact cntI_none _
        · rcases h2 : nameOf n with _ | x
          · exact cntI_none2 _
          · exact absurd ⟨T, x, h1, h2⟩ hok
      have hcase : readS s = none ∨ (∃ T, readS s = some T) ∧ (((n.length : Int) == 1) = false ∨ ∃ x : UInt8, n = [x] ∧ ((x.toNat : Int) < 97 ∨ 112 < (x.toNat : Int))) := by
        rcases h1 : readS s with _ | T
        · exact .inl rfl
        · refine .inr ⟨⟨T, rfl⟩, ?_⟩
          match n, hok with
          | [], _ => exact .inl rfl
          | [x], hok =>
            refine .inr ⟨x, rfl, ?_⟩
            by_cases hx : isNam x = true
            · exact absurd ⟨T, x, h1, by simp [nameOf, hx]⟩ hok
            · simp [isNam] at hx; omega
          | x :: y :: n, _ => exact .inl (by simp only [List.length_cons]; rw [beq_eq_false_iff_ne]; omega)
      rw [hcn]
      have HN := Lib.hid hcn
      clear hok hcn
      rcases hcase with h1 | ⟨⟨T, h1⟩, h2 | ⟨x, hx, h2⟩⟩
      · have H1 := Lib.hid h1
        clear h1
        go_wp2_with fail
        refine (kCountS s n (by omega) (by omega) w3).mono ?_; rw [HN.out]; rintro e w4 ⟨rfl, hb2⟩; replace hb := next hb hb2; clear hb2
        go_wp2_with fail
        refine (kValid s (by omega) w4).mono ?_; rw [H1.out]; simp only [Option.isSome_none]; rintro e w5 ⟨rfl, hb2⟩; replace hb := next hb hb2; clear hb2
        go_wp2_with fail
        go_ret
        exact ⟨rfl, hb⟩
      · have h3 : ¬ n.length = 1 := by intro h; rw [h] at h2; simp at h2
        have h4 : ((n.length : Int) != 1) = true := by simp only [bne, h2]; rfl
        have H1 := Lib.hid h1
        clear h1
        go_wp2_with fail
        refine (kCountS s n (by omega) (by omega) w3).mono ?_; rw [HN.out]; rintro e w4 ⟨rfl, hb2⟩; replace hb := next hb hb2; clear hb2
        go_wp2_with fail
        refine (kValid s (by omega) w4).mono ?_; rw [H1.out]; simp only [Option.isSome_some]; rintro e w5 ⟨rfl, hb2⟩; replace hb := next hb hb2; clear hb2
        go_wp2_with fail
        go_ret
        exact ⟨rfl, hb⟩
      · obtain ⟨q, hix⟩ : ∃ h : 0 < (⟨n.toArray⟩ : ByteArray).size, (⟨n.toArray⟩ : ByteArray)[0]'h = x := ⟨by rw [size_data, hx]; simp, index_byte n 0 x (by rw [hx]; rfl) _⟩
        have hnl : n.length = 1 := by rw [hx]; rfl
        have H1 := Lib.hid h1
        clear h1 hx
        rcases h2 with h2 | h2
        all_goals
          go_wp2_with fail
          refine (kCountS s n (by omega) (by omega) w3).mono ?_; rw [HN.out]; rintro e w4 ⟨rfl, hb2⟩; replace hb := next hb hb2; clear hb2
          go_wp2_with fail
          refine (kValid s (by omega) w4).mono ?_; rw [H1.out]; simp only [Option.isSome_some]; rintro e w5 ⟨rfl, hb2⟩; replace hb := next hb hb2; clear hb2
          go_wp2_with fail
          go_ret
          exact ⟨rfl, hb⟩
  · have hl2 : 1048576 < (l : Int) := by omega
    go_enter Try.func3, Try.ntmps3
    go_wp2_with fail
    go_ret
    exact ⟨rfl, Below.refl _ _⟩
end Go.Proofs.Ytnfehnajcadlpaa
