import Derived.Test.YtipcocjmlpfajaaGreatLaP
import Derived.Test.YtipcocjmlpfajaaGreatPtD
import Derived.Test.YtipcocjmlpfajaaGreatPuK
/- FnPutSelf: a name put for itself; closed terms put in any order. -/
namespace Go.Proofs.YtipcocjmlpfajaaGreat
open Go.RowKit
open Ff
set_option linter.unusedVariables false
attribute [local irreducible] Calls

theorem textO_len (s n u : Text) : (textO (putO s n u)).length ≤ 120 := by
  rcases h : putO s n u with _ | R
  · exact Nat.zero_le _
  · obtain ⟨T, U, x, F⟩ := put_facts h
    exact (readS_some F.rr).choose_spec.2.2
theorem name_read {n : Text} {x : UInt8} (h : nameOf n = some x) : readS n = some (.var x) := by
  obtain ⟨rfl, hx⟩ := name_some h
  exact text_readS (t := .var x) hx (by simp [Tm.depth]) (by simp [textN])
theorem put_self {s n : Text} {T : Tm} {x : UInt8} (ht : readS s = some T) (hn : nameOf n = some x) : putO s n n = some T := by
  have hl : (textN T).length ≤ 120 := by rw [readS_text ht]; exact (readS_some ht).choose_spec.2.2
  have hf : fitsT T = true := by
    unfold fitsT
    simp only [Bool.and_eq_true, decide_eq_true_eq]
    exact ⟨hl, (read_facts ht).2.1⟩
  unfold putO
  rw [ht, name_read hn, hn]
  simp only [Option.bind_some, subS_self, hf, and_self, if_true]
theorem put_none {s n : Text} (h : putO s n n = none) : readS s = none ∨ nameOf n = none := by
  rcases ht : readS s with _ | T
  · exact .inl rfl
  rcases hn : nameOf n with _ | x
  · exact .inr rfl
  rw [put_self ht hn] at h
  cases h
theorem put_text {s n : Text} {R : Tm} (h : putO s n n = some R) : textN R = s := by
  obtain ⟨T, U, x, F⟩ := put_facts h
  rw [put_self F.rt F.nam] at h
  injection h with h
  subst h
  exact readS_text F.rt
theorem put_closed {s n u : Text} {R U : Tm} (hu : readS u = some U) (hz : sfree U = []) (h : putO s n u = some R) :
    ∃ T x, readS s = some T ∧ n = [x] ∧ readS (textN R) = some R ∧ R = psub x U T := by
  obtain ⟨T, U', x, F⟩ := put_facts h
  have hU := F.ru
  rw [hu] at hU
  injection hU with hU
  subst hU
  refine ⟨T, x, F.rt, F.one, F.rr, ?_⟩
  unfold putO at h
  rw [F.rt, F.ru, F.nam] at h
  simp only [Option.bind_some, subS_psub hz _ T (Nat.le_refl _)] at h
  split at h
  · injection h with h; exact h.symm
  · cases h
theorem read_idA : readS [92, 97, 97] = some (.fn 97 (.var 97)) := text_readS (t := .fn 97 (.var 97)) (by simp [Tm.good]; decide) (by simp [Tm.depth]) (by decide)
theorem read_bindB : readS [61, 98, 53, 98] = some (.bind 98 (.num 5) (.var 98)) := text_readS (t := .bind 98 (.num 5) (.var 98)) (by simp [Tm.good]; decide) (by simp [Tm.depth]) (by decide)
theorem put_order {u o n : Text} (h : n ≠ o)
    (a : (putO u o [92, 97, 97]).isSome = true) (b : (putO (textO (putO u o [92, 97, 97])) n [61, 98, 53, 98]).isSome = true)
    (c : (putO u n [61, 98, 53, 98]).isSome = true) (d : (putO (textO (putO u n [61, 98, 53, 98])) o [92, 97, 97]).isSome = true) :
    textO (putO (textO (putO u o [92, 97, 97])) n [61, 98, 53, 98]) = textO (putO (textO (putO u n [61, 98, 53, 98])) o [92, 97, 97]) := by
  rcases h1 : putO u o [92, 97, 97] with _ | R1
  · rw [h1] at a; cases a
  rcases h3 : putO u n [61, 98, 53, 98] with _ | R3
  · rw [h3] at c; cases c
  rw [h1] at b
  rw [h3] at d
  simp only [textO] at b d ⊢
  rcases h2 : putO (textN R1) n [61, 98, 53, 98] with _ | R2
  · rw [h2] at b; cases b
  rcases h4 : putO (textN R3) o [92, 97, 97] with _ | R4
  · rw [h4] at d; cases d
  obtain ⟨T1, x1, t1, o1, r1, e1⟩ := put_closed read_idA (by decide) h1
  obtain ⟨T3, x3, t3, o3, r3, e3⟩ := put_closed read_bindB (by decide) h3
  obtain ⟨T2, x2, t2, o2, r2, e2⟩ := put_closed read_bindB (by decide) h2
  obtain ⟨T4, x4, t4, o4, r4, e4⟩ := put_closed read_idA (by decide) h4
  rw [t1] at t3; injection t3 with t3
  rw [r1] at t2; injection t2 with t2
  rw [r3] at t4; injection t4 with t4
  rw [o1] at o4; injection o4 with o4
  rw [o3] at o2; injection o2 with o2
  subst t3 t2 t4 o4 o2
  have hx : x1 ≠ x3 := fun e => h (by rw [o1, o3, e])
  show textN R2 = textN R4
  rw [e2, e4, e1, e3]
  rw [psub_comm (fun z => by simp [cntF]) (fun z => by simp [cntF]) hx]
set_option maxRecDepth 100000 in
set_option maxHeartbeats 8000000 in
theorem law_fnPutSelf (a : Option Addr) (l c : Nat) (a2 : Option Addr) (l2 c2 : Nat) (w : World) (h : Src w a l c) (h2 : Src w a2 l2 c2) :
    Calls Tryz.prog 4 #[.slice a l c, .slice a2 l2 c2] w fun e w' => e = .returned (.bool true) ∧ Below w.heap.size w w' := by
  by_cases hl : l ≤ 1048576
  · have hl2 : (l : Int) ≤ 1048576 := by omega
    by_cases hm : l2 ≤ 1048576
    · have hm2 : (l2 : Int) ≤ 1048576 := by omega
      go_enter Tryz.func4, Tryz.ntmps4
      go_wp2_with fail
      refine (drawPut_c a l c w h).mono ?_; rintro e w1 ⟨s, n, u0, rfl, hs, hn, hu0, hb⟩
      clear hu0
      have C1 := fun W => iPut_c s n n W (by omega) (by omega) (by omega)
      have C2 := fun W => sPut_c s n n W (by omega) (by omega) (by omega)
      rcases hO : putO s n n with _ | R
      · have hv := put_none hO
        rw [hO] at C1 C2
        simp only [textO, Option.isSome_none] at C1 C2
        clear hO
        have kV := fun W => kValid s (by omega) W
        go_wp2_with fail
        refine (C1 _).mono ?_; rintro e w2 ⟨rfl, hb2⟩; replace hb := next hb hb2; clear hb2 C1
        go_wp2_with fail
        refine (C2 _).mono ?_; rintro e w3 ⟨rfl, hb2⟩; replace hb := next hb hb2; clear hb2 C2
        rcases hT : readS s with _ | T
        · rw [hT] at kV
          simp only [Option.isSome_none] at kV
          clear hv hT
          go_wp2_with fail
          refine (kV _).mono ?_; rintro e w4 ⟨rfl, hb2⟩; replace hb := next hb hb2; clear hb2 kV
          go_wp2_with fail
          go_ret
          exact ⟨rfl, hb⟩
        · rw [hT] at kV hv
          simp only [Option.isSome_some] at kV
          have hn0 : nameOf n = none := hv.resolve_left (by simp)
          clear hv hT
          go_wp2_with fail
          refine (kV _).mono ?_; rintro e w4 ⟨rfl, hb2⟩; replace hb := next hb hb2; clear hb2 kV
          by_cases h1 : n.length = 1
          · obtain ⟨x, rfl⟩ := List.length_eq_one_iff.1 h1
            have hx : isNam x = false := by
              have := name_one x
              rw [hn0] at this
              simpa using this.symm
            clear hn0 h1
            have hbb : (decide ((x.toNat : Int) < 97) || decide ((112 : Int) < (x.toNat : Int))) = true := by
              simp only [isNam, Bool.and_eq_false_iff, decide_eq_false_iff_not] at hx
              simp only [Bool.or_eq_true, decide_eq_true_eq]
              omega
            clear hx
            go_wp2_with fail
            all_goals go_ret
            all_goals first | exact ⟨rfl, hb⟩ | exact ⟨congrArg (fun b => Ending.returned (Value.bool b)) hbb, hb⟩
          · have h1' : ¬ ((n.length : Int) = 1) := by omega
            clear h1 hn0
            go_wp2_with fail
            go_ret
            exact ⟨rfl, hb⟩
      · have hR := put_text hO
        rw [hO] at C1 C2
        simp only [textO, Option.isSome_some, hR] at C1 C2
        clear hO hR
        go_wp2_with fail
        refine (C1 _).mono ?_; rintro e w2 ⟨rfl, hb2⟩; replace hb := next hb hb2; clear hb2 C1
        go_wp2_with fail
        refine (C2 _).mono ?_; rintro e w3 ⟨rfl, hb2⟩; replace hb := next hb hb2; clear hb2 C2
        go_wp2_with fail
        refine (drawPut_c a2 l2 c2 _ (h2.keep hb)).mono ?_; rintro e w4 ⟨u, o, u1, rfl, hu, ho, hu1, hb2⟩; replace hb := next hb hb2; clear hb2 hu1
        have D1 := fun W => iPut_c u o [92, 97, 97] W (by omega) (by omega) (by simp)
        have D2 := fun W => iPut_c (textO (putO u o [92, 97, 97])) n [61, 98, 53, 98] W (by have := textO_len u o [92, 97, 97]; omega) (by omega) (by simp)
        have D3 := fun W => iPut_c u n [61, 98, 53, 98] W (by omega) (by omega) (by simp)
        have D4 := fun W => iPut_c (textO (putO u n [61, 98, 53, 98])) o [92, 97, 97] W (by have := textO_len u n [61, 98, 53, 98]; omega) (by omega) (by simp)
        have HP : n ≠ o → _ := fun h => put_order (u := u) (o := o) (n := n) h
        generalize textO (putO (textO (putO u o [92, 97, 97])) n [61, 98, 53, 98]) = t2 at *
        generalize textO (putO (textO (putO u n [61, 98, 53, 98])) o [92, 97, 97]) = t4 at *
        generalize (putO (textO (putO u o [92, 97, 97])) n [61, 98, 53, 98]).isSome = b2 at *
        generalize (putO (textO (putO u n [61, 98, 53, 98])) o [92, 97, 97]).isSome = b4 at *
        generalize textO (putO u o [92, 97, 97]) = t1 at *
        generalize textO (putO u n [61, 98, 53, 98]) = t3 at *
        generalize (putO u o [92, 97, 97]).isSome = b1 at *
        generalize (putO u n [61, 98, 53, 98]).isSome = b3 at *
        by_cases hno : n = o
        · subst hno
          clear HP
          go_wp2_with fail
          refine (D1 _).mono ?_; rintro e w5 ⟨rfl, hb2⟩; replace hb := next hb hb2; clear hb2 D1
          go_wp2_with fail
          refine (D2 _).mono ?_; rintro e w6 ⟨rfl, hb2⟩; replace hb := next hb hb2; clear hb2 D2
          go_wp2_with fail
          refine (D3 _).mono ?_; rintro e w7 ⟨rfl, hb2⟩; replace hb := next hb hb2; clear hb2 D3
          go_wp2_with fail
          refine (D4 _).mono ?_; rintro e w8 ⟨rfl, hb2⟩; replace hb := next hb hb2; clear hb2 D4
          cases b1 <;> cases b2 <;> cases b3 <;> cases b4 <;> (go_wp2_with fail; go_ret; exact ⟨rfl, hb⟩)
        · have HQ := Lib.hid (HP hno)
          clear HP
          go_wp2_with fail
          refine (D1 _).mono ?_; rintro e w5 ⟨rfl, hb2⟩; replace hb := next hb hb2; clear hb2 D1
          go_wp2_with fail
          refine (D2 _).mono ?_; rintro e w6 ⟨rfl, hb2⟩; replace hb := next hb hb2; clear hb2 D2
          go_wp2_with fail
          refine (D3 _).mono ?_; rintro e w7 ⟨rfl, hb2⟩; replace hb := next hb hb2; clear hb2 D3
          go_wp2_with fail
          refine (D4 _).mono ?_; rintro e w8 ⟨rfl, hb2⟩; replace hb := next hb hb2; clear hb2 D4
          by_cases hall : b1 = true ∧ b2 = true ∧ b3 = true ∧ b4 = true
          · obtain ⟨rfl, rfl, rfl, rfl⟩ := hall
            have hts := HQ.out rfl rfl rfl rfl
            clear HQ
            subst hts
            go_wp2_with fail
            go_ret
            exact ⟨rfl, hb⟩
          · clear HQ
            cases b1 <;> cases b2 <;> cases b3 <;> cases b4 <;> first | exact absurd ⟨rfl, rfl, rfl, rfl⟩ hall | (clear hall; go_wp2_with fail; go_ret; exact ⟨rfl, hb⟩)
    · have hm2 : ¬ (l2 : Int) ≤ 1048576 := by omega
      go_enter Tryz.func4, Tryz.ntmps4
      go_wp2_with fail
      go_ret
      exact ⟨rfl, Below.refl _ _⟩
  · have hl2 : ¬ (l : Int) ≤ 1048576 := by omega
    go_enter Tryz.func4, Tryz.ntmps4
    go_wp2_with fail
    go_ret
    exact ⟨rfl, Below.refl _ _⟩
end Go.Proofs.YtipcocjmlpfajaaGreat
