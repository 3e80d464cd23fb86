import Derived.Test.YtojbffiffcfblaaGreatLaS
import Derived.Test.YtojbffiffcfblaaGreatLaE
import Derived.Test.YtojbffiffcfblaaGreatMUq
import Derived.Test.YtojbffiffcfblaaGreatNx
/- Laws over drawn terms: DrawUnique; FnUnique. -/
namespace Go.Proofs.YtojbffiffcfblaaGreat
open Go.RowKit
open Ff
set_option linter.unusedVariables false
attribute [local irreducible] Calls

/-- What unique terms come to, in the results' words. -/
theorem unqO_some {x : Text} {R : Tm} (h : unqO x = some R) : unqO (textN R) = some R ∧ uniqB (readT (textN R)) = true ∧ sameO x (textN R) = true ∧ (textN R).length ≤ 5000 := by
  rcases hr : readS x with _ | t
  · have hO : unqO x = none := by unfold unqO; rw [hr]; rfl
    rw [hO] at h; cases h
  · have hO := (unqO_facts hr).1
    rw [hO] at h
    rcases hq : unqT 24 id (sfree t) t with _ | r
    · rw [hq] at h; cases h
    · rw [hq] at h
      injection h with h
      have h : r.1 = R := h
      subst h
      have F := unq_facts hr hq
      have hl := (readS_some F.read).choose_spec.2.2
      refine ⟨?_, ?_, ?_, by omega⟩
      · rw [(unqO_facts F.read).1, F.again, hq]; rfl
      · rw [← readS_eq, F.read]; exact F.uniq
      · unfold sameO
        rw [hr, F.read]
        have hn : nlT 24 noF t = nlT 24 noF r.1 := by unfold nlT; rw [F.same]
        exact decide_eq_true hn
theorem same_texts {s u : Text} (h1 : (unqO s).isSome = true) (h2 : (unqO u).isSome = true) : sameO s u = decide (textO (unqO s) = textO (unqO u)) := by
  rcases hr : readS s with _ | t
  · have hO : unqO s = none := by unfold unqO; rw [hr]; rfl
    rw [hO] at h1; cases h1
  · rcases hr2 : readS u with _ | t2
    · have hO : unqO u = none := by unfold unqO; rw [hr2]; rfl
      rw [hO] at h2; cases h2
    · have e1 := (unqO_facts hr).1
      have e2 := (unqO_facts hr2).1
      rcases hq : unqT 24 id (sfree t) t with _ | r
      · rw [e1, hq] at h1; cases h1
      · rcases hq2 : unqT 24 id (sfree t2) t2 with _ | r2
        · rw [e2, hq2] at h2; cases h2
        · rw [unq_same hr hr2 hq hq2, e1, e2, hq, hq2]; rfl
set_option maxHeartbeats 2000000 in
theorem drawUnique_c (a : Option Addr) (l c : Nat) (w : World) (h : Src w a l c) :
    Calls Tryz.prog 8 #[.slice a l c] w fun e w' => ∃ s : Text, e = .returned (.string ⟨s.toArray⟩) ∧ s.length ≤ 5000 ∧ Below w.heap.size w w' := by
  go_enter Tryz.func8, Tryz.ntmps8
  go_wp2_with fail
  refine (open_c a l c w h).mono ?_; rintro e w1 ⟨l', rfl, hD⟩
  go_wp2_with fail
  refine (pick_g hD _ (by omega) (by omega) (by omega)).mono ?_; rintro e w2 ⟨k2, rfl, hk2, hD2⟩
  go_wp2_with fail
  · refine (num_v hD2 [16, 15, 17] _ (by omega) (by decide) (by decide)).mono ?_; rintro e w3 ⟨k3, hk3, rfl, hD3⟩
    have hk3 : 0 ≤ k3 ∧ k3 ≤ 17 := by simp at hk3; omega
    go_wp2_with fail
    refine (many_g hD3 ⟨#[92, 97]⟩ k3.toNat k3 (by omega) (by show 2 * _ ≤ _; omega) (by omega)).mono ?_; rintro e w4 ⟨x, rfl, hx, hD4⟩
    go_wp2_with fail
    refine (of_g hD4 [[97], [49], [98]] _ 1 (by decide) (by omega) (by decide) (by decide)).mono ?_; rintro e w6 ⟨z, hz, rfl, hD6⟩
    have hq : ¬ 9223372036854775807 < x.size + z.size := by omega
    go_wp2_with fail
    go_ret
    obtain ⟨r, hr⟩ : ∃ r : ByteArray, r = x ++ z := ⟨_, rfl⟩
    have hr2 : r.size ≤ 4500 := by rw [hr, ByteArray.size_append]; omega
    rw [← hr]
    clear hr
    obtain ⟨⟨r⟩⟩ := r
    rw [show (⟨⟨r⟩⟩ : ByteArray) = ⟨r.toArray⟩ from rfl, size_data] at hr2
    exact ⟨r, rfl, by omega, hD6.below⟩
  · refine (some_c hD2 (by omega)).mono ?_; rintro e w3 ⟨s, p', rfl, hs, hp, hD3⟩
    go_wp2_with fail
    go_ret
    exact ⟨s, rfl, hs, hD3.below⟩
set_option maxRecDepth 100000 in
set_option maxHeartbeats 8000000 in
theorem law_fnUnique (a : Option Addr) (l c : Nat) (a2 : Option Addr) (l2 c2 : Nat) (w : World) (h : Src w a l c) (h2 : Src w a2 l2 c2) :
    Calls Tryz.prog 3 #[.slice a l c, .slice a2 l2 c2] w fun e w' => e = .returned (.bool true) ∧ Below w.heap.size w w' := by
  by_cases hl : l ≤ 1048576
  · have hl2 : ¬ 1048576 < (l : Int) := by omega
    by_cases hm : l2 ≤ 1048576
    · have hm2 : ¬ 1048576 < (l2 : Int) := by omega
      go_enter Tryz.func3, Tryz.ntmps3
      go_wp2_with fail
      refine (drawSame_c a l c w h).mono ?_; rintro e w1 ⟨s, u, rfl, hs, hu, hb⟩
      have C1 := fun W => iSame_c s u W (by omega) (by omega)
      have C2 := fun W => sSame_c s u W (by omega) (by omega)
      have C3 := fun W => iSame_c u s W (by omega) (by omega)
      have U1 := fun W => iUnique_c s W (by omega)
      have U2 := fun W => iUnique_c u W (by omega)
      have hE := @same_texts s u
      simp only [same_comm u s] at C3
      generalize sameO s u = B at *
      generalize textO (unqO s) = sa at *
      generalize textO (unqO u) = sb at *
      generalize (unqO s).isSome = oa at *
      generalize (unqO u).isSome = ob at *
      have HE := Lib.hid hE
      clear hE
      go_wp2_with fail
      refine (C1 _).mono ?_; rintro e w2 ⟨rfl, hb2⟩; replace hb := next hb hb2; clear hb2 C1
      go_wp2_with fail
      refine (U1 _).mono ?_; rintro e w3 ⟨rfl, hb2⟩; replace hb := next hb hb2; clear hb2 U1
      go_wp2_with fail
      refine (U2 _).mono ?_; rintro e w4 ⟨rfl, hb2⟩; replace hb := next hb hb2; clear hb2 U2
      go_wp2_with fail
      refine (drawUnique_c a2 l2 c2 _ (h2.keep hb)).mono ?_; rintro e w5 ⟨x, rfl, hx, hb2⟩; replace hb := next hb hb2; clear hb2
      have X1 := fun W => iUnique_c x W (by omega)
      have X2 := fun W => sUnq_c x W (by omega)
      rcases hX : unqO x with _ | R
      · rw [hX] at X1 X2
        simp only [textO, Option.isSome_none] at X1 X2
        clear hX
        go_wp2_with fail
        refine (X1 _).mono ?_; rintro e w6 ⟨rfl, hb2⟩; replace hb := next hb hb2; clear hb2 X1
        go_wp2_with fail
        refine (X2 _).mono ?_; rintro e w7 ⟨rfl, hb2⟩; replace hb := next hb hb2; clear hb2 X2
        go_wp2_with fail
        refine (C2 _).mono ?_; rintro e w8 ⟨rfl, hb2⟩; replace hb := next hb hb2; clear hb2 C2
        by_cases hall : oa = true ∧ ob = true
        · obtain ⟨rfl, rfl⟩ := hall
          have hts := HE.out rfl rfl
          clear HE
          by_cases hab : sa = sb
          · rw [decide_eq_true hab] at hts
            subst hts hab
            go_wp2_with fail
            refine (C3 _).mono ?_; rintro e w9 ⟨rfl, hb2⟩; replace hb := next hb hb2; clear hb2 C3
            go_wp2_with fail
            go_ret
            exact ⟨rfl, hb⟩
          · rw [decide_eq_false hab] at hts
            subst hts
            go_wp2_with fail
            refine (C3 _).mono ?_; rintro e w9 ⟨rfl, hb2⟩; replace hb := next hb hb2; clear hb2 C3
            go_wp2_with fail
            go_ret
            exact ⟨congrArg (fun b => Ending.returned (Value.bool b)) (show (!(sa == sb)) = true by rw [beq_eq_false_iff_ne.2 hab]; rfl), hb⟩
        · clear HE
          cases B <;>
          · go_wp2_with fail
            refine (C3 _).mono ?_; rintro e w9 ⟨rfl, hb2⟩; replace hb := next hb hb2; clear hb2 C3
            cases oa <;> cases ob <;> first | exact absurd ⟨rfl, rfl⟩ hall | (clear hall; go_wp2_with fail; go_ret; exact ⟨rfl, hb⟩)
      · obtain ⟨g1, g2, g3, g4⟩ := unqO_some hX
        have Y1 := fun W => iUnique_c (textN R) W (by omega)
        have Y2 := fun W => iIsUnique_c (textN R) W (by omega)
        have Y3 := fun W => iSame_c x (textN R) W (by omega) (by omega)
        rw [hX] at X1 X2
        simp only [g1] at Y1
        simp only [g2] at Y2
        simp only [g3] at Y3
        simp only [textO, Option.isSome_some] at X1 X2 Y1
        clear hX g1 g2 g3
        generalize textN R = t at *
        go_wp2_with fail
        refine (X1 _).mono ?_; rintro e w6 ⟨rfl, hb2⟩; replace hb := next hb hb2; clear hb2 X1
        go_wp2_with fail
        refine (X2 _).mono ?_; rintro e w7 ⟨rfl, hb2⟩; replace hb := next hb hb2; clear hb2 X2
        go_wp2_with fail
        refine (C2 _).mono ?_; rintro e w8 ⟨rfl, hb2⟩; replace hb := next hb hb2; clear hb2 C2
        by_cases hall : oa = true ∧ ob = true
        · obtain ⟨rfl, rfl⟩ := hall
          have hts := HE.out rfl rfl
          clear HE
          by_cases hab : sa = sb
          · rw [decide_eq_true hab] at hts
            subst hts hab
            go_wp2_with fail
            refine (C3 _).mono ?_; rintro e w9 ⟨rfl, hb2⟩; replace hb := next hb hb2; clear hb2 C3
            go_wp2_with fail
            refine (Y1 _).mono ?_; rintro e v1 ⟨rfl, hb2⟩; replace hb := next hb hb2; clear hb2 Y1
            go_wp2_with fail
            refine (Y2 _).mono ?_; rintro e v2 ⟨rfl, hb2⟩; replace hb := next hb hb2; clear hb2 Y2
            go_wp2_with fail
            refine (Y3 _).mono ?_; rintro e v3 ⟨rfl, hb2⟩; replace hb := next hb hb2; clear hb2 Y3
            go_wp2_with fail
            go_ret
            exact ⟨rfl, hb⟩
          · rw [decide_eq_false hab] at hts
            subst hts
            go_wp2_with fail
            refine (C3 _).mono ?_; rintro e w9 ⟨rfl, hb2⟩; replace hb := next hb hb2; clear hb2 C3
            go_wp2_with fail
            refine (Y1 _).mono ?_; rintro e v1 ⟨rfl, hb2⟩; replace hb := next hb hb2; clear hb2 Y1
            go_wp2_with fail
            refine (Y2 _).mono ?_; rintro e v2 ⟨rfl, hb2⟩; replace hb := next hb hb2; clear hb2 Y2
            go_wp2_with fail
            refine (Y3 _).mono ?_; rintro e v3 ⟨rfl, hb2⟩; replace hb := next hb hb2; clear hb2 Y3
            go_wp2_with fail
            go_ret
            exact ⟨congrArg (fun b => Ending.returned (Value.bool b)) (show (!(sa == sb)) = true by rw [beq_eq_false_iff_ne.2 hab]; rfl), hb⟩
        · clear HE
          cases B <;>
          · go_wp2_with fail
            refine (C3 _).mono ?_; rintro e w9 ⟨rfl, hb2⟩; replace hb := next hb hb2; clear hb2 C3
            go_wp2_with fail
            refine (Y1 _).mono ?_; rintro e v1 ⟨rfl, hb2⟩; replace hb := next hb hb2; clear hb2 Y1
            go_wp2_with fail
            refine (Y2 _).mono ?_; rintro e v2 ⟨rfl, hb2⟩; replace hb := next hb hb2; clear hb2 Y2
            go_wp2_with fail
            refine (Y3 _).mono ?_; rintro e v3 ⟨rfl, hb2⟩; replace hb := next hb hb2; clear hb2 Y3
            cases oa <;> cases ob <;> first | exact absurd ⟨rfl, rfl⟩ hall | (clear hall; go_wp2_with fail; go_ret; exact ⟨rfl, hb⟩)
    · have hm2 : 1048576 < (l2 : Int) := by omega
      go_enter Tryz.func3, Tryz.ntmps3
      go_wp2_with fail
      go_ret
      exact ⟨rfl, Below.refl _ _⟩
  · have hl2 : 1048576 < (l : Int) := by omega
    go_enter Tryz.func3, Tryz.ntmps3
    go_wp2_with fail
    go_ret
    exact ⟨rfl, Below.refl _ _⟩
end Go.Proofs.YtojbffiffcfblaaGreat
