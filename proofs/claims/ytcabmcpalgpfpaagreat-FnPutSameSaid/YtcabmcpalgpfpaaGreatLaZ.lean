import Derived.Test.YtcabmcpalgpfpaaGreatLaS
import Derived.Test.YtcabmcpalgpfpaaGreatLaP
import Derived.Test.YtcabmcpalgpfpaaGreatPuK
import Derived.Test.YtcabmcpalgpfpaaGreatPsK
/- Laws over drawn terms: FnPutSame. -/
namespace Go.Proofs.YtcabmcpalgpfpaaGreat
open Go.RowKit
open Ff
set_option linter.unusedVariables false
attribute [local irreducible] Calls

theorem putO_len {s n u : Text} {R : Tm} (h : putO s n u = some R) : (textN R).length ≤ 120 := by
  obtain ⟨t, v, x, hr, hu, hn, ho, rfl, hf⟩ := putO_some h
  exact (fits_parts hf).2
set_option maxRecDepth 100000 in
set_option maxHeartbeats 8000000 in
theorem law_fnPutSame (a : Option Addr) (l c : Nat) (a2 : Option Addr) (l2 c2 : Nat) (w : World) (h : Src w a l c) (h2 : Src w a2 l2 c2) :
    Calls Tryz.prog 4 #[.slice a l c, .slice a2 l2 c2] w fun e w' => e = .returned (.bool true) ∧ Below w.heap.size w w' := by
  by_cases hl : l ≤ 1048576
  · have hl2 : ¬ 1048576 < (l : Int) := by omega
    by_cases hm : l2 ≤ 1048576
    · have hm2 : ¬ 1048576 < (l2 : Int) := by omega
      go_enter Tryz.func4, Tryz.ntmps4
      go_wp2_with fail
      refine (drawSame_c a l c w h).mono ?_; rintro e w1 ⟨s, u, rfl, hs, hu, hb⟩
      go_wp2_with fail
      refine (drawPut_c a2 l2 c2 _ (h2.keep hb)).mono ?_; rintro e w2 ⟨_, n, v, rfl, _, hn, hv, hb2⟩; replace hb := next hb hb2; clear hb2
      have I1 := fun W => iPut_c s n v W (by omega) (by omega) (by omega)
      have S1 := fun W => sPut_c s n v W (by omega) (by omega) (by omega)
      have I2 := fun W => iPut_c u n v W (by omega) (by omega) (by omega)
      have C1 := fun W => iSame_c s u W (by omega) (by omega)
      have hE := @put_same s u n v
      rcases hA : putO s n v with _ | R
      · rw [hA] at I1 S1
        simp only [textO, Option.isSome_none] at I1 S1
        clear hA hE
        generalize sameO s u = B at *
        generalize textO (putO u n v) = r2 at *
        generalize (putO u n v).isSome = o2 at *
        go_wp2_with fail
        refine (I1 _).mono ?_; rintro e w3 ⟨rfl, hb2⟩; replace hb := next hb hb2; clear hb2 I1
        go_wp2_with fail
        refine (S1 _).mono ?_; rintro e w4 ⟨rfl, hb2⟩; replace hb := next hb hb2; clear hb2 S1
        go_wp2_with fail
        refine (I2 _).mono ?_; rintro e w5 ⟨rfl, hb2⟩; replace hb := next hb hb2; clear hb2 I2
        go_wp2_with fail
        refine (C1 _).mono ?_; rintro e w6 ⟨rfl, hb2⟩; replace hb := next hb hb2; clear hb2 C1
        cases B <;>
        · go_wp2_with fail
          go_ret
          exact ⟨rfl, hb⟩
      · rw [hA] at I1 S1
        have hRl := putO_len hA
        simp only [textO, Option.isSome_some] at I1 S1
        rcases hA2 : putO u n v with _ | R2
        · rw [hA2] at I2
          simp only [textO, Option.isSome_none] at I2
          clear hA hA2 hE
          generalize sameO s u = B at *
          generalize textN R = r at *
          go_wp2_with fail
          refine (I1 _).mono ?_; rintro e w3 ⟨rfl, hb2⟩; replace hb := next hb hb2; clear hb2 I1
          go_wp2_with fail
          refine (S1 _).mono ?_; rintro e w4 ⟨rfl, hb2⟩; replace hb := next hb hb2; clear hb2 S1
          go_wp2_with fail
          refine (I2 _).mono ?_; rintro e w5 ⟨rfl, hb2⟩; replace hb := next hb hb2; clear hb2 I2
          go_wp2_with fail
          refine (C1 _).mono ?_; rintro e w6 ⟨rfl, hb2⟩; replace hb := next hb hb2; clear hb2 C1
          cases B <;>
          · go_wp2_with fail
            go_ret
            exact ⟨rfl, hb⟩
        · rw [hA2] at I2
          have hRl2 := putO_len hA2
          simp only [textO, Option.isSome_some] at I2
          have C2 := fun W => iSame_c (textN R) (textN R2) W (by omega) (by omega)
          have hE2 := fun h => hE h hA hA2
          clear hA hA2 hE
          generalize textN R = r at *
          generalize textN R2 = r2 at *
          generalize sameO s u = B at *
          generalize sameO r r2 = B2 at *
          go_wp2_with fail
          refine (I1 _).mono ?_; rintro e w3 ⟨rfl, hb2⟩; replace hb := next hb hb2; clear hb2 I1
          go_wp2_with fail
          refine (S1 _).mono ?_; rintro e w4 ⟨rfl, hb2⟩; replace hb := next hb hb2; clear hb2 S1
          go_wp2_with fail
          refine (I2 _).mono ?_; rintro e w5 ⟨rfl, hb2⟩; replace hb := next hb hb2; clear hb2 I2
          go_wp2_with fail
          refine (C1 _).mono ?_; rintro e w6 ⟨rfl, hb2⟩; replace hb := next hb hb2; clear hb2 C1
          cases B
          · clear C2 hE2
            go_wp2_with fail
            go_ret
            exact ⟨rfl, hb⟩
          · obtain rfl : B2 = true := hE2 rfl
            clear hE2
            go_wp2_with fail
            refine (C2 _).mono ?_; rintro e w7 ⟨rfl, hb2⟩; replace hb := next hb hb2; clear hb2 C2
            go_wp2_with fail
            go_ret
            exact ⟨rfl, hb⟩
    · have hm2 : 1048576 < (l2 : Int) := by omega
      go_enter Tryz.func4, Tryz.ntmps4
      go_wp2_with fail
      go_ret
      exact ⟨rfl, Below.refl _ w⟩
  · have hl2 : 1048576 < (l : Int) := by omega
    go_enter Tryz.func4, Tryz.ntmps4
    go_wp2_with fail
    go_ret
    exact ⟨rfl, Below.refl _ w⟩
end Go.Proofs.YtcabmcpalgpfpaaGreat
