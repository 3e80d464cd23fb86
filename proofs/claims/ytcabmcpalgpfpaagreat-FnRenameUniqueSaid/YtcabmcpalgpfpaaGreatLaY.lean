import Derived.Test.YtcabmcpalgpfpaaGreatLaX
import Derived.Test.YtcabmcpalgpfpaaGreatMLt
import Derived.Test.YtcabmcpalgpfpaaGreatMPc
/- Laws over drawn terms: FnRenameUnique. -/
namespace Go.Proofs.YtcabmcpalgpfpaaGreat
open Go.RowKit
open Ff
set_option linter.unusedVariables false
attribute [local irreducible] Calls

theorem unq_short2 (s : Text) : (textO (unqO s)).length ≤ 5000 := by
  rcases hr : readS s with _ | t
  · have hO : unqO s = none := by unfold unqO; rw [hr]; rfl
    rw [hO]; simp [textO]
  · obtain ⟨hO, hA⟩ := unqO_facts hr
    obtain ⟨tg, td, tp⟩ := read_facts hr
    rw [hO]
    rcases ho : unqT 24 id (sfree t) t with _ | r
    · simp [textO]
    · have A := hA r ho
      have := text_len r.1
      rw [A.many] at this
      show (textN r.1).length ≤ 5000
      omega
theorem capsO_len {s : Text} : (capsO (readS s)).length ≤ 120 := by
  rcases h : readS s with _ | T
  · show ([] : List Text).length ≤ 120; simp
  · have := capsT_len (parts T)
    have := (read_facts h).2.2
    show (capsT (parts T)).length ≤ 120
    omega
set_option maxRecDepth 100000 in
set_option maxHeartbeats 8000000 in
theorem law_fnRenameUnique (a : Option Addr) (l c : Nat) (w : World) (h : Src w a l c) :
    Calls Tryz.prog 5 #[.slice a l c] w fun e w' => e = .returned (.bool true) ∧ Below w.heap.size w w' := by
  by_cases hl : l ≤ 1048576
  · have hl2 : ¬ 1048576 < (l : Int) := by omega
    go_enter Tryz.func5, Tryz.ntmps5
    go_wp2_with fail
    refine (drawRename_c a l c w h).mono ?_; rintro e w1 ⟨s, n, m, rfl, hs, hn, hm, hb⟩
    have I := fun W => iRename_c s n m W (by omega) (by omega) (by omega)
    have S := fun W => sRename_c s n m W (by omega) (by omega) (by omega)
    rcases hO : renO s n m with _ | R
    · rw [hO] at I S
      simp only [textO, Option.isSome_none] at I S
      clear hO
      go_wp2_with fail
      refine (I _).mono ?_; rintro e w2 ⟨rfl, hb2⟩; replace hb := next hb hb2; clear hb2 I
      go_wp2_with fail
      refine (S _).mono ?_; rintro e w3 ⟨rfl, hb2⟩; replace hb := next hb hb2; clear hb2 S
      go_wp2_with fail
      go_ret
      exact ⟨rfl, hb⟩
    · obtain ⟨t, _, _, _, _, _, f6, f7⟩ := renO_some hO
      rw [hO] at I S
      simp only [textO, Option.isSome_some] at I S
      have U1 := fun W => iUnique_c s W (by omega)
      have U2 := fun W => iUnique_c (textN R) W (by omega)
      rw [f7] at U2
      have hz := unq_short2 s
      clear hO f6 f7
      generalize textN R = r at *
      generalize textO (unqO s) = u at *
      generalize (unqO s).isSome = ou at *
      have K := fun W => iCapturedBy_c u W (by omega)
      rw [← readS_eq] at K
      have hcl := capsO_len (s := u)
      generalize capsO (readS u) = L at *
      generalize (readS u).isSome = ok at *
      go_wp2_with fail
      refine (I _).mono ?_; rintro e w2 ⟨rfl, hb2⟩; replace hb := next hb hb2; clear hb2 I
      go_wp2_with fail
      refine (S _).mono ?_; rintro e w3 ⟨rfl, hb2⟩; replace hb := next hb hb2; clear hb2 S
      go_wp2_with fail
      refine (U1 _).mono ?_; rintro e w4 ⟨rfl, hb2⟩; replace hb := next hb hb2; clear hb2 U1
      go_wp2_with fail
      refine (U2 _).mono ?_; rintro e w5 ⟨rfl, hb2⟩; replace hb := next hb hb2; clear hb2 U2
      go_wp2_with fail
      refine (K _).mono ?_; rintro e w6 ⟨va, rfl, sa, hb2⟩; replace hb := next hb hb2; clear hb2
      obtain ⟨⟨aa, ca, rfl⟩, _⟩ := sa.cases
      go_wp2_with fail
      refine (K _).mono ?_; rintro e w7 ⟨vb, rfl, sb, hb2⟩; replace hb := next hb hb2; replace sa := Strs.below sa hb2 (Nat.le_refl _); clear hb2 K
      obtain ⟨⟨ab, cb, rfl⟩, _⟩ := sb.cases
      have T := texts_c _ _ _ _ L w7 sa sb (by omega)
      cases ou
      all_goals
        go_wp2_with fail
        refine T.mono ?_; rintro e w8 ⟨rfl, hb2⟩; replace hb := next hb hb2; clear hb2 T
        go_wp2_with fail
        go_ret
        exact ⟨rfl, hb⟩
  · have hl2 : 1048576 < (l : Int) := by omega
    go_enter Tryz.func5, Tryz.ntmps5
    go_wp2_with fail
    go_ret
    exact ⟨rfl, Below.refl _ w⟩
end Go.Proofs.YtcabmcpalgpfpaaGreat
