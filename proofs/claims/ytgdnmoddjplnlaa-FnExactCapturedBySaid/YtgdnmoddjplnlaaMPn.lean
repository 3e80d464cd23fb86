import Derived.Test.YtgdnmoddjplnlaaMPa
import Derived.Test.YtgdnmoddjplnlaaMPc
/- CapturedBy: the statement's walk. -/
namespace Go.Proofs.Ytgdnmoddjplnlaa
open Go.RowKit
open Ff
set_option linter.unusedVariables false

attribute [local irreducible] Calls

theorem strs_other {W W' : World} {b0 n : Nat} {v0 v1 : Value} {l : List Text} (h : Strs W b0 v0 l) (hg : W.grownBy W' v1.ownBlock) (h0 : ∀ j, v0.ownBlock = some j → j < n) (h1 : ∀ j, v1.ownBlock = some j → n ≤ j) : Strs W' b0 v0 l := by
  refine World.ownsRow.kept h hg ?_
  rcases ho : v0.ownBlock with _ | j
  · exact .inl rfl
  · refine .inr (fun e => ?_)
    have a := h0 j ho
    have b := h1 j e.symm
    omega
set_option maxRecDepth 100000 in
set_option maxHeartbeats 4000000 in
theorem law_caps (s : Text) (w : World) (hl : s.length ≤ 9223372036854775807) :
    Calls Try.prog 4 #[.string ⟨s.toArray⟩] w fun e w' => e = .returned (.bool true) ∧ Below w.heap.size w w' := by
  by_cases h : s.length ≤ 1048576
  · have h2 : (s.length : Int) ≤ 1048576 := by omega
    have C1 := sCapturedBy_c s w hl
    have C2 := fun w => iCapturedBy_c s w hl
    rw [readS_eq] at C1
    have hL : (capsO (readT s)).length ≤ 1000000 := by
      rcases hr : readT s with _ | t
      · simp [capsO]
      · have := readS_parts (readS_eq s ▸ hr)
        have := capsT_len (parts t)
        show (capsT (parts t)).length ≤ _
        omega
    generalize capsO (readT s) = L at C1 C2 hL
    generalize (readT s).isSome = b at C1 C2
    cases b
    all_goals
      go_enter Try.func4, Try.ntmps4
      go_wp2_with fail
      refine C1.mono ?_
      clear C1
      rintro e w1 ⟨v0, rfl, s0, b1⟩
      go_wp2_with fail
      refine (C2 w1).mono ?_
      rintro e w2 ⟨v1, rfl, s1, b2⟩
      go_wp2_with fail
      refine (eqS_c v1 v0 w1.heap.size w.heap.size L w2 s1 (Strs.below s0 b2 (Nat.le_refl _)) hL).mono ?_
      rintro e w3 ⟨rfl, b3⟩
      go_wp2_with fail
      refine (markS_c v1 w1.heap.size L w3 (Strs.below s1 b3 (Nat.le_refl _)) hL).mono ?_
      rintro e w4 ⟨rfl, m4, g4⟩
      have s4 := strs_other (n := w1.heap.size) (Strs.below (Strs.below s0 b2 (Nat.le_refl _)) b3 (Nat.le_refl _)) g4 (fun j hj => (World.ownsRow.lt s0 j hj).2) (fun j hj => (World.ownsRow.lt s1 j hj).1)
      go_wp2_with fail
      refine (heldS_c v1 w1.heap.size L.length w4 m4 hL).mono ?_
      rintro e w5 ⟨rfl, b5⟩
      go_wp2_with fail
      refine (C2 w5).mono ?_
      rintro e w6 ⟨v2, rfl, s6, b6⟩
      go_wp2_with fail
      refine (eqS_c v2 v0 w5.heap.size w.heap.size L w6 s6 (Strs.below (Strs.below s4 b5 (Nat.le_refl _)) b6 (Nat.le_refl _)) hL).mono ?_
      rintro e w7 ⟨rfl, b7⟩
      go_wp2_with fail
      refine (heldS_c v1 w1.heap.size L.length w7 (Strs.below (Strs.below (Strs.below m4 b5 (Nat.le_refl _)) b6 (Nat.le_refl _)) b7 (Nat.le_refl _)) hL).mono ?_
      rintro e w8 ⟨rfl, b8⟩
      go_wp2_with fail
      go_ret
      refine ⟨rfl, ?_⟩
      have z1 := b1.size
      have z2 := b2.size
      have z3 := b3.size
      have z4 := g4.size
      have z5 := b5.size
      have z6 := b6.size
      have z7 := b7.size
      exact ((b1.trans ((b2.trans (b3.mono z2)).mono z1)).grown g4 (by omega) (fun j hj => Nat.le_trans z1 (World.ownsRow.lt s1 j hj).1)).trans ((b5.trans ((b6.trans ((b7.trans (b8.mono z7)).mono z6)).mono z5)).mono (by omega))
  · have h2 : 1048576 < (s.length : Int) := by omega
    go_enter Try.func4, Try.ntmps4
    go_wp2_with fail
    go_ret
    exact ⟨rfl, Below.refl _ _⟩
end Go.Proofs.Ytgdnmoddjplnlaa
