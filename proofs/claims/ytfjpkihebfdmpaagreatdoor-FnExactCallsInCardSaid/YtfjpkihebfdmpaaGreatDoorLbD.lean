import Derived.Test.YtfjpkihebfdmpaaGreatDoorLsI
/- FnExactCallsIn. -/
namespace Go.Proofs.YtfjpkihebfdmpaaGreatDoor
open Go.RowKit Go.Shelf
open Ff
set_option linter.unusedVariables false
attribute [local irreducible] Calls

theorem ints_other {W W' : World} {b0 n : Nat} {v0 v1 : Value} {l : List Int} (h : Ints W b0 v0 l) (hg : W.grownBy W' v1.ownBlock) (h0 : ∀ j, v0.ownBlock = some j → j < n) (h1 : ∀ j, v1.ownBlock = some j → n ≤ j) : Ints W' b0 v0 l := by
  refine World.ownsRow.kept h hg ?_
  rcases ho : v0.ownBlock with _ | j
  · exact .inl rfl
  · refine .inr (fun e => ?_)
    have a := h0 j ho
    have b := h1 j e.symm
    omega
theorem Ints.below {W W' : World} {base n : Nat} {v : Value} {l : List Int} (h : Ints W base v l) (hb : Below n W W') (hn : W.heap.size ≤ n) : Ints W' base v l := by
  refine World.ownsRow.kept (row := none) h ⟨hb.os, hb.tape, hb.output, hb.size, fun j hj _ => hb.block j (by omega)⟩ ?_
  rcases h.2 with ⟨rfl, _⟩ | ⟨g, cap, cur, rfl, _⟩
  · exact .inl rfl
  · exact .inr (by simp [Value.ownBlock])
set_option maxRecDepth 100000 in
set_option maxHeartbeats 4000000 in
theorem law_callsIn (s : Text) (w : World) (hl : s.length ≤ 9223372036854775807) (hg : ErrT w) :
    Calls Tryz.prog 7 #[.string ⟨s.toArray⟩] w fun e w' => e = .returned (.bool true) ∧ Below w.heap.size w w' := by
  by_cases h : s.length ≤ 1048576
  · have h2 : (s.length : Int) ≤ 1048576 := by omega
    have C1 := sCallsIn_c (sev_c 1501) s w hl
    have C2 : ∀ w', Below w.heap.size w w' → _ := fun w' hb => iCallsIn_c s w' hl ((hb.cell (p := ⟨0, 0, none⟩) hg.pos).trans hg)
    have hL : (calO (doneO s)).length ≤ 1000000 := by
      rcases hr : doneO s with _ | s2
      · simp [calO]
      · have := done_ok hr
        simp only [calO, List.length_map]
        omega
    generalize (doneO s).isSome = b at C1 C2
    generalize calO (doneO s) = L at C1 C2 hL
    have hpos := hg.pos
    cases b
    all_goals
      go_enter Tryz.func7, Tryz.ntmps7
      go_wp2_with fail
      refine C1.mono ?_
      clear C1
      rintro e w1 ⟨v0, rfl, s0, b1⟩
      obtain ⟨a0, c0, rfl⟩ := row_slice s0
      go_wp2_with fail
      refine (C2 w1 b1).mono ?_
      rintro e w2 ⟨v1, rfl, s1, b2⟩
      obtain ⟨a1, c1, rfl⟩ := row_slice s1
      go_wp2_with fail
      refine (eqI_c _ _ w1.heap.size w.heap.size L w2 s1 (Ints.below s0 b2 (Nat.le_refl _)) hL).mono ?_
      rintro e w3 ⟨rfl, b3⟩
      go_wp2_with fail
      refine (markI_c _ w1.heap.size L w3 (Ints.below s1 b3 (Nat.le_refl _)) hL).mono ?_
      rintro e w4 ⟨rfl, m4, g4⟩
      have s4 := ints_other (n := w1.heap.size) (Ints.below (Ints.below s0 b2 (Nat.le_refl _)) b3 (Nat.le_refl _)) g4 (fun j hj => (World.ownsRow.lt s0 j hj).2) (fun j hj => (World.ownsRow.lt s1 j hj).1)
      go_wp2_with fail
      refine (heldI_c _ w1.heap.size L.length w4 m4 hL).mono ?_
      rintro e w5 ⟨rfl, b5⟩
      have hb5 : Below w.heap.size w w5 := (((b1.trans ((b2.trans (b3.mono b2.size)).mono b1.size)).grown g4 (by have := b1.size; have := b2.size; have := b3.size; omega) (fun j hj => Nat.le_trans b1.size (World.ownsRow.lt s1 j hj).1))).trans (b5.mono (by have := b1.size; have := b2.size; have := b3.size; have := g4.size; omega))
      go_wp2_with fail
      refine (C2 w5 hb5).mono ?_
      rintro e w6 ⟨v2, rfl, s6, b6⟩
      obtain ⟨a2, c2, rfl⟩ := row_slice s6
      go_wp2_with fail
      refine (eqI_c _ _ w5.heap.size w.heap.size L w6 s6 (Ints.below (Ints.below s4 b5 (Nat.le_refl _)) b6 (Nat.le_refl _)) hL).mono ?_
      rintro e w7 ⟨rfl, b7⟩
      go_wp2_with fail
      refine (heldI_c _ w1.heap.size L.length w7 (Ints.below (Ints.below (Ints.below m4 b5 (Nat.le_refl _)) b6 (Nat.le_refl _)) b7 (Nat.le_refl _)) hL).mono ?_
      rintro e w8 ⟨rfl, b8⟩
      go_wp2_with fail
      go_ret
      refine ⟨rfl, ?_⟩
      have z1 := b1.size
      have z2 := b2.size
      have z3 := b3.size
      have z4 := g4.size
      have z5 := b5.size
      have z6 := b6.size
      have z7 := b7.size
      exact ((b1.trans ((b2.trans (b3.mono z2)).mono z1)).grown g4 (by omega) (fun j hj => Nat.le_trans z1 (World.ownsRow.lt s1 j hj).1)).trans ((b5.trans ((b6.trans ((b7.trans (b8.mono z7)).mono z6)).mono z5)).mono (by omega))
  · have h2 : 1048576 < (s.length : Int) := by omega
    go_enter Tryz.func7, Tryz.ntmps7
    go_wp2_with fail
    go_ret
    exact ⟨rfl, Below.refl _ _⟩
end Go.Proofs.YtfjpkihebfdmpaaGreatDoor
