import Derived.Test.YtkelncocppiepaaGreatDoorMUf
import Derived.Test.YtkelncocppiepaaGreatDoorMPe
/- FnExactUnique: the program's Unique is the specification's. -/
namespace Go.Proofs.YtkelncocppiepaaGreatDoor
open Go.RowKit
open Ff
set_option linter.unusedVariables false

set_option maxRecDepth 100000 in
set_option maxHeartbeats 8000000 in
theorem sUnq_c (s : Text) (w : World) (hl : s.length ≤ 9223372036854775807) :
    Calls Tryz.prog 11 #[.string ⟨s.toArray⟩] w fun e w' => e = .returned (.tuple #[.string ⟨(textO (unqO s)).toArray⟩, .bool (unqO s).isSome]) ∧ Below w.heap.size w w' := by
  have C1 := sread_c s w hl
  rcases hr : readS s with _ | t
  · have hO : unqO s = none := by unfold unqO; rw [hr]; rfl
    rw [hO]
    rw [hr] at C1
    clear hr hO
    go_enter Tryz.func11, Tryz.ntmps11
    go_wp2_with fail
    refine C1.mono ?_
    clear C1
    rintro e w1 ⟨rfl, hb1⟩
    unfold zeroTm
    go_wp2_with fail
    go_ret2
    exact ⟨rfl, hb1.alloc hb1.size _⟩
  · obtain ⟨hO, hA⟩ := unqO_facts hr
    obtain ⟨tg, td, tp⟩ := read_facts hr
    rw [hO]
    rw [hr] at C1
    clear hr hO
    obtain ⟨o, ho⟩ : ∃ o, unqT 24 id (sfree t) t = o := ⟨_, rfl⟩
    rw [ho]
    simp only [ho] at hA
    have HO := Lib.hid ho
    have HA := Lib.hid hA
    clear ho hA
    go_enter Tryz.func11, Tryz.ntmps11
    go_wp2_with fail
    refine C1.mono ?_
    clear C1
    rintro e w1 ⟨v1, rfl, hb1, hrep1⟩
    obtain ⟨x0, x1, x2, x3, x4, x5, rfl⟩ := hrep1.junk
    have hs1 := hb1.size
    have z1 := alloc_here w1 (tmO x0 x1 x2 x3 x4 x5)
    obtain ⟨a0, a1, a2, a3, _⟩ := cells4 z1
    have hR1 : Rep (fun g => g < w1.heap.size) (w1.alloc (tmO x0 x1 x2 x3 x4 x5)) t (.agg #[.int .u8 x0, .int .i64 x1, .string x2, .slice x3 x4 x5]) := hrep1.keep (fun g hg => alloc_farP _ _ hg.2) (fun g hg => hg.2)
    have hB1 := hb1.alloc hs1 (tmO x0 x1 x2 x3 x4 x5)
    have hz1 : (w1.alloc (tmO x0 x1 x2 x3 x4 x5)).heap.size = w1.heap.size + 1 := by simp
    have hu := used_free tg
    have KF : ∀ W, Below (w1.alloc (tmO x0 x1 x2 x3 x4 x5)).heap.size (w1.alloc (tmO x0 x1 x2 x3 x4 x5)) W → Calls Tryz.prog 18 #[.agg #[.int .u8 x0, .int .i64 x1, .string x2, .slice x3 x4 x5]] W fun e W' => e = .returned (.string ⟨(sfree t).toArray⟩) ∧ Below W.heap.size W W' ∧ (∀ g, W.heap[g]? = some (tmO 0 0 ⟨#[]⟩ none 0 0) → W'.heap[g]? = some (tmO 0 0 ⟨#[]⟩ none 0 0)) ∧ Below (w1.alloc (tmO x0 x1 x2 x3 x4 x5)).heap.size (w1.alloc (tmO x0 x1 x2 x3 x4 x5)) W' := fun W hW =>
      (free_c 4000 t w1.heap.size _ W (by omega) (Nat.le_refl _) (hR1.keep (fun g hg => hW.block g (by omega)) (fun g hg => hg)) (by have := hW.size; omega) tg).mono fun e W' ⟨h1, h2⟩ => ⟨h1, h2, fun g hz => (h2.block g (Array.getElem?_eq_some_iff.1 hz).1).trans hz, hW.trans (h2.mono hW.size)⟩
    have KU : ∀ W, Below (w1.alloc (tmO x0 x1 x2 x3 x4 x5)).heap.size (w1.alloc (tmO x0 x1 x2 x3 x4 x5)) W → Calls Tryz.prog 17 #[.agg #[.int .u8 x0, .int .i64 x1, .string x2, .slice x3 x4 x5], .string ⟨#[]⟩, .string ⟨#[]⟩, .string ⟨(sfree t).toArray⟩] W (UnqSP (fun g => g < w1.heap.size) W o) := fun W hW => by
      rw [← HO.out]
      exact unqS_c 24 (fun g => g < w1.heap.size) [] [] (sfree t) t _ W td (by omega) tg hu rfl (by simp) (fun g hg => by have := hW.size; omega) (hR1.keep (fun g hg => hW.block g (by omega)) (fun g hg => hg))
    go_wp2_with fail
    generalize w1.alloc (tmO x0 x1 x2 x3 x4 x5) = W1 at *
    have LB : ∀ W, Below W1.heap.size W1 W → (W.cell? ⟨w1.heap.size, 0, none⟩ = some (.int .u8 x0) ∧ W.cell? ⟨w1.heap.size, 1, none⟩ = some (.int .i64 x1) ∧ W.cell? ⟨w1.heap.size, 2, none⟩ = some (.string x2) ∧ W.cell? ⟨w1.heap.size, 3, none⟩ = some (.slice x3 x4 x5)) ∧ Below W1.heap.size W1 W := fun W hW => by
      obtain ⟨b0, b1, b2, b3, _⟩ := cells4 ((hW.block w1.heap.size (by omega)).trans z1)
      exact ⟨⟨b0, b1, b2, b3⟩, hW⟩
    have HZ1 := Lib.hid hz1
    clear hz1
    have t1 : Below W1.heap.size W1 W1.drew := (Below.refl _ W1).drew
    have t2 : ∀ o, Below W1.heap.size W1 (W1.alloc o) := fun o => (Below.refl _ W1).alloc (Nat.le_refl _) o
    have t3 : ∀ o, Below W1.heap.size W1 (W1.alloc o).drew := fun o => ((Below.refl _ W1).alloc (Nat.le_refl _) o).drew
    have t4 : ∀ o, Below W1.heap.size W1 (W1.drew.alloc o) := fun o => ((Below.refl _ W1).drew).alloc (Nat.le_refl _) o
    have tB1 : (W1.alloc (tmO 0 0 ⟨#[]⟩ none 0 0)).heap[W1.heap.size]? = some (tmO 0 0 ⟨#[]⟩ none 0 0) := alloc_here _ _
    have tB2 : (W1.alloc (tmO 0 0 ⟨#[]⟩ none 0 0)).drew.heap[W1.heap.size]? = some (tmO 0 0 ⟨#[]⟩ none 0 0) := alloc_here _ _
    have tB3 : (W1.drew.alloc (tmO 0 0 ⟨#[]⟩ none 0 0)).heap[W1.heap.size]? = some (tmO 0 0 ⟨#[]⟩ none 0 0) := alloc_here W1.drew _
    rcases o with _ | r
    · have KU2 : ∀ W, Below W1.heap.size W1 W → Calls Tryz.prog 17 #[.agg #[.int .u8 x0, .int .i64 x1, .string x2, .slice x3 x4 x5], .string ⟨#[]⟩, .string ⟨#[]⟩, .string ⟨(sfree t).toArray⟩] W fun e W' => ∃ (v0 v1 : Int) (v2 : ByteArray) (v3 : Option Addr) (v4 v5 : Nat) (x : ByteArray), e = .returned (.tuple #[.agg #[.int .u8 v0, .int .i64 v1, .string v2, .slice v3 v4 v5], .string x, .bool false]) ∧ Below W.heap.size W W' ∧ (∀ g, W.heap[g]? = some (tmO 0 0 ⟨#[]⟩ none 0 0) → ZeroAt W' g) ∧ Below W1.heap.size W1 W' := fun W hW =>
        (KU W hW).mono fun e W' h => by
          obtain ⟨v0, v1, v2, v3, v4, v5, x, h1, h2⟩ := unq_none h
          exact ⟨v0, v1, v2, v3, v4, v5, x, h1, h2, fun g hz => cells4 ((h2.block g (Array.getElem?_eq_some_iff.1 hz).1).trans hz), hW.trans (h2.mono hW.size)⟩
      clear KU
      go_region_held3 (fun w' => (w'.cell? ⟨w1.heap.size, 0, none⟩ = some (.int .u8 x0) ∧ w'.cell? ⟨w1.heap.size, 1, none⟩ = some (.int .i64 x1) ∧ w'.cell? ⟨w1.heap.size, 2, none⟩ = some (.string x2) ∧ w'.cell? ⟨w1.heap.size, 3, none⟩ = some (.slice x3 x4 x5)) ∧ Below W1.heap.size W1 w')
        (first | with_reducible exact LB _ (Below.refl _ _) | with_reducible exact LB _ t1 | with_reducible exact LB _ (t2 _) | with_reducible exact LB _ (t3 _) | with_reducible exact LB _ (t4 _) | with_reducible exact LB _ hB5 | with_reducible exact LB _ (t5 _) | with_reducible exact LB _ hB6 | with_reducible exact LB _ (t6 _) | with_reducible exact LB _ (t7 _ _ _ _) | with_reducible exact LB _ (t8 _ _ _ _))
        (first | (go_at_call 18; refine (KF _ (by first | with_reducible exact t3 _ | with_reducible exact t1 | with_reducible exact t2 _ | with_reducible exact t4 _ | exact Below.refl _ _)).mono ?_; rintro e w5 ⟨rfl, hb5, hz5, hB5⟩; have zA := hz5 W1.heap.size; clear hz5; (try simp only [tB2, true_implies] at zA); have hs5 := hB5.size; have t5 : ∀ o, Below W1.heap.size W1 (w5.alloc o) := (fun o => hB5.alloc hB5.size o); have tC1 := alloc_here w5 (tmO 0 0 ⟨#[]⟩ none 0 0)) | (go_at_call 17; refine (KU2 _ (by first | with_reducible exact hB5 | with_reducible exact t5 _)).mono ?_; rintro e w6 ⟨v0, v1, v2, v3, v4, v5, x, rfl, hb6, hz6, hB6⟩; have zB := hz6 W1.heap.size; have zC := hz6 w5.heap.size; clear hz6; (try simp only [zA, true_implies] at zB); (try simp only [tC1, true_implies] at zC); have hs6 := hB6.size; have t6 : ∀ o, Below W1.heap.size W1 (w6.alloc o) := (fun o => hB6.alloc hB6.size o); have t7 : ∀ z0 z1 z2 z3, Below W1.heap.size W1 (set4 w6 W1.heap.size z0 z1 z2 z3) := (fun z0 z1 z2 z3 => set4_below hB6 (Nat.le_refl _) z0 z1 z2 z3); have t8 : ∀ z0 z1 z2 z3, Below W1.heap.size W1 (set4 w6 w5.heap.size z0 z1 z2 z3) := (fun z0 z1 z2 z3 => set4_below hB6 hs5 z0 z1 z2 z3)))
      all_goals go_wp2_with fail
      all_goals go_ret2
      all_goals first
        | exact ⟨rfl, hB1.trans ((t6 _).mono hB1.size)⟩
        | exact ⟨rfl, hB1.trans ((t7 _ _ _ _).mono hB1.size)⟩
        | exact ⟨rfl, hB1.trans ((t8 _ _ _ _).mono hB1.size)⟩
    · have KU2 : ∀ W, Below W1.heap.size W1 W → Calls Tryz.prog 17 #[.agg #[.int .u8 x0, .int .i64 x1, .string x2, .slice x3 x4 x5], .string ⟨#[]⟩, .string ⟨#[]⟩, .string ⟨(sfree t).toArray⟩] W fun e W' => ∃ (v0 v1 : Int) (v2 : ByteArray) (v3 : Option Addr) (v4 v5 : Nat), e = .returned (.tuple #[.agg #[.int .u8 v0, .int .i64 v1, .string v2, .slice v3 v4 v5], .string ⟨r.2.toArray⟩, .bool true]) ∧ Below W.heap.size W W' ∧ Rep (fun g => g < w1.heap.size ∨ New W W' g) W' r.1 (.agg #[.int .u8 v0, .int .i64 v1, .string v2, .slice v3 v4 v5]) ∧ (∀ g, W.heap[g]? = some (tmO 0 0 ⟨#[]⟩ none 0 0) → ZeroAt W' g) ∧ Below W1.heap.size W1 W' := fun W hW =>
        (KU W hW).mono fun e W' h => by
          obtain ⟨v0, v1, v2, v3, v4, v5, h1, h2, h3⟩ := unq_some h
          exact ⟨v0, v1, v2, v3, v4, v5, h1, h2, h3, fun g hz => cells4 ((h2.block g (Array.getElem?_eq_some_iff.1 hz).1).trans hz), hW.trans (h2.mono hW.size)⟩
      have A := HA.out r rfl
      have hdr : r.1.depth ≤ 4000 := by rw [A.deep]; omega
      have hpr : (parts r.1).length ≤ 100000000 := by rw [A.many]; omega
      have hgr := A.good tg
      clear KU A
      go_region_held3 (fun w' => (w'.cell? ⟨w1.heap.size, 0, none⟩ = some (.int .u8 x0) ∧ w'.cell? ⟨w1.heap.size, 1, none⟩ = some (.int .i64 x1) ∧ w'.cell? ⟨w1.heap.size, 2, none⟩ = some (.string x2) ∧ w'.cell? ⟨w1.heap.size, 3, none⟩ = some (.slice x3 x4 x5)) ∧ Below W1.heap.size W1 w')
        (first | with_reducible exact LB _ (Below.refl _ _) | with_reducible exact LB _ t1 | with_reducible exact LB _ (t2 _) | with_reducible exact LB _ (t3 _) | with_reducible exact LB _ (t4 _) | with_reducible exact LB _ hB5 | with_reducible exact LB _ (t5 _) | with_reducible exact LB _ hB6 | with_reducible exact LB _ (t6 _) | with_reducible exact LB _ (t7 _ _ _ _) | with_reducible exact LB _ (t8 _ _ _ _))
        (first | (go_at_call 18; refine (KF _ (by first | with_reducible exact t3 _ | with_reducible exact t1 | with_reducible exact t2 _ | with_reducible exact t4 _ | exact Below.refl _ _)).mono ?_; rintro e w5 ⟨rfl, hb5, hz5, hB5⟩; have zA := hz5 W1.heap.size; clear hz5; (try simp only [tB2, true_implies] at zA); have hs5 := hB5.size; have t5 : ∀ o, Below W1.heap.size W1 (w5.alloc o) := (fun o => hB5.alloc hB5.size o); have tC1 := alloc_here w5 (tmO 0 0 ⟨#[]⟩ none 0 0)) | (go_at_call 17; refine (KU2 _ (by first | with_reducible exact hB5 | with_reducible exact t5 _)).mono ?_; rintro e w6 ⟨v0, v1, v2, v3, v4, v5, rfl, hb6, hr6, hz6, hB6⟩; have zB := hz6 W1.heap.size; have zC := hz6 w5.heap.size; clear hz6; (try simp only [zA, true_implies] at zB); (try simp only [tC1, true_implies] at zC); have hs6 := hB6.size; have t6 : ∀ o, Below W1.heap.size W1 (w6.alloc o) := (fun o => hB6.alloc hB6.size o); have t7 : ∀ z0 z1 z2 z3, Below W1.heap.size W1 (set4 w6 W1.heap.size z0 z1 z2 z3) := (fun z0 z1 z2 z3 => set4_below hB6 (Nat.le_refl _) z0 z1 z2 z3); have t8 : ∀ z0 z1 z2 z3, Below W1.heap.size W1 (set4 w6 w5.heap.size z0 z1 z2 z3) := (fun z0 z1 z2 z3 => set4_below hB6 hs5 z0 z1 z2 z3)))
      all_goals first
        | (
          (with_reducible show Exit.then _ _ _ _ (World.alloc w6 _))
          have hT := t6 (tmO v0 v1 v2 v3 v4 v5)
          have A9 := alloc_here w6 (tmO v0 v1 v2 v3 v4 v5)
          have R9 : Rep (fun g => g < (w6.alloc (tmO v0 v1 v2 v3 v4 v5)).heap.size) (w6.alloc (tmO v0 v1 v2 v3 v4 v5)) r.1 (.agg #[.int .u8 v0, .int .i64 v1, .string v2, .slice v3 v4 v5]) := hr6.keep (fun g hg => alloc_farP _ _ (by have := HZ1.out; rcases hg with hg | hg; omega; exact hg.2)) (fun g hg => by have := HZ1.out; rw [World.size_alloc]; rcases hg with hg | hg; omega; (have := hg.2; omega))
          clear zB zC zA tC1 t7 t8 t6
          generalize w6.heap.size = p at A9 ⊢
          generalize w6.alloc (tmO v0 v1 v2 v3 v4 v5) = W9 at hT A9 R9 ⊢)
        | (
          (with_reducible show Exit.then _ _ _ _ (World.setCell (World.setCell (World.setCell (World.setCell w6 ⟨W1.heap.size, 0, none⟩ _) _ _) _ _) _ _))
          have hT := t7 (.int .u8 v0) (.int .i64 v1) (.string v2) (.slice v3 v4 v5)
          have hlt : W1.heap.size < w5.heap.size := (Array.getElem?_eq_some_iff.1 zA).1
          have A9 := set4_here ((hb6.block W1.heap.size hlt).trans zA) (.int .u8 v0) (.int .i64 v1) (.string v2) (.slice v3 v4 v5)
          have R9 : Rep (fun g => g < (set4 w6 W1.heap.size (.int .u8 v0) (.int .i64 v1) (.string v2) (.slice v3 v4 v5)).heap.size) (set4 w6 W1.heap.size (.int .u8 v0) (.int .i64 v1) (.string v2) (.slice v3 v4 v5)) r.1 (.agg #[.int .u8 v0, .int .i64 v1, .string v2, .slice v3 v4 v5]) := hr6.keep (fun g hg => set4_farP _ _ _ _ _ _ _ (by have := HZ1.out; rcases hg with hg | hg; omega; (have := hg.1; omega))) (fun g hg => by have := HZ1.out; rw [set4_size]; rcases hg with hg | hg; omega; (have := hg.2; omega))
          clear zB zC zA tC1 t6 t8 t7
          dsimp only [set4] at A9 hT R9
          generalize ((((w6.setCell ⟨W1.heap.size, 0, none⟩ (.int .u8 v0)).setCell ⟨W1.heap.size, 1, none⟩ (.int .i64 v1)).setCell ⟨W1.heap.size, 2, none⟩ (.string v2)).setCell ⟨W1.heap.size, 3, none⟩ (.slice v3 v4 v5)) = W9 at hT A9 R9 ⊢
          generalize W1.heap.size = p at A9 ⊢)
        | (
          (with_reducible show Exit.then _ _ _ _ (World.setCell (World.setCell (World.setCell (World.setCell w6 ⟨w5.heap.size, 0, none⟩ _) _ _) _ _) _ _))
          have hT := t8 (.int .u8 v0) (.int .i64 v1) (.string v2) (.slice v3 v4 v5)
          have A9 := set4_here ((hb6.block w5.heap.size (by simp)).trans tC1) (.int .u8 v0) (.int .i64 v1) (.string v2) (.slice v3 v4 v5)
          have R9 : Rep (fun g => g < (set4 w6 w5.heap.size (.int .u8 v0) (.int .i64 v1) (.string v2) (.slice v3 v4 v5)).heap.size) (set4 w6 w5.heap.size (.int .u8 v0) (.int .i64 v1) (.string v2) (.slice v3 v4 v5)) r.1 (.agg #[.int .u8 v0, .int .i64 v1, .string v2, .slice v3 v4 v5]) := hr6.keep (fun g hg => set4_farP _ _ _ _ _ _ _ (by have := HZ1.out; rcases hg with hg | hg; omega; (have := hg.1; simp at this; omega))) (fun g hg => by have := HZ1.out; rw [set4_size]; rcases hg with hg | hg; omega; (have := hg.2; omega))
          clear zB zC zA tC1 t6 t8 t7
          dsimp only [set4] at A9 hT R9
          generalize ((((w6.setCell ⟨w5.heap.size, 0, none⟩ (.int .u8 v0)).setCell ⟨w5.heap.size, 1, none⟩ (.int .i64 v1)).setCell ⟨w5.heap.size, 2, none⟩ (.string v2)).setCell ⟨w5.heap.size, 3, none⟩ (.slice v3 v4 v5)) = W9 at hT A9 R9 ⊢
          generalize w5.heap.size = p at A9 ⊢)
      all_goals
        obtain ⟨b0, b1, b2, b3, _⟩ := cells4 A9
        have KT := stext_c 4000 r.1 W9.heap.size _ W9 hdr (Nat.le_refl _) hpr R9 (Nat.le_refl _) hgr
        clear R9 hr6 A9
        go_wp2_with (go_at_call 19; refine KT.mono ?_; clear KT; rintro e w10 ⟨rfl, hb10⟩)
        go_ret2
        exact ⟨rfl, hB1.trans ((hT.trans (hb10.mono hT.size)).mono hB1.size)⟩
end Go.Proofs.YtkelncocppiepaaGreatDoor
