import Derived.Test.YtefmmgccdpfnaaaGreatDoorMSd
import Derived.Test.YtefmmgccdpfnaaaGreatDoorStX
/- The specification's StepOf; the law. -/
namespace Go.Proofs.YtefmmgccdpfnaaaGreatDoor
open Go.RowKit
open Ff
set_option linter.unusedVariables false
attribute [local irreducible] Calls

theorem state_ok {s : Text} {t : Tm} (h : stateO s = some t) : StateOk t := by
  obtain ⟨hg, hd, hp, hc⟩ := state_facts h
  exact ⟨hg, hp, hc⟩
theorem rep_low {S : Nat → Prop} {w w2 : World} {T : Tm} {v : Value} (hS : ∀ g, S g → g < w.heap.size) (hb : Below w.heap.size w w2) (hr : Rep (fun g => S g ∨ New w w2 g) w2 T v) (o : Obj) : Rep (fun g => g < (w2.alloc o).heap.size) (w2.alloc o) T v := by
  have zs : (w2.alloc o).heap.size = w2.heap.size + 1 := by simp
  have z := hb.size
  exact hr.keep (fun g hg => alloc_far _ _ (by rcases hg with h | h; have := hS g h; omega; exact h.2)) (fun g hg => by rcases hg with h | h; have := hS g h; omega; have := h.2; omega)
set_option maxRecDepth 100000 in
set_option maxHeartbeats 4000000 in
theorem sStepOf_c (s : Text) (w : World) (hl : s.length ≤ 9223372036854775807) :
    Calls Tryz.prog 11 #[.string ⟨s.toArray⟩] w fun e w' => e = .returned (stepSV (stepO s)) ∧ Below w.heap.size w w' := by
  have C := l4Read_c s w hl
  unfold stepO
  rcases hs : stateO s with _ | t
  · rw [hs] at C
    simp only [Option.bind_none, stepSV]
    clear hs
    go_enter Tryz.func11, Tryz.ntmps11
    go_wp2_with fail
    refine C.mono ?_
    rintro e w1 ⟨v, rfl, ⟨k, n, st, aa, l, c, rfl⟩, hb1, _⟩
    go_wp2_with fail
    refine bodyPost_ret (v := .tuple #[.string ⟨#[]⟩, .string ⟨#[]⟩, .bool false]) (by simp [results, Tryz.results11, go_sem]) rfl ?_
    exact ⟨rfl, hb1.alloc hb1.size _⟩
  · rw [hs] at C
    have h := state_ok hs
    simp only [Option.bind_some]
    clear hs
    have C2 : Calls Tryz.prog 35 #[.string ⟨s.toArray⟩] w fun e w1 => ∃ (x0 x1 : Int) (x2 : ByteArray) (x3 : Option Addr) (x4 x5 : Nat), e = .returned (.tuple #[.agg #[.int .u8 x0, .int .i64 x1, .string x2, .slice x3 x4 x5], .bool true]) ∧ Below w.heap.size w w1 ∧ Rep (New w w1) w1 t (.agg #[.int .u8 x0, .int .i64 x1, .string x2, .slice x3 x4 x5]) := C.mono fun e w1 h => by
      obtain ⟨v, h1, ⟨x0, x1, x2, x3, x4, x5, rfl⟩, h3, h4⟩ := h
      exact ⟨x0, x1, x2, x3, x4, x5, h1, h3, h4 t rfl⟩
    have KS : ∀ w1 (x0 x1 : Int) (x2 : ByteArray) (x3 : Option Addr) (x4 x5 : Nat), Rep (New w w1) w1 t (.agg #[.int .u8 x0, .int .i64 x1, .string x2, .slice x3 x4 x5]) → ∀ W, Below w1.heap.size w1 W →
        Calls Tryz.prog 36 #[.agg #[.int .u8 x0, .int .i64 x1, .string x2, .slice x3 x4 x5]] W (StepSP (New w w1) W (stepT t)) := fun w1 x0 x1 x2 x3 x4 x5 hr W hW =>
      sStep_c (New w w1) t _ W h (fun g hg => by have := hg.2; have := hW.size; omega) (hr.keep (fun g hg => hW.block g hg.2) (fun g hg => hg))
    unfold StepSP at KS
    have F := fun r h' => stepT_facts h.good (r := r) h'
    clear C h
    generalize stepT t = o at *
    rcases o with _ | r
    · simp only [stepSV]
      clear F
      go_enter Tryz.func11, Tryz.ntmps11
      go_wp2_with (first
        | (go_at_call 35; refine C2.mono ?_; clear C2; rintro e w1 ⟨x0, x1, x2, x3, x4, x5, rfl, hb1, hr1⟩; (have t1 : Below w1.heap.size w1 (w1.alloc (tmO x0 x1 x2 x3 x4 x5)) := (Below.refl _ _).alloc (Nat.le_refl _) _); (have K1 := KS w1 x0 x1 x2 x3 x4 x5 hr1 _ t1); clear KS)
        | (go_at_call 36; refine K1.mono ?_; clear K1; rintro e w2 ⟨z0, z1, z2, z3, z4, z5, nm, rfl, hb2, rfl⟩))
      refine bodyPost_ret (v := .tuple #[.string ⟨#[]⟩, .string ⟨#[]⟩, .bool false]) (by simp [results, Tryz.results11, go_sem]) rfl ?_
      exact ⟨rfl, (hb1.trans ((t1.trans (hb2.mono t1.size)).mono hb1.size)).alloc (by have := hb1.size; have := t1.size; have := hb2.size; omega) _⟩
    · obtain ⟨f1, f2, f3⟩ := F r rfl
      have hdp := depth_le r.1
      have KT : ∀ (z0 z1 : Int) (z2 : ByteArray) (z3 : Option Addr) (z4 z5 : Nat) W, Rep (fun g => g < W.heap.size) W r.1 (.agg #[.int .u8 z0, .int .i64 z1, .string z2, .slice z3 z4 z5]) → Calls Tryz.prog 37 #[.agg #[.int .u8 z0, .int .i64 z1, .string z2, .slice z3 z4 z5]] W fun e w' => e = .returned (.string ⟨(textN r.1).toArray⟩) ∧ Below W.heap.size W w' :=
        fun z0 z1 z2 z3 z4 z5 W hr => stext_c 4000 _ W.heap.size _ W (by omega) (Nat.le_refl _) (by omega) hr (Nat.le_refl _) f1
      simp only [stepSV]
      clear F f1 f2 f3 hdp
      obtain ⟨R, nm⟩ := r
      simp only at KS KT ⊢
      go_enter Tryz.func11, Tryz.ntmps11
      go_wp2_with (first
        | (go_at_call 35; refine C2.mono ?_; clear C2; rintro e w1 ⟨x0, x1, x2, x3, x4, x5, rfl, hb1, hr1⟩; (have t1 : Below w1.heap.size w1 (w1.alloc (tmO x0 x1 x2 x3 x4 x5)) := (Below.refl _ _).alloc (Nat.le_refl _) _); (have K1 := KS w1 x0 x1 x2 x3 x4 x5 hr1 _ t1); clear KS)
        | (go_at_call 36; refine K1.mono ?_; clear K1; rintro e w2 ⟨z0, z1, z2, z3, z4, z5, nm', rfl, hb2, hnm, hne, hr2⟩; subst nm'; (have hnb := nonempty_text hne); (have K2 := KT z0 z1 z2 z3 z4 z5 _ (rep_low (fun g hg => by have := hg.2; have := t1.size; omega) hb2 hr2 (tmO z0 z1 z2 z3 z4 z5))); clear KT hne hr2)
        | (go_at_call 37; refine K2.mono ?_; clear K2; rintro e w3 ⟨rfl, hb3⟩))
      refine bodyPost_ret (v := .tuple #[.string ⟨(textN R).toArray⟩, .string ⟨nm.toArray⟩, .bool true]) (by simp [results, Tryz.results11, go_sem]) rfl ?_
      have hB := (hb1.trans ((t1.trans (hb2.mono t1.size)).mono hb1.size)).alloc (by have := hb1.size; have := t1.size; have := hb2.size; omega) (tmO z0 z1 z2 z3 z4 z5)
      exact ⟨rfl, hB.trans (hb3.mono hB.size)⟩
end Go.Proofs.YtefmmgccdpfnaaaGreatDoor
