import Derived.Test.YtmkibadkcmljnaaGreatDoorMSh
import Derived.Test.YtmkibadkcmljnaaGreatDoorSuG
import Derived.Test.YtmkibadkcmljnaaGreatDoorStJ
/- The specification's RunByPutting, CountPuts, LastState; the laws. -/
namespace Go.Proofs.YtmkibadkcmljnaaGreatDoor
open Go.RowKit
open Ff
set_option linter.unusedVariables false
attribute [local irreducible] goT runN Calls

theorem going {w w1 : World} {t : Tm} (h : StateOk t) (x0 x1 : Int) (x2 : ByteArray) (x3 : Option Addr) (x4 x5 : Nat) (hr : Rep (New w w1) w1 t (.agg #[.int .u8 x0, .int .i64 x1, .string x2, .slice x3 x4 x5])) (n : Nat) (hn : n ≤ 300) (W : World) (hW : Below w1.heap.size w1 W) :
    Calls Tryz.prog 26 #[.agg #[.int .u8 x0, .int .i64 x1, .string x2, .slice x3 x4 x5], .int .i64 (n : Int)] W fun e w' => ∃ (z0 z1 : Int) (z2 : ByteArray) (z3 : Option Addr) (z4 z5 : Nat), e = .returned (.tuple #[.agg #[.int .u8 z0, .int .i64 z1, .string z2, .slice z3 z4 z5], .int .i64 ((goT t n).2 : Int)]) ∧ Below W.heap.size W w' ∧
      Rep (fun g => g < w'.heap.size) w' (goT t n).1 (.agg #[.int .u8 z0, .int .i64 z1, .string z2, .slice z3 z4 z5]) :=
  (sGo_c (New w w1) t _ W n hn h (fun g hg => by have := hg.2; have := hW.size; omega) (hr.keep (fun g hg => hW.block g hg.2) (fun g hg => hg))).mono fun e w' ⟨z0, z1, z2, z3, z4, z5, h1, h2, h3⟩ =>
    ⟨z0, z1, z2, z3, z4, z5, h1, h2, h3.keep (fun _ _ => rfl) (fun g hg => by rcases hg with h | h; have := h.2; have := h2.size; have := hW.size; omega; exact h.2)⟩
theorem low_alloc {W : World} {T : Tm} {v : Value} (h : Rep (fun g => g < W.heap.size) W T v) (o : Obj) : Rep (fun g => g < (W.alloc o).heap.size) (W.alloc o) T v := h.keep (fun g hg => alloc_far _ _ hg) (fun g hg => by simp; omega)
theorem low_keep {W W' : World} {T : Tm} {v : Value} (h : Rep (fun g => g < W.heap.size) W T v) (hb : Below W.heap.size W W') : Rep (fun g => g < W'.heap.size) W' T v := h.keep (fun g hg => hb.block g hg) (fun g hg => by have := hb.size; omega)
set_option maxRecDepth 100000 in
set_option maxHeartbeats 4000000 in
theorem sCountPuts_c (s : Text) (w : World) (hl : s.length ≤ 9223372036854775807) :
    Calls Tryz.prog 15 #[.string ⟨s.toArray⟩] w fun e w' => e = .returned (.int .i64 (cpV (runsO s))) ∧ Below w.heap.size w w' := by
  have C := fun W => sclosed_c s W hl
  unfold runsO
  unfold ClosedPost at C
  rcases hs : closedS s with _ | t
  · rw [hs] at C
    simp only [Option.map_none, cpV]
    clear hs
    go_enter Tryz.func15, Tryz.ntmps15
    go_wp2_with (go_at_call 24; refine (C _).mono ?_; clear C; rintro e w1 ⟨hb1, v, ⟨x0, x1, x2, x3, x4, x5, rfl⟩, rfl, _⟩)
    go_ret
    exact ⟨rfl, hb1.alloc hb1.size _⟩
  · rw [hs] at C
    simp only [Option.map_some, cpV]
    have h := closed_state hs
    have hok := goT_ok h 300
    clear hs
    have KG := fun w1 x0 x1 x2 x3 x4 x5 hr W hW => going (w := w) (w1 := w1) h x0 x1 x2 x3 x4 x5 hr 300 (Nat.le_refl _) W hW
    generalize (goT t 300).1 = T at *
    generalize (goT t 300).2 = N at *
    have KV := fun (S : Nat → Prop) (w : World) z0 z1 z2 z3 z4 z5 (hr : Rep S w T (.agg #[.int .u8 z0, .int .i64 z1, .string z2, .slice z3 z4 z5])) W => val_c hok.good hr W
    clear hok h
    generalize T.isVal = bv at *
    cases bv
    all_goals
      simp only [if_true, Bool.false_eq_true, if_false]
      go_enter Tryz.func15, Tryz.ntmps15
      go_wp2_with (first
        | (go_at_call 24; refine (C _).mono ?_; clear C; rintro e w1 ⟨hb1, v, ⟨x0, x1, x2, x3, x4, x5, rfl⟩, rfl, hr1⟩; (have t1 : Below w1.heap.size w1 (w1.alloc (tmO x0 x1 x2 x3 x4 x5)) := (Below.refl _ _).alloc (Nat.le_refl _) _); (have K1 := KG w1 x0 x1 x2 x3 x4 x5 (hr1 t rfl) _ t1); clear KG hr1)
        | (go_at_call 26; refine K1.mono ?_; clear K1; rintro e w2 ⟨z0, z1, z2, z3, z4, z5, rfl, hb2, hr2⟩; (have K2 := fun W => KV _ _ z0 z1 z2 z3 z4 z5 hr2 W); clear KV)
        | (go_at_call 29; refine (K2 _).mono ?_; clear K2; rintro e w3 ⟨rfl, hb3⟩))
      go_ret
      have q2 := (hb1.trans ((t1.trans (hb2.mono t1.size)).mono hb1.size)).alloc (by have := hb1.size; have := t1.size; have := hb2.size; omega) (tmO z0 z1 z2 z3 z4 z5)
      exact ⟨rfl, q2.trans (hb3.mono q2.size)⟩
set_option maxRecDepth 100000 in
set_option maxHeartbeats 4000000 in
theorem sLast_c (s : Text) (w : World) (hl : s.length ≤ 9223372036854775807) :
    Calls Tryz.prog 17 #[.string ⟨s.toArray⟩] w fun e w' => e = .returned (lsV (runsO s)) ∧ Below w.heap.size w w' := by
  have C := fun W => sclosed_c s W hl
  unfold runsO
  unfold ClosedPost at C
  rcases hs : closedS s with _ | t
  · rw [hs] at C
    simp only [Option.map_none, lsV]
    clear hs
    go_enter Tryz.func17, Tryz.ntmps17
    go_wp2_with (go_at_call 24; refine (C _).mono ?_; clear C; rintro e w1 ⟨hb1, v, ⟨x0, x1, x2, x3, x4, x5, rfl⟩, rfl, _⟩)
    go_ret2
    exact ⟨rfl, hb1.alloc hb1.size _⟩
  · rw [hs] at C
    simp only [Option.map_some, lsV]
    have h := closed_state hs
    have hok := goT_ok h 300
    clear hs
    have KG := fun w1 x0 x1 x2 x3 x4 x5 hr W hW => going (w := w) (w1 := w1) h x0 x1 x2 x3 x4 x5 hr 300 (Nat.le_refl _) W hW
    generalize (goT t 300).1 = T at *
    generalize (goT t 300).2 = N at *
    have KT := fun (z0 z1 : Int) z2 z3 z4 z5 (W : World) (hr : Rep (fun g => g < W.heap.size) W T (.agg #[.int .u8 z0, .int .i64 z1, .string z2, .slice z3 z4 z5])) => stext_c 4000 T W.heap.size _ W (by have := hok.deep; omega) (Nat.le_refl _) (by have := hok.many; omega) hr (Nat.le_refl _) hok.good
    clear hok h
    go_enter Tryz.func17, Tryz.ntmps17
    go_wp2_with (first
      | (go_at_call 24; refine (C _).mono ?_; clear C; rintro e w1 ⟨hb1, v, ⟨x0, x1, x2, x3, x4, x5, rfl⟩, rfl, hr1⟩; (have t1 : Below w1.heap.size w1 (w1.alloc (tmO x0 x1 x2 x3 x4 x5)) := (Below.refl _ _).alloc (Nat.le_refl _) _); (have K1 := KG w1 x0 x1 x2 x3 x4 x5 (hr1 t rfl) _ t1); clear KG hr1)
      | (go_at_call 26; refine K1.mono ?_; clear K1; rintro e w2 ⟨z0, z1, z2, z3, z4, z5, rfl, hb2, hr2⟩; (have K2 := KT z0 z1 z2 z3 z4 z5 _ (low_alloc hr2 (tmO z0 z1 z2 z3 z4 z5))); clear KT)
      | (go_at_call 21; refine K2.mono ?_; clear K2; rintro e w3 ⟨rfl, hb3⟩))
    go_ret2
    have q2 := (hb1.trans ((t1.trans (hb2.mono t1.size)).mono hb1.size)).alloc (by have := hb1.size; have := t1.size; have := hb2.size; omega) (tmO z0 z1 z2 z3 z4 z5)
    exact ⟨rfl, q2.trans (hb3.mono q2.size)⟩
set_option maxRecDepth 100000 in
set_option maxHeartbeats 8000000 in
theorem sRunBy_c (s : Text) (w : World) (hl : s.length ≤ 9223372036854775807) :
    Calls Tryz.prog 12 #[.string ⟨s.toArray⟩] w fun e w' => e = .returned (byV (runsO s)) ∧ Below w.heap.size w w' := by
  have C := fun W => sclosed_c s W hl
  have B0 := BoxW.new w 29
  unfold runsO
  unfold ClosedPost at C
  rcases hs : closedS s with _ | t
  · rw [hs] at C
    simp only [Option.map_none, byV]
    clear hs
    go_enter Tryz.func12, Tryz.ntmps12
    go_wp2_with (go_at_call 24; refine (C _).mono ?_; clear C; rintro e w1 ⟨hb1, v, ⟨x0, x1, x2, x3, x4, x5, rfl⟩, rfl, _⟩; (have B1 := (B0.keep hb1).alloc (tmO x0 x1 x2 x3 x4 x5)); obtain ⟨c0, c1, c2, f0, f1, f2⟩ := cells3' B1.b)
    refine bodyPost_ret (v := .tuple #[resV3 0 false 0, .bool false]) (by simp [results, Tryz.results12, go_sem, c0, c1, c2]) rfl ?_
    exact ⟨rfl, B1.set _ _ _⟩
  · rw [hs] at C
    simp only [Option.map_some, byV]
    have h := closed_state hs
    have hok := goT_ok h 300
    clear hs
    have KG := fun w0 w1 x0 x1 x2 x3 x4 x5 hr W hW => going (w := w0) (w1 := w1) h x0 x1 x2 x3 x4 x5 hr 300 (Nat.le_refl _) W hW
    generalize (goT t 300).1 = T at *
    generalize (goT t 300).2 = N at *
    have KV := fun (S : Nat → Prop) (w : World) z0 z1 z2 z3 z4 z5 (hr : Rep S w T (.agg #[.int .u8 z0, .int .i64 z1, .string z2, .slice z3 z4 z5])) W => val_c hok.good hr W
    have KF := fun (W : World) z0 z1 z2 z3 z4 z5 (hr : Rep (fun g => g < W.heap.size) W T (.agg #[.int .u8 z0, .int .i64 z1, .string z2, .slice z3 z4 z5])) => sFault_c T _ W z0 z1 z2 z3 z4 z5 hok.good hok.deep hok.closed (fun g hg => hg) hr
    have hkn := (kind_num hok.good).1
    have hv := val_split T
    have hnf := @num_notfun T
    have hnz := @notnum_zero T
    have hKI := fun (S : Nat → Prop) (w : World) (z0 z1 : Int) (z2 : ByteArray) (z3 : Option Addr) (z4 z5 : Nat) (hr : Rep S w T (.agg #[.int .u8 z0, .int .i64 z1, .string z2, .slice z3 z4 z5])) => show (z0 == 110) = isNum T ∧ z1 = (numOf T : Int) from ⟨by rw [hr.kind.1]; exact hkn, hr.kind.2.1⟩
    unfold resT resE
    rw [hv]
    simp only [hv] at KV
    clear hok h hkn hv
    generalize isNum T = bn at *
    generalize isFun T = bf at *
    generalize stuckO T = bs at *
    generalize numOf T = k at *
    cases bn with
    | true =>
      have e := hnf rfl
      subst e
      simp only [Bool.true_or, if_true]
      go_enter Tryz.func12, Tryz.ntmps12
      go_wp2_with (first
        | (go_at_call 24; refine (C _).mono ?_; clear C; rintro e w1 ⟨hb1, v, ⟨x0, x1, x2, x3, x4, x5, rfl⟩, rfl, hr1⟩; (have B1 := (B0.keep hb1).alloc (tmO x0 x1 x2 x3 x4 x5)); (have t1 : Below w1.heap.size w1 (w1.alloc (tmO x0 x1 x2 x3 x4 x5)) := (Below.refl _ _).alloc (Nat.le_refl _) _); (have K1 := KG _ w1 x0 x1 x2 x3 x4 x5 (hr1 t rfl) _ t1); clear KG hr1)
        | (go_at_call 26; refine K1.mono ?_; clear K1; rintro e w2 ⟨z0, z1, z2, z3, z4, z5, rfl, hb2, hr2⟩; obtain ⟨hz0, rfl⟩ := hKI _ _ z0 z1 z2 z3 z4 z5 hr2; (have B2 := (B1.keep hb2).alloc (tmO z0 (k : Int) z2 z3 z4 z5)); obtain ⟨c0, c1, c2, f0, f1, f2⟩ := cells3' B2.b))
      refine bodyPost_ret (v := .tuple #[resV3 0 false (k : Int), .bool true]) (by simp [results, Tryz.results12, go_sem, c0, c1, c2]) rfl ?_
      exact ⟨rfl, B2.set _ _ _⟩
    | false =>
      obtain rfl := hnz rfl
      cases bf with
      | true =>
        simp only [Bool.or_true, if_true]
        go_enter Tryz.func12, Tryz.ntmps12
        go_wp2_with (first
          | (go_at_call 24; refine (C _).mono ?_; clear C; rintro e w1 ⟨hb1, v, ⟨x0, x1, x2, x3, x4, x5, rfl⟩, rfl, hr1⟩; (have B1 := (B0.keep hb1).alloc (tmO x0 x1 x2 x3 x4 x5)); (have t1 : Below w1.heap.size w1 (w1.alloc (tmO x0 x1 x2 x3 x4 x5)) := (Below.refl _ _).alloc (Nat.le_refl _) _); (have K1 := KG _ w1 x0 x1 x2 x3 x4 x5 (hr1 t rfl) _ t1); clear KG hr1)
          | (go_at_call 26; refine K1.mono ?_; clear K1; rintro e w2 ⟨z0, z1, z2, z3, z4, z5, rfl, hb2, hr2⟩; obtain ⟨hz0, hz1⟩ := hKI _ _ z0 z1 z2 z3 z4 z5 hr2; (have B2 := (B1.keep hb2).alloc (tmO z0 z1 z2 z3 z4 z5)); (have K2 := KV _ _ z0 z1 z2 z3 z4 z5 hr2); clear KV hz1)
          | (go_at_call 29; refine (K2 _).mono ?_; clear K2; rintro e w3 ⟨rfl, hb3⟩; (have B3 := B2.keep hb3); obtain ⟨c0, c1, c2, f0, f1, f2⟩ := cells3' B3.b))
        refine bodyPost_ret (v := .tuple #[resV3 0 true ((0 : Nat) : Int), .bool true]) (by simp [results, Tryz.results12, go_sem, c0, c1, c2]) rfl ?_
        exact ⟨rfl, B3.set _ _ _⟩
      | false =>
        cases bs
        all_goals
          simp only [Bool.or_false, Bool.false_eq_true, if_false, if_true]
          go_enter Tryz.func12, Tryz.ntmps12
          go_wp2_with (first
            | (go_at_call 24; refine (C _).mono ?_; clear C; rintro e w1 ⟨hb1, v, ⟨x0, x1, x2, x3, x4, x5, rfl⟩, rfl, hr1⟩; (have B1 := (B0.keep hb1).alloc (tmO x0 x1 x2 x3 x4 x5)); (have t1 : Below w1.heap.size w1 (w1.alloc (tmO x0 x1 x2 x3 x4 x5)) := (Below.refl _ _).alloc (Nat.le_refl _) _); (have K1 := KG _ w1 x0 x1 x2 x3 x4 x5 (hr1 t rfl) _ t1); clear KG hr1)
            | (go_at_call 26; refine K1.mono ?_; clear K1; rintro e w2 ⟨z0, z1, z2, z3, z4, z5, rfl, hb2, hr2⟩; obtain ⟨hz0, hz1⟩ := hKI _ _ z0 z1 z2 z3 z4 z5 hr2; (have B2 := (B1.keep hb2).alloc (tmO z0 z1 z2 z3 z4 z5)); (have K2 := KV _ _ z0 z1 z2 z3 z4 z5 hr2); (have k2 := alloc_here w2 (tmO z0 z1 z2 z3 z4 z5)); (have hr3 := low_alloc hr2 (tmO z0 z1 z2 z3 z4 z5)); clear KV hz1)
            | (go_at_call 29; refine (K2 _).mono ?_; clear K2; rintro e w3 ⟨rfl, hb3⟩; (have B3 := B2.keep hb3); (have k3 := (hb3.block w2.heap.size (by simp)).trans k2); obtain ⟨e0, e1, e2, e3, _⟩ := cells4 k3; (have K3 := KF _ z0 z1 z2 z3 z4 z5 (low_keep hr3 hb3)); clear KF)
            | (go_at_call 30; refine K3.mono ?_; clear K3; rintro e w4 ⟨rfl, hb4⟩; (have B4 := B3.keep hb4); obtain ⟨c0, c1, c2, f0, f1, f2⟩ := cells3' B4.b))
        · refine bodyPost_ret (v := .tuple #[resV3 2 false ((0 : Nat) : Int), .bool true]) (by simp [results, Tryz.results12, go_sem, c0, c1, c2]) rfl ?_
          exact ⟨rfl, B4.set _ _ _⟩
        · refine bodyPost_ret (v := .tuple #[resV3 1 false ((0 : Nat) : Int), .bool true]) (by simp [results, Tryz.results12, go_sem, c0, c1, c2]) rfl ?_
          exact ⟨rfl, B4.set _ _ _⟩
set_option maxHeartbeats 1000000 in
theorem law_countPuts (s : Text) (w : World) (hl : s.length ≤ 9223372036854775807) :
    Calls Tryz.prog 6 #[.string ⟨s.toArray⟩] w fun e w' => e = .returned (.bool true) ∧ Below w.heap.size w w' := by
  have C1 := sCountPuts_c s w hl
  have C2 := fun w' => iCountPuts_c s w' hl
  generalize cpV (runsO s) = v at *
  by_cases h : s.length ≤ 1048576
  · have h2 : ¬ 1048576 < (s.length : Int) := by omega
    clear h
    go_enter Tryz.func6, Tryz.ntmps6
    go_wp2_with (first | (go_at_call 15; refine C1.mono ?_; clear C1; rintro e w1 ⟨rfl, hb1⟩) | (go_at_call 16; refine (C2 _).mono ?_; clear C2; rintro e w2 ⟨rfl, hb2⟩))
    go_ret
    exact ⟨rfl, hb1.trans (hb2.mono hb1.size)⟩
  · have h2 : 1048576 < (s.length : Int) := by omega
    clear h
    go_enter Tryz.func6, Tryz.ntmps6
    go_wp2_with fail
    go_ret
    exact ⟨rfl, Below.refl _ _⟩
set_option maxHeartbeats 1000000 in
theorem law_last (s : Text) (w : World) (hl : s.length ≤ 9223372036854775807) :
    Calls Tryz.prog 7 #[.string ⟨s.toArray⟩] w fun e w' => e = .returned (.bool true) ∧ Below w.heap.size w w' := by
  have C1 := sLast_c s w hl
  have C2 := fun w' => iLast_c s w' hl
  obtain ⟨A, c, hO⟩ : ∃ (A : Array UInt8) (c : Bool), lsV (runsO s) = .tuple #[.string ⟨A⟩, .bool c] := by
    rcases runsO s with _ | r
    · exact ⟨#[], false, rfl⟩
    · exact ⟨_, true, rfl⟩
  rw [hO] at C1
  simp only [hO] at C2
  clear hO
  have hne : (A != A) = false := by simp
  by_cases h : s.length ≤ 1048576
  · have h2 : ¬ 1048576 < (s.length : Int) := by omega
    clear h
    cases c
    all_goals
      go_enter Tryz.func7, Tryz.ntmps7
      go_wp2_with (first | (go_at_call 17; refine C1.mono ?_; clear C1; rintro e w1 ⟨rfl, hb1⟩) | (go_at_call 18; refine (C2 _).mono ?_; clear C2; rintro e w2 ⟨rfl, hb2⟩))
      go_ret
      exact ⟨rfl, hb1.trans (hb2.mono hb1.size)⟩
  · have h2 : 1048576 < (s.length : Int) := by omega
    clear h
    go_enter Tryz.func7, Tryz.ntmps7
    go_wp2_with fail
    go_ret
    exact ⟨rfl, Below.refl _ _⟩
set_option maxHeartbeats 1000000 in
theorem eqRes_c (a c : Int) (b : Bool) (w : World) :
    Calls Tryz.prog 14 #[resV3 a b c, resV3 a b c] w fun e w' => e = .returned (.bool true) ∧ Below w.heap.size w w' := by
  go_enter Tryz.func14, Tryz.ntmps14
  go_wp2_with fail
  go_ret
  exact ⟨rfl, ((Below.refl _ w).alloc (Nat.le_refl _) _).alloc (by simp) _⟩
set_option maxRecDepth 100000 in
set_option maxHeartbeats 2000000 in
theorem law_runBy (s : Text) (w : World) (hl : s.length ≤ 9223372036854775807) :
    Calls Tryz.prog 5 #[.string ⟨s.toArray⟩] w fun e w' => e = .returned (.bool true) ∧ Below w.heap.size w w' := by
  have C1 := sRunBy_c s w hl
  have C2 := fun w' => iRunBy_c s w' hl
  obtain ⟨a0, a1, a2, c, hO⟩ : ∃ (a0 : Int) (a1 : Bool) (a2 : Int) (c : Bool), byV (runsO s) = .tuple #[resV3 a0 a1 a2, .bool c] := by
    rcases runsO s with _ | r
    · exact ⟨_, _, _, _, rfl⟩
    · exact ⟨_, _, _, _, rfl⟩
  rw [hO] at C1
  simp only [hO] at C2
  clear hO
  have E := fun W => eqRes_c a0 a2 a1 W
  by_cases h : s.length ≤ 1048576
  · have h2 : ¬ 1048576 < (s.length : Int) := by omega
    clear h
    cases c
    all_goals
      go_enter Tryz.func5, Tryz.ntmps5
      go_wp2_with (first
        | (go_at_call 12; refine C1.mono ?_; clear C1; rintro e w1 ⟨rfl, hb1⟩; (have k1 := World.alloc_heap_new w1 (.cells #[.int .i64 a0, .bool a1, .int .i64 a2] 29)); (have q1 := hb1.alloc hb1.size (.cells #[.int .i64 a0, .bool a1, .int .i64 a2] 29)))
        | (go_at_call 13; refine (C2 _).mono ?_; clear C2; rintro e w2 ⟨rfl, hb2⟩; (have k2 := (hb2.block w1.heap.size (by simp)).trans k1); (have q2 := (q1.trans (hb2.mono q1.size)).alloc (by have := q1.size; have := hb2.size; omega) (.cells #[.int .i64 a0, .bool a1, .int .i64 a2] 29)); (have k3 := (Below.heap_alloc w2 (.cells #[.int .i64 a0, .bool a1, .int .i64 a2] 29) w1.heap.size (Array.getElem?_eq_some_iff.1 k2).1).trans k2); obtain ⟨c0, c1, c2, _⟩ := cells3' k3)
        | (go_at_call 14; refine (E _).mono ?_; clear E; rintro e w5 ⟨rfl, hb5⟩))
      go_ret
      exact ⟨rfl, q2.trans (hb5.mono q2.size)⟩
  · have h2 : 1048576 < (s.length : Int) := by omega
    clear h
    go_enter Tryz.func5, Tryz.ntmps5
    go_wp2_with fail
    go_ret
    exact ⟨rfl, Below.refl _ _⟩
end Go.Proofs.YtmkibadkcmljnaaGreatDoor
