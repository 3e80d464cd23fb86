import Derived.Test.YtefmmgccdpfnaaaGreatDoorLdA
import Derived.Test.YtefmmgccdpfnaaaGreatDoorMLp
import Derived.Test.YtefmmgccdpfnaaaGreatDoorMSl
import Derived.Test.YtefmmgccdpfnaaaGreatDoorSuF
import Derived.Laws.StructEq
import Derived.Deep.RegionHeld3
/- Laws of chapter 4: FnStuck, FnStep. -/
namespace Go.Proofs.YtefmmgccdpfnaaaGreatDoor
open Go.RowKit
open Ff
set_option linter.unusedVariables false
attribute [local irreducible] goT runN Calls

theorem kStep (s : Text) (hs : s.length ≤ 100000) (w : World) : Calls Tryz.prog 10 #[.string ⟨s.toArray⟩] w fun e w' => e = .returned (stepSV (stepO s)) ∧ Below w.heap.size w w' := iStepOf_c s w (by omega)
theorem mStep (s : Text) (hs : s.length ≤ 100000) (w : World) : Calls Tryz.prog 11 #[.string ⟨s.toArray⟩] w fun e w' => e = .returned (stepSV (stepO s)) ∧ Below w.heap.size w w' := sStepOf_c s w (by omega)
theorem kRedex (s : Text) (hs : s.length ≤ 100000) (w : World) : Calls Tryz.prog 12 #[.string ⟨s.toArray⟩] w fun e w' => e = .returned (.tuple #[.string ⟨(redexT (redexO s)).toArray⟩, .bool (redexO s).isSome]) ∧ Below w.heap.size w w' := iRedexOf_c s w (by omega)
theorem mRedex (s : Text) (hs : s.length ≤ 100000) (w : World) : Calls Tryz.prog 29 #[.string ⟨s.toArray⟩] w fun e w' => e = .returned (.tuple #[.string ⟨(redexT (redexO s)).toArray⟩, .bool (redexO s).isSome]) ∧ Below w.heap.size w w' := sRedexOf_c s w (by omega)
theorem kState (s : Text) (hs : s.length ≤ 100000) (w : World) : Calls Tryz.prog 13 #[.string ⟨s.toArray⟩] w fun e w' => e = .returned (.bool (stateO s).isSome) ∧ Below w.heap.size w w' := iStateValid_c s w (by omega)
theorem mState (s : Text) (hs : s.length ≤ 100000) (w : World) : Calls Tryz.prog 28 #[.string ⟨s.toArray⟩] w fun e w' => e = .returned (.bool (stateO s).isSome) ∧ Below w.heap.size w w' := sStateValid_c s w (by omega)
theorem kStuck (s : Text) (hs : s.length ≤ 100000) (w : World) : Calls Tryz.prog 14 #[.string ⟨s.toArray⟩] w fun e w' => e = .returned (.bool (stuckS s)) ∧ Below w.heap.size w w' := iIsStuck_c s w (by omega)
theorem mStuck (s : Text) (hs : s.length ≤ 100000) (w : World) : Calls Tryz.prog 27 #[.string ⟨s.toArray⟩] w fun e w' => e = .returned (.bool (stuckS s)) ∧ Below w.heap.size w w' := sIsStuck_c s w (by omega)
theorem kRunBy (s : Text) (hs : s.length ≤ 100000) (w : World) : Calls Tryz.prog 16 #[.string ⟨s.toArray⟩] w fun e w' => e = .returned (byV (runsO s)) ∧ Below w.heap.size w w' := iRunBy_c s w (by omega)
theorem kPuts (s : Text) (hs : s.length ≤ 100000) (w : World) : Calls Tryz.prog 23 #[.string ⟨s.toArray⟩] w fun e w' => e = .returned (.int .i64 (cpV (runsO s))) ∧ Below w.heap.size w w' := iCountPuts_c s w (by omega)
theorem mPuts (s : Text) (hs : s.length ≤ 100000) (w : World) : Calls Tryz.prog 24 #[.string ⟨s.toArray⟩] w fun e w' => e = .returned (.int .i64 (cpV (runsO s))) ∧ Below w.heap.size w w' := sCountPuts_c s w (by omega)
theorem kLast (s : Text) (hs : s.length ≤ 100000) (w : World) : Calls Tryz.prog 21 #[.string ⟨s.toArray⟩] w fun e w' => e = .returned (lsV (runsO s)) ∧ Below w.heap.size w w' := iLast_c s w (by omega)
theorem mLast (s : Text) (hs : s.length ≤ 100000) (w : World) : Calls Tryz.prog 22 #[.string ⟨s.toArray⟩] w fun e w' => e = .returned (lsV (runsO s)) ∧ Below w.heap.size w w' := sLast_c s w (by omega)
theorem kAfter (s : Text) (k : Int) (hs : s.length ≤ 100000) (w : World) : Calls Tryz.prog 18 #[.string ⟨s.toArray⟩, .int .i64 k] w fun e w' => e = .returned (saV (saO s k)) ∧ Below w.heap.size w w' := iStateAfter_c s k w (by omega)
theorem mAfter (s : Text) (k : Int) (hs : s.length ≤ 100000) (w : World) : Calls Tryz.prog 19 #[.string ⟨s.toArray⟩, .int .i64 k] w fun e w' => e = .returned (saV (saO s k)) ∧ Below w.heap.size w w' := sStateAfter_c s k w (by omega)
set_option maxRecDepth 100000 in
theorem res_eq (a : Int) (b : Bool) (c : Int) (W : World) : (binOp BinOp.eql 30 (.agg #[.int .i64 a, .bool b, .int .i64 c]) (.agg #[.int .i64 a, .bool b, .int .i64 c])).run Tryz.prog W = .ok (.bool true) W := by
  have ht : Tryz.prog.underlying 30 = some (.struct (Tryz.prog.fieldsOf 30)) := by kernel_rfl
  have hp : Tryz.prog.stoodInHeld 30 = false := by kernel_rfl
  rw [run_eql_struct, run_equalIn_agg W 9999 _ _ _ ht hp]
  have hi : Tryz.prog.underlying 3 = some (.int .i64) := by kernel_rfl
  have hb : Tryz.prog.underlying 4 = some .bool := by kernel_rfl
  simp [go_sem, Op.eqFields]
theorem stepSV_form (o : Option (Tm × Text)) : ∃ (A B : Array UInt8), stepSV o = .tuple #[.string ⟨A⟩, .string ⟨B⟩, .bool o.isSome] := by
  rcases o with _ | r
  · exact ⟨#[], #[], rfl⟩
  · exact ⟨_, _, rfl⟩
set_option maxRecDepth 100000 in
set_option maxHeartbeats 8000000 in
theorem law_fnStuck (a : Option Addr) (l c : Nat) (a2 : Option Addr) (l2 c2 : Nat) (w : World) (h : Src w a l c) (h2 : Src w a2 l2 c2) :
    Calls Tryz.prog 6 #[.slice a l c, .slice a2 l2 c2] w fun e w' => e = .returned (.bool true) ∧ Below w.heap.size w w' := by
  by_cases hl : l ≤ 1048576
  · have hl2 : (l : Int) ≤ 1048576 := by omega
    by_cases hm : l2 ≤ 1048576
    · have hm2 : (l2 : Int) ≤ 1048576 := by omega
      go_enter Tryz.func6, Tryz.ntmps6
      go_wp2_with fail
      refine (drawIsStuck_c a l c w h).mono ?_; rintro e w1 ⟨s, rfl, hs, hb⟩
      go_wp2_with fail
      refine (kStuck s (by omega) w1).mono ?_; rintro e w2 ⟨rfl, hb2⟩; replace hb := next hb hb2; clear hb2
      go_wp2_with fail
      refine (drawStateValid_c a2 l2 c2 w2 (h2.keep hb)).mono ?_; rintro e w3 ⟨x, rfl, hx, hb2⟩; replace hb := next hb hb2; clear hb2
      have F := fun h => stuck_facts (s := s) h
      have K1 := fun w => mStuck s (by omega) w
      have K2 := fun w => kState x (by omega) w
      have K3 := fun w => mState x (by omega) w
      have K4 := fun w => kStep s (by omega) w
      have K5 := fun w => kRedex s (by omega) w
      have K6 := fun w => mRedex s (by omega) w
      have K7 := fun w => kState s (by omega) w
      have K8 := fun q hq w => kState q (show q.length ≤ 100000 from hq) w
      obtain ⟨A, B, hst⟩ := stepSV_form (stepO s)
      simp only [hst] at K4
      have hA : ∀ (X : Array UInt8), (X != X) = false := fun X => by simp
      generalize (stateO x).isSome = vx at *
      cases hB : stuckS s
      · simp only [hB] at K1
        clear F hst K7 K8 hB
        have hne := hA (redexT (redexO s)).toArray
        generalize redexT (redexO s) = RT at *
        generalize (redexO s).isSome = rb at *
        generalize (stepO s).isSome = sb at *
        clear hA
        cases vx
        all_goals
          go_wp2_with fail
          refine (K1 _).mono ?_; rintro e w4 ⟨rfl, hb2⟩; replace hb := next hb hb2; clear hb2
          go_wp2_with fail
          refine (K2 _).mono ?_; rintro e w5 ⟨rfl, hb2⟩; replace hb := next hb hb2; clear hb2
          go_wp2_with fail
          refine (K3 _).mono ?_; rintro e w6 ⟨rfl, hb2⟩; replace hb := next hb hb2; clear hb2
          go_wp2_with fail
          refine (K4 _).mono ?_; rintro e w7 ⟨rfl, hb2⟩; replace hb := next hb hb2; clear hb2
          go_wp2_with fail
          refine (K5 _).mono ?_; rintro e w8 ⟨rfl, hb2⟩; replace hb := next hb hb2; clear hb2
          cases rb
          all_goals
            go_wp2_with fail
            refine (K6 _).mono ?_; rintro e w9 ⟨rfl, hb2⟩; replace hb := next hb hb2; clear hb2
            go_wp2_with fail
            go_ret
            exact ⟨rfl, hb⟩
      · obtain ⟨f1, f2, q, f3, f4, f5⟩ := F hB
        simp only [hB] at K1
        simp only [f1, Option.isSome_none] at K4
        simp only [f2] at K7
        simp only [f3, redexT, Option.isSome_some] at K5 K6
        have K9 := K8 (textN q) (by omega)
        simp only [f4] at K9
        clear F hst hB f1 f2 f3 f4 f5 K8
        have hne := hA (textN q).toArray
        generalize textN q = RT at *
        clear hA
        cases vx
        all_goals
          go_wp2_with fail
          refine (K1 _).mono ?_; rintro e w4 ⟨rfl, hb2⟩; replace hb := next hb hb2; clear hb2
          go_wp2_with fail
          refine (K2 _).mono ?_; rintro e w5 ⟨rfl, hb2⟩; replace hb := next hb hb2; clear hb2
          go_wp2_with fail
          refine (K3 _).mono ?_; rintro e w6 ⟨rfl, hb2⟩; replace hb := next hb hb2; clear hb2
          go_wp2_with fail
          refine (K4 _).mono ?_; rintro e w7 ⟨rfl, hb2⟩; replace hb := next hb hb2; clear hb2
          go_wp2_with fail
          refine (K5 _).mono ?_; rintro e w8 ⟨rfl, hb2⟩; replace hb := next hb hb2; clear hb2
          go_wp2_with fail
          refine (K6 _).mono ?_; rintro e w9 ⟨rfl, hb2⟩; replace hb := next hb hb2; clear hb2
          go_wp2_with fail
          refine (K7 _).mono ?_; rintro e w10 ⟨rfl, hb2⟩; replace hb := next hb hb2; clear hb2
          go_wp2_with fail
          refine (K9 _).mono ?_; rintro e w11 ⟨rfl, hb2⟩; replace hb := next hb hb2; clear hb2
          go_wp2_with fail
          go_ret
          exact ⟨rfl, hb⟩
    · have hm2 : 1048576 < (l2 : Int) := by omega
      go_enter Tryz.func6, Tryz.ntmps6
      go_wp2_with fail
      go_ret
      exact ⟨rfl, Below.refl _ _⟩
  · have hl2 : 1048576 < (l : Int) := by omega
    go_enter Tryz.func6, Tryz.ntmps6
    go_wp2_with fail
    go_ret
    exact ⟨rfl, Below.refl _ _⟩
set_option maxRecDepth 100000 in
set_option maxHeartbeats 8000000 in
theorem law_fnStep (a : Option Addr) (l c : Nat) (w : World) (h : Src w a l c) :
    Calls Tryz.prog 3 #[.slice a l c] w fun e w' => e = .returned (.bool true) ∧ Below w.heap.size w w' := by
  by_cases hl : l ≤ 1048576
  · have hl2 : (l : Int) ≤ 1048576 := by omega
    go_enter Tryz.func3, Tryz.ntmps3
    go_wp2_with fail
    refine (drawStepOf_c a l c w h).mono ?_; rintro e w1 ⟨s, rfl, hs, hb⟩
    go_wp2_with fail
    have K1 := fun w => kStep s (by omega) w
    have K2 := fun w => mStep s (by omega) w
    have hA : ∀ (X : Array UInt8), (X != X) = false := fun X => by simp
    rcases hst : stepO s with _ | r
    · simp only [hst, stepSV] at K1 K2
      clear hst hA
      refine (K1 _).mono ?_; rintro e w2 ⟨rfl, hb2⟩; replace hb := next hb hb2; clear hb2
      go_wp2_with fail
      refine (K2 _).mono ?_; rintro e w3 ⟨rfl, hb2⟩; replace hb := next hb hb2; clear hb2
      go_wp2_with fail
      go_ret
      exact ⟨rfl, hb⟩
    · obtain ⟨t1, t2, t3, t4, t5, ⟨q, t6, t7⟩, t8⟩ := step_told hst
      simp only [hst, stepSV] at K1 K2
      have K3 := fun w => kRedex s (by omega) w
      simp only [t6, redexT, Option.isSome_some] at K3
      have K4 := fun w => kState s (by omega) w
      simp only [t1] at K4
      have K5 := fun w => kState (textN r.1) (by omega) w
      simp only [t2, Option.isSome_some] at K5
      have K6 := fun w => kStuck s (by omega) w
      simp only [t3] at K6
      have K7 := fun w => kClosed s (by omega) w
      have K8 := fun w => kClosed (textN r.1) (by omega) w
      have K9 := fun w => kRunBy s (by omega) w
      have K10 := fun w => kRunBy (textN r.1) (by omega) w
      have hrun : closedB (readS s) = true → closedB (readS (textN r.1)) = true → ∃ (a0 : Int) (a1 : Bool) (a2 : Int) (b0 : Int) (b1 : Bool) (b2 : Int), byV (runsO s) = .tuple #[resV3 a0 a1 a2, .bool true] ∧ byV (runsO (textN r.1)) = .tuple #[resV3 b0 b1 b2, .bool true] ∧ (a0 = 2 ∨ (a0 = b0 ∧ a1 = b1 ∧ a2 = b2)) := by
        intro h1 h2
        obtain ⟨t, ht⟩ := closedB_some h1
        obtain ⟨u, hu⟩ := closedB_some h2
        refine ⟨_, _, _, _, _, _, by unfold runsO; rw [ht]; rfl, by unfold runsO; rw [hu]; rfl, ?_⟩
        rcases t8 t u ht hu with h3 | h3
        · exact .inl h3
        · right
          unfold resT resV3 at h3
          simp only [Value.agg.injEq, Array.mk.injEq, List.cons.injEq, Value.int.injEq, Value.bool.injEq, true_and, and_true] at h3
          exact h3
      have hx := hA (textN r.1).toArray
      have hy := hA r.2.toArray
      have hlen : ¬ (s.length : Int) < ((textN q).length : Int) := by omega
      have h1500 : (textN r.1).length ≤ 1500 := t5
      clear hst hA t1 t2 t3 t5 t6 t7 t8
      generalize textN r.1 = X at *
      generalize r.2 = R at *
      generalize textN q = Q at *
      refine (K1 _).mono ?_; rintro e w2 ⟨rfl, hb2⟩; replace hb := next hb hb2; clear hb2
      go_wp2_with fail
      refine (K2 _).mono ?_; rintro e w3 ⟨rfl, hb2⟩; replace hb := next hb hb2; clear hb2
      go_wp2_with fail
      refine (K3 _).mono ?_; rintro e w4 ⟨rfl, hb2⟩; replace hb := next hb hb2; clear hb2
      go_wp2_with fail
      refine (K4 _).mono ?_; rintro e w5 ⟨rfl, hb2⟩; replace hb := next hb hb2; clear hb2
      go_wp2_with fail
      refine (K5 _).mono ?_; rintro e w6 ⟨rfl, hb2⟩; replace hb := next hb hb2; clear hb2
      go_wp2_with fail
      refine (K6 _).mono ?_; rintro e w7 ⟨rfl, hb2⟩; replace hb := next hb hb2; clear hb2
      generalize closedB (readS s) = c1 at *
      generalize closedB (readS X) = c2 at *
      cases c1
      · go_wp2_with fail
        refine (K7 _).mono ?_; rintro e w8 ⟨rfl, hb2⟩; replace hb := next hb hb2; clear hb2
        go_wp2_with fail
        go_ret
        exact ⟨rfl, hb⟩
      · cases c2
        · go_wp2_with fail
          refine (K7 _).mono ?_; rintro e w8 ⟨rfl, hb2⟩; replace hb := next hb hb2; clear hb2
          go_wp2_with fail
          refine (K8 _).mono ?_; rintro e w9 ⟨rfl, hb2⟩; replace hb := next hb hb2; clear hb2
          go_wp2_with fail
          go_ret
          exact ⟨rfl, hb⟩
        · obtain ⟨a0, a1, a2, b0, b1, b2, e1, e2, e3⟩ := hrun rfl rfl
          simp only [e1] at K9
          simp only [e2] at K10
          clear hrun e1 e2
          go_wp2_with fail
          refine (K7 _).mono ?_; rintro e w8 ⟨rfl, hb2⟩; replace hb := next hb hb2; clear hb2
          go_wp2_with fail
          refine (K8 _).mono ?_; rintro e w9 ⟨rfl, hb2⟩; replace hb := next hb hb2; clear hb2
          go_wp2_with fail
          refine (K9 _).mono ?_; rintro e w10 ⟨rfl, hb2⟩; replace hb := next hb hb2; clear hb2
          have k1 := World.alloc_heap_new w10 (.cells #[.int .i64 a0, .bool a1, .int .i64 a2] 30)
          have hb' := hb.alloc hb.size (.cells #[.int .i64 a0, .bool a1, .int .i64 a2] 30)
          go_wp2_with fail
          refine (K10 _).mono ?_; rintro e w11 ⟨rfl, hb2⟩
          have k2 := (hb2.block w10.heap.size (by simp)).trans k1
          have k3 := (Below.heap_alloc w11 (.cells #[.int .i64 b0, .bool b1, .int .i64 b2] 30) w10.heap.size (Array.getElem?_eq_some_iff.1 k2).1).trans k2
          obtain ⟨j0, j1, j2, _⟩ := cells3' k3
          have q1 := hb'.trans (hb2.mono hb'.size)
          have q2 := q1.alloc q1.size (.cells #[.int .i64 b0, .bool b1, .int .i64 b2] 30)
          clear k1 k2 k3 hb2 K7 K8
          by_cases h2 : a0 = 2
          · subst h2
            go_wp2_with fail
            go_ret
            exact ⟨rfl, q2⟩
          · obtain ⟨rfl, rfl, rfl⟩ := e3.resolve_left h2
            have hq := res_eq a0 a1 a2
            go_wp2_with fail
            go_ret
            exact ⟨rfl, q2⟩
  · have hl2 : 1048576 < (l : Int) := by omega
    go_enter Tryz.func3, Tryz.ntmps3
    go_wp2_with fail
    go_ret
    exact ⟨rfl, Below.refl _ _⟩
end Go.Proofs.YtefmmgccdpfnaaaGreatDoor

/- Laws of chapter 4: FnStateAfter, FnLastState, FnPutsLess. -/
namespace Go.Proofs.YtefmmgccdpfnaaaGreatDoor
open Go.RowKit
open Ff
set_option linter.unusedVariables false
attribute [local irreducible] goT runN Calls

theorem cpV_le (p : Tm × Nat) (h : p.2 ≤ 300) : -1 ≤ cpV (some p) ∧ cpV (some p) ≤ 300 := by
  unfold cpV
  simp only
  split <;> omega
set_option maxRecDepth 100000 in
set_option maxHeartbeats 8000000 in
theorem law_fnLastState (a : Option Addr) (l c : Nat) (w : World) (h : Src w a l c) :
    Calls Tryz.prog 5 #[.slice a l c] w fun e w' => e = .returned (.bool true) ∧ Below w.heap.size w w' := by
  by_cases hl : l ≤ 1048576
  · have hl2 : (l : Int) ≤ 1048576 := by omega
    go_enter Tryz.func5, Tryz.ntmps5
    go_wp2_with fail
    refine (drawLastState_c a l c w h).mono ?_; rintro e w1 ⟨t, rfl, ht, hb⟩
    go_wp2_with fail
    have K1 := fun w => kLast t (by omega) w
    have K2 := fun w => mLast t (by omega) w
    have K3 := fun w => kPuts t (by omega) w
    have K4 := fun w => mPuts t (by omega) w
    have hA : ∀ (X : Array UInt8), (X != X) = false := fun X => by simp
    rcases hc : closedS t with _ | T0
    · have hr : runsO t = none := by unfold runsO; rw [hc]; rfl
      simp only [hr, lsV, cpV] at K1 K2 K3 K4
      clear hr hc hA
      refine (K1 _).mono ?_; rintro e w2 ⟨rfl, hb2⟩; replace hb := next hb hb2; clear hb2
      go_wp2_with fail
      refine (K2 _).mono ?_; rintro e w3 ⟨rfl, hb2⟩; replace hb := next hb hb2; clear hb2
      go_wp2_with fail
      refine (K3 _).mono ?_; rintro e w4 ⟨rfl, hb2⟩; replace hb := next hb hb2; clear hb2
      go_wp2_with fail
      refine (K4 _).mono ?_; rintro e w5 ⟨rfl, hb2⟩; replace hb := next hb hb2; clear hb2
      go_wp2_with fail
      refine (K4 _).mono ?_; rintro e w6 ⟨rfl, hb2⟩; replace hb := next hb hb2; clear hb2
      go_wp2_with fail
      go_ret
      exact ⟨rfl, hb⟩
    · have hr : runsO t = some (goT T0 300) := by unfold runsO; rw [hc]; rfl
      obtain ⟨t1, t2, t3, t4, t5⟩ := last_told (closed_fit hc).1
      have K5 := fun w => kRunBy t (by omega) w
      have K6 := fun w => kStuck (textN (goT T0 300).1) (by omega) w
      have K7 := fun w => kState (textN (goT T0 300).1) (by omega) w
      have K8 := fun w => kAfter t ((goT T0 300).2 : Int) (by omega) w
      have K9 := fun w => kStep (textN (goT T0 300).1) (by omega) w
      have hsa : saO t ((goT T0 300).2 : Int) = some (goT T0 300).1 := by unfold saO; rw [hc]; exact t4
      have hvs := fun hv => val_step t1 hv
      simp only [hr, lsV, cpV] at K1 K2 K3 K4
      simp only [hr, byV, resT] at K5
      simp only [t3] at K6
      simp only [t1, Option.isSome_some] at K7
      simp only [hsa, saV] at K8
      have hsv := @stuckO_val (goT T0 300).1
      have hx := hA (textN (goT T0 300).1).toArray
      unfold resE at K5
      clear t1 t2 t3 t4 hr hc hsa hA
      generalize textN (goT T0 300).1 = X at *
      generalize (goT T0 300).2 = N at *
      generalize (goT T0 300).1.isVal = bv at *
      generalize stuckO (goT T0 300).1 = bs at *
      generalize isFun (goT T0 300).1 = bf at *
      generalize (numOf (goT T0 300).1 : Int) = nu at *
      generalize stepO X = so at *
      have hN0 : (0 : Int) ≤ (N : Int) := by omega
      cases bv
      · obtain ⟨a0, ha0, hs0⟩ : ∃ a0 : Int, (if bs = true then (1 : Int) else 2) = a0 ∧ ((a0 == 1) = bs ∧ (a0 == 0) = false) := ⟨_, rfl, by cases bs <;> simp⟩
        obtain ⟨hs0, hs1⟩ := hs0
        all_goals
          simp only [Bool.false_eq_true, if_false, ha0] at K3 K4 K5
          clear ha0
          clear hvs hsv
          refine (K1 _).mono ?_; rintro e w2 ⟨rfl, hb2⟩; replace hb := next hb hb2; clear hb2
          go_wp2_with fail
          refine (K2 _).mono ?_; rintro e w3 ⟨rfl, hb2⟩; replace hb := next hb hb2; clear hb2
          go_wp2_with fail
          refine (K3 _).mono ?_; rintro e w4 ⟨rfl, hb2⟩; replace hb := next hb hb2; clear hb2
          go_wp2_with fail
          refine (K4 _).mono ?_; rintro e w5 ⟨rfl, hb2⟩; replace hb := next hb hb2; clear hb2
          go_wp2_with fail
          refine (K5 _).mono ?_; rintro e w6 ⟨rfl, hb2⟩; replace hb := next hb hb2; clear hb2
          have k6 := World.alloc_heap_new w6 (.cells #[.int .i64 a0, .bool bf, .int .i64 nu] 30)
          have hb6 := hb.alloc hb.size (.cells #[.int .i64 a0, .bool bf, .int .i64 nu] 30)
          go_wp2_with fail
          generalize w6.alloc (.cells #[.int .i64 a0, .bool bf, .int .i64 nu] 30) = W6 at *
          obtain ⟨c0, _⟩ := cells3' k6
          have hlt6 := (Array.getElem?_eq_some_iff.1 k6).1
          have LB : ∀ W, Below W6.heap.size W6 W → Below W6.heap.size W6 W ∧ W.cell? ⟨w6.heap.size, 0, none⟩ = some (.int .i64 a0) := fun W hW => ⟨hW, (hW.cell (p := ⟨w6.heap.size, 0, none⟩) hlt6).trans c0⟩
          have L6 : ∀ W, Below W6.heap.size W6 W → Calls Tryz.prog 14 #[.string ⟨X.toArray⟩] W fun e W' => e = .returned (.bool bs) ∧ Below W6.heap.size W6 W' := fun W hW => (K6 W).mono fun e W' ⟨h1, h2⟩ => ⟨h1, hW.trans (h2.mono hW.size)⟩
          have L7 : ∀ W, Below W6.heap.size W6 W → Calls Tryz.prog 13 #[.string ⟨X.toArray⟩] W fun e W' => e = .returned (.bool true) ∧ Below W6.heap.size W6 W' := fun W hW => (K7 W).mono fun e W' ⟨h1, h2⟩ => ⟨h1, hW.trans (h2.mono hW.size)⟩
          clear K6 K7 k6
          go_region_held3 (fun W => Below W6.heap.size W6 W ∧ W.cell? ⟨w6.heap.size, 0, none⟩ = some (.int .i64 a0)) (first | (refine LB _ ?_; solve | (repeat' (first | assumption | exact Below.refl _ _ | refine Below.drew ?_)))) (first | (go_at_call 14; refine (L6 _ ?_).mono ?_; (solve | (repeat' (first | assumption | exact Below.refl _ _ | refine Below.drew ?_))); rintro e w7 ⟨rfl, hb7⟩) | (go_at_call 13; refine (L7 _ ?_).mono ?_; (solve | (repeat' (first | assumption | exact Below.refl _ _ | refine Below.drew ?_))); rintro e w8 ⟨rfl, hb8⟩))
          all_goals
            have q8 := hb6.trans (hb8.mono hb6.size)
            cases bs
            all_goals
              go_wp2_with fail
              go_ret
              exact ⟨rfl, q8⟩
      · have hbs : bs = false := by
          cases bs
          · rfl
          · exact absurd (hsv rfl) (by simp)
        subst hbs
        simp only [if_true] at K3 K4 K5
        simp only [hvs rfl, stepSV] at K9
        clear hvs hsv
        refine (K1 _).mono ?_; rintro e w2 ⟨rfl, hb2⟩; replace hb := next hb hb2; clear hb2
        go_wp2_with fail
        refine (K2 _).mono ?_; rintro e w3 ⟨rfl, hb2⟩; replace hb := next hb hb2; clear hb2
        go_wp2_with fail
        refine (K3 _).mono ?_; rintro e w4 ⟨rfl, hb2⟩; replace hb := next hb hb2; clear hb2
        go_wp2_with fail
        refine (K4 _).mono ?_; rintro e w5 ⟨rfl, hb2⟩; replace hb := next hb hb2; clear hb2
        go_wp2_with fail
        refine (K5 _).mono ?_; rintro e w6 ⟨rfl, hb2⟩; replace hb := next hb hb2; clear hb2
        have k6 := World.alloc_heap_new w6 (.cells #[.int .i64 0, .bool bf, .int .i64 nu] 30)
        have hb6 := hb.alloc hb.size (.cells #[.int .i64 0, .bool bf, .int .i64 nu] 30)
        go_wp2_with fail
        generalize w6.alloc (.cells #[.int .i64 0, .bool bf, .int .i64 nu] 30) = W6 at *
        obtain ⟨c0, _⟩ := cells3' k6
        have hlt6 := (Array.getElem?_eq_some_iff.1 k6).1
        have LB : ∀ W, Below W6.heap.size W6 W → Below W6.heap.size W6 W ∧ W.cell? ⟨w6.heap.size, 0, none⟩ = some (.int .i64 0) := fun W hW => ⟨hW, (hW.cell (p := ⟨w6.heap.size, 0, none⟩) hlt6).trans c0⟩
        have L6 : ∀ W, Below W6.heap.size W6 W → Calls Tryz.prog 14 #[.string ⟨X.toArray⟩] W fun e W' => e = .returned (.bool false) ∧ Below W6.heap.size W6 W' := fun W hW => (K6 W).mono fun e W' ⟨h1, h2⟩ => ⟨h1, hW.trans (h2.mono hW.size)⟩
        have L7 : ∀ W, Below W6.heap.size W6 W → Calls Tryz.prog 13 #[.string ⟨X.toArray⟩] W fun e W' => e = .returned (.bool true) ∧ Below W6.heap.size W6 W' := fun W hW => (K7 W).mono fun e W' ⟨h1, h2⟩ => ⟨h1, hW.trans (h2.mono hW.size)⟩
        clear K6 K7 k6
        go_region_held3 (fun W => Below W6.heap.size W6 W ∧ W.cell? ⟨w6.heap.size, 0, none⟩ = some (.int .i64 0)) (first | (refine LB _ ?_; solve | (repeat' (first | assumption | exact Below.refl _ _ | refine Below.drew ?_)))) (first | (go_at_call 14; refine (L6 _ ?_).mono ?_; (solve | (repeat' (first | assumption | exact Below.refl _ _ | refine Below.drew ?_))); rintro e w7 ⟨rfl, hb7⟩) | (go_at_call 13; refine (L7 _ ?_).mono ?_; (solve | (repeat' (first | assumption | exact Below.refl _ _ | refine Below.drew ?_))); rintro e w8 ⟨rfl, hb8⟩))
        all_goals
          have q8 := hb6.trans (hb8.mono hb6.size)
          go_wp2_with fail
          refine (K8 _).mono ?_; rintro e w9 ⟨rfl, hb2⟩; replace q8 := next q8 hb2; clear hb2
          go_wp2_with fail
          refine (K9 _).mono ?_; rintro e w10 ⟨rfl, hb2⟩; replace q8 := next q8 hb2; clear hb2
          go_wp2_with fail
          go_ret
          exact ⟨rfl, q8⟩
  · have hl2 : 1048576 < (l : Int) := by omega
    go_enter Tryz.func5, Tryz.ntmps5
    go_wp2_with fail
    go_ret
    exact ⟨rfl, Below.refl _ _⟩
set_option maxRecDepth 100000 in
set_option maxHeartbeats 8000000 in
theorem law_fnPutsLess (a : Option Addr) (l c : Nat) (w : World) (h : Src w a l c) :
    Calls Tryz.prog 8 #[.slice a l c] w fun e w' => e = .returned (.bool true) ∧ Below w.heap.size w w' := by
  by_cases hl : l ≤ 1048576
  · have hl2 : (l : Int) ≤ 1048576 := by omega
    go_enter Tryz.func8, Tryz.ntmps8
    go_wp2_with fail
    refine (drawStateAfter_c a l c w h).mono ?_; rintro e w1 ⟨t, k, rfl, ht, hb⟩
    go_wp2_with fail
    have K1 := fun w => kAfter t k (by omega) w
    have K2 := fun w => mAfter t k (by omega) w
    rcases hc : saO t k with _ | U
    · simp only [hc, saV] at K1 K2
      clear hc
      refine (K1 _).mono ?_; rintro e w2 ⟨rfl, hb2⟩; replace hb := next hb hb2; clear hb2
      go_wp2_with fail
      refine (K2 _).mono ?_; rintro e w3 ⟨rfl, hb2⟩; replace hb := next hb hb2; clear hb2
      go_wp2_with fail
      go_ret
      exact ⟨rfl, hb⟩
    · simp only [hc, saV] at K1 K2
      obtain ⟨T0, hT0, hsa⟩ : ∃ T0, closedS t = some T0 ∧ saT T0 k = some U := by
        unfold saO at hc
        rcases h0 : closedS t with _ | T0
        · rw [h0] at hc; cases hc
        · rw [h0] at hc; exact ⟨T0, rfl, hc⟩
      obtain ⟨n, rfl, hn3, hgo, rfl⟩ := sa_inv hsa
      have hfit := goT_fit (closed_fit hT0).1 n
      have hlen := hfit.2.1
      have hr : runsO t = some (goT T0 300) := by unfold runsO; rw [hT0]; rfl
      have hst := hfit.state
      have hsr : closedB (readS (textN (goT T0 n).1)) = true → runsO (textN (goT T0 n).1) = some (goT (goT T0 n).1 300) := by
        intro hcl
        obtain ⟨u, hu⟩ := closedB_some hcl
        have := closed_state' hu
        rw [hst] at this
        obtain rfl := Option.some.inj this
        unfold runsO
        rw [hu]
        rfl
      obtain ⟨f1, f2⟩ := left_told hgo hn3
      have K3 := fun w => kClosed (textN (goT T0 n).1) (by omega) w
      have K4 := fun w => kPuts t (by omega) w
      have K5 := fun w => kPuts (textN (goT T0 n).1) (by omega) w
      have K6 := fun w => kLast t (by omega) w
      have K7 := fun w => kLast (textN (goT T0 n).1) (by omega) w
      simp only [hr] at K4 K6
      clear hc hsa hgo hT0 hfit hr hst
      generalize textN (goT T0 n).1 = X at *
      have hpl := goT_le T0 300
      generalize goT (goT T0 n).1 300 = q at *
      generalize goT T0 300 = p at *
      refine (K1 _).mono ?_; rintro e w2 ⟨rfl, hb2⟩; replace hb := next hb hb2; clear hb2
      go_wp2_with fail
      refine (K2 _).mono ?_; rintro e w3 ⟨rfl, hb2⟩; replace hb := next hb hb2; clear hb2
      go_wp2_with fail
      generalize closedB (readS X) = c1 at *
      cases c1
      · refine (K3 _).mono ?_; rintro e w4 ⟨rfl, hb2⟩; replace hb := next hb hb2; clear hb2
        go_wp2_with fail
        go_ret
        exact ⟨rfl, hb⟩
      · have hq := hsr rfl
        simp only [hq] at K5 K7
        simp only [lsV] at K6 K7
        have hcb := cpV_le p hpl
        generalize cpV (some p) = n1 at *
        generalize cpV (some q) = m1 at *
        clear hsr hq
        refine (K3 _).mono ?_; rintro e w4 ⟨rfl, hb2⟩; replace hb := next hb hb2; clear hb2
        go_wp2_with fail
        refine (K4 _).mono ?_; rintro e w5 ⟨rfl, hb2⟩; replace hb := next hb hb2; clear hb2
        go_wp2_with fail
        refine (K5 _).mono ?_; rintro e w6 ⟨rfl, hb2⟩; replace hb := next hb hb2; clear hb2
        by_cases hn0 : n1 < 0
        · have f3 := f1 hn0
          clear f1 f2
          have F3 := Lib.hid f3
          clear f3
          go_wp2_with fail
          all_goals
            go_ret
            first
              | exact ⟨rfl, hb⟩
              | exact ⟨congrArg (fun b => Ending.returned (Value.bool b)) (by have := F3.out; simp only [Bool.or_eq_true, decide_eq_true_iff]; omega), hb⟩
        · obtain ⟨f3, f4⟩ := f2 (by omega)
          rw [← f4] at K7
          have hx : ∀ (Z : Array UInt8), (Z == Z) = true := fun Z => by simp
          have hxt := hx (textN p.1).toArray
          have hwr : IntKind.i64.wrap (n1 - (n : Int)) = n1 - (n : Int) := by rw [IntKind.wrap_i64]; omega
          clear f1 f2 f4 hx
          generalize textN p.1 = Z at *
          go_wp2_with fail
          refine (K6 _).mono ?_; rintro e w7 ⟨rfl, hb2⟩; replace hb := next hb hb2; clear hb2
          go_wp2_with fail
          refine (K7 _).mono ?_; rintro e w8 ⟨rfl, hb2⟩; replace hb := next hb hb2; clear hb2
          go_wp2_with fail
          go_ret
          exact ⟨rfl, hb⟩
  · have hl2 : 1048576 < (l : Int) := by omega
    go_enter Tryz.func8, Tryz.ntmps8
    go_wp2_with fail
    go_ret
    exact ⟨rfl, Below.refl _ _⟩
end Go.Proofs.YtefmmgccdpfnaaaGreatDoor

/- Law of chapter 4: FnStateAfter. -/
namespace Go.Proofs.YtefmmgccdpfnaaaGreatDoor
open Go.RowKit
open Ff
set_option linter.unusedVariables false
attribute [local irreducible] goT runN Calls

set_option maxRecDepth 100000 in
set_option maxHeartbeats 8000000 in
theorem law_fnStateAfter (a : Option Addr) (l c : Nat) (w : World) (h : Src w a l c) :
    Calls Tryz.prog 4 #[.slice a l c] w fun e w' => e = .returned (.bool true) ∧ Below w.heap.size w w' := by
  by_cases hl : l ≤ 1048576
  · have hl2 : (l : Int) ≤ 1048576 := by omega
    go_enter Tryz.func4, Tryz.ntmps4
    go_wp2_with fail
    refine (drawStateAfter_c a l c w h).mono ?_; rintro e w1 ⟨t, k, rfl, ht, hb⟩
    go_wp2_with fail
    have K1 := fun w => kAfter t k (by omega) w
    have K2 := fun w => mAfter t k (by omega) w
    rcases hc : saO t k with _ | U
    · simp only [hc, saV] at K1 K2
      clear hc
      refine (K1 _).mono ?_; rintro e w2 ⟨rfl, hb2⟩; replace hb := next hb hb2; clear hb2
      go_wp2_with fail
      refine (K2 _).mono ?_; rintro e w3 ⟨rfl, hb2⟩; replace hb := next hb hb2; clear hb2
      go_wp2_with fail
      go_ret
      exact ⟨rfl, hb⟩
    · simp only [hc, saV] at K1 K2
      obtain ⟨T0, hT0, hsa⟩ : ∃ T0, closedS t = some T0 ∧ saT T0 k = some U := by
        unfold saO at hc
        rcases h0 : closedS t with _ | T0
        · rw [h0] at hc; cases hc
        · rw [h0] at hc; exact ⟨T0, rfl, hc⟩
      obtain ⟨n, rfl, hn3, hgo, rfl⟩ := sa_inv hsa
      obtain ⟨hfT, hte⟩ := closed_fit hT0
      obtain ⟨hfit, hstep⟩ := mid_told hfT hgo
      have hx : ∀ (X : Array UInt8), (X != X) = false := fun X => by simp
      have hxx := hx (textN (goT T0 n).1).toArray
      have hX0 : textN (goT T0 0).1 = t := by rw [goT_zero']; exact hte.symm
      have KS : ∀ i, i < n → ∀ W, Calls Tryz.prog 10 #[.string ⟨(textN (goT T0 i).1).toArray⟩] W fun e w' => (∃ B : Text, e = .returned (.tuple #[.string ⟨(textN (goT T0 (i + 1)).1).toArray⟩, .string ⟨B.toArray⟩, .bool true])) ∧ Below W.heap.size W w' := fun i hi W => by
        obtain ⟨r, h1, h2⟩ := hstep i hi
        have hl := (hfit i (by omega)).2.1
        refine (kStep (textN (goT T0 i).1) (by omega) W).mono ?_
        rintro e w' ⟨rfl, hb⟩
        rw [h1, ← h2]
        exact ⟨⟨r.2, rfl⟩, hb⟩
      have HFIT := Lib.hid hfit
      clear hc hsa hgo hT0 hfT hstep hte hfit hx
      generalize hE : (fun i => textN (goT T0 i).1) = X at *
      have hXi : ∀ i, textN (goT T0 i).1 = X i := fun i => by rw [← hE]
      simp only [hXi] at K1 K2 hxx hX0 KS
      clear hE hXi HFIT
      obtain ⟨m, hm, hmn, hm40⟩ : ∃ m : Nat, (m : Int) = min (n : Int) 40 ∧ m ≤ n ∧ m ≤ 40 := ⟨min n 40, by omega, by omega, by omega⟩
      have HM := Lib.hid hm
      clear hm
      subst hX0
      refine (K1 _).mono ?_; rintro e w2 ⟨rfl, hb2⟩; replace hb := next hb hb2; clear hb2
      go_wp2_with fail
      refine (K2 _).mono ?_; rintro e w3 ⟨rfl, hb2⟩; replace hb := next hb hb2; clear hb2
      have hxe : (X n).toArray == (X n).toArray := by simp
      by_cases h40 : n ≤ 40
      · have h40i : (n : Int) ≤ 40 := by omega
        go_wp2_with fail
        go_loopw [9, 60] (fun v ix wr => ∃ i : Nat, i ≤ n ∧ ix = .int .i64 i ∧ v = .string ⟨(X i).toArray⟩ ∧ Below w.heap.size w wr) (fun _ ix _ => n - (intOf ix).toNat)
        case atStart => exact ⟨0, Nat.zero_le _, rfl, rfl, hb⟩
        case round =>
          obtain ⟨i, hi, rfl, rfl, hbr⟩ := hrel
          by_cases hlt : i < n
          · have K := KS i (by omega) wr
            go_wp2_with (go_at_call 10; refine K.mono ?_; clear K; rintro e w9 ⟨⟨B, rfl⟩, hb9⟩)
            exact ⟨⟨i + 1, by omega, by go_num, rfl, next hbr hb9⟩, by simp [intOf]; omega⟩
          · obtain rfl : i = n := by omega
            go_wp2_with fail
            go_ret
            first | exact ⟨rfl, hbr⟩ | exact ⟨congrArg (fun b => Ending.returned (Value.bool b)) (by simp), hbr⟩
      · have h40i : (40 : Int) < (n : Int) := by omega
        go_wp2_with fail
        go_loopw [9, 60] (fun v ix wr => ∃ i : Nat, i ≤ 40 ∧ ix = .int .i64 i ∧ v = .string ⟨(X i).toArray⟩ ∧ Below w.heap.size w wr) (fun _ ix _ => 40 - (intOf ix).toNat)
        case atStart => exact ⟨0, Nat.zero_le _, rfl, rfl, hb⟩
        case round =>
          obtain ⟨i, hi, rfl, rfl, hbr⟩ := hrel
          by_cases hlt : i < 40
          · have K := KS i (by omega) wr
            go_wp2_with (go_at_call 10; refine K.mono ?_; clear K; rintro e w9 ⟨⟨B, rfl⟩, hb9⟩)
            exact ⟨⟨i + 1, by omega, by go_num, rfl, next hbr hb9⟩, by simp [intOf]; omega⟩
          · obtain rfl : i = 40 := by omega
            go_wp2_with fail
            go_ret
            first | exact ⟨rfl, hbr⟩ | exact ⟨congrArg (fun b => Ending.returned (Value.bool b)) (by simp), hbr⟩
  · have hl2 : 1048576 < (l : Int) := by omega
    go_enter Tryz.func4, Tryz.ntmps4
    go_wp2_with fail
    go_ret
    exact ⟨rfl, Below.refl _ _⟩
end Go.Proofs.YtefmmgccdpfnaaaGreatDoor

/- Law of chapter 4: FnDetermined. -/
namespace Go.Proofs.YtefmmgccdpfnaaaGreatDoor
open Go.RowKit
open Ff
set_option linter.unusedVariables false
attribute [local irreducible] goT runN Calls

set_option maxRecDepth 100000 in
set_option maxHeartbeats 8000000 in
theorem law_fnDetermined (a : Option Addr) (l c : Nat) (w : World) (h : Src w a l c) :
    Calls Tryz.prog 7 #[.slice a l c] w fun e w' => e = .returned (.bool true) ∧ Below w.heap.size w w' := by
  by_cases hl : l ≤ 1048576
  · have hl2 : (l : Int) ≤ 1048576 := by omega
    go_enter Tryz.func7, Tryz.ntmps7
    go_wp2_with fail
    refine (drawRedexOf_c a l c w h).mono ?_; rintro e w1 ⟨s, rfl, hs, hb⟩
    go_wp2_with fail
    have K1 := fun w => kRedex s (by omega) w
    have K2 := fun w => mRedex s (by omega) w
    rcases hr : redexO s with _ | q
    · simp only [hr, redexT, Option.isSome_none] at K1 K2
      clear hr
      refine (K1 _).mono ?_; rintro e w2 ⟨rfl, hb2⟩; replace hb := next hb hb2; clear hb2
      go_wp2_with fail
      refine (K2 _).mono ?_; rintro e w3 ⟨rfl, hb2⟩; replace hb := next hb hb2; clear hb2
      go_wp2_with fail
      go_ret
      exact ⟨rfl, hb⟩
    · simp only [hr, redexT, Option.isSome_some] at K1 K2
      obtain ⟨tt, htt⟩ : ∃ tt : Nat → Text, tt = fun k => preW k ++ s ++ sufW k := ⟨_, rfl⟩
      have htk : ∀ k, tt k = preW k ++ s ++ sufW k := fun k => by rw [htt]
      have hW : ∀ k, (stateO (tt k)).isSome = true → WrapTold s k := fun k hk => wrap_told k (by rw [hr]; rfl) (by rw [← htk]; exact hk)
      have hlen : ∀ k, (tt k).length ≤ s.length + 10 := fun k => by
        rw [htk]
        rcases k with _ | _ | _ | k <;> simp [preW, sufW] <;> omega
      have e0 : (⟨#[43]⟩ ++ ⟨s.toArray⟩ ++ ⟨#[49]⟩ : ByteArray) = ⟨(tt 0).toArray⟩ := by
        show (⟨([43] : Text).toArray⟩ ++ ⟨s.toArray⟩ ++ ⟨([49] : Text).toArray⟩ : ByteArray) = _
        rw [str_app2, str_app2, htk]; rfl
      have e1 : (⟨#[61, 97]⟩ ++ ⟨s.toArray⟩ ++ ⟨#[97]⟩ : ByteArray) = ⟨(tt 1).toArray⟩ := by
        show (⟨([61, 97] : Text).toArray⟩ ++ ⟨s.toArray⟩ ++ ⟨([97] : Text).toArray⟩ : ByteArray) = _
        rw [str_app2, str_app2, htk]; rfl
      have e2 : (⟨#[63]⟩ ++ ⟨s.toArray⟩ ++ ⟨#[49, 50]⟩ : ByteArray) = ⟨(tt 2).toArray⟩ := by
        show (⟨([63] : Text).toArray⟩ ++ ⟨s.toArray⟩ ++ ⟨([49, 50] : Text).toArray⟩ : ByteArray) = _
        rw [str_app2, str_app2, htk]; rfl
      have e3 : (⟨#[40, 92, 98, 98]⟩ ++ ⟨s.toArray⟩ ++ ⟨#[41]⟩ : ByteArray) = ⟨(tt 3).toArray⟩ := by
        show (⟨([40, 92, 98, 98] : Text).toArray⟩ ++ ⟨s.toArray⟩ ++ ⟨([41] : Text).toArray⟩ : ByteArray) = _
        rw [str_app2, str_app2, htk]; rfl
      have q0 : ¬ 9223372036854775807 < 1 + s.length := by omega
      have q1 : ¬ 9223372036854775807 < 1 + s.length + 1 := by omega
      have q2 : ¬ 9223372036854775807 < 2 + s.length := by omega
      have q3 : ¬ 9223372036854775807 < 2 + s.length + 1 := by omega
      have q4 : ¬ 9223372036854775807 < 1 + s.length + 2 := by omega
      have q5 : ¬ 9223372036854775807 < 4 + s.length := by omega
      have q6 : ¬ 9223372036854775807 < 4 + s.length + 1 := by omega
      have hx : ∀ (X : Array UInt8), (X != X) = false := fun X => by simp
      have hxq := hx (textN q).toArray
      have HW := Lib.hid hW
      have HL := Lib.hid hlen
      have HR := Lib.hid hr
      have KB := fun k w => kState (tt k) (by have := hlen k; omega) w
      have KC := fun k w => kRedex (tt k) (by have := hlen k; omega) w
      have KD := fun w => kStep s (by omega) w
      have KE := fun k w => kStep (tt k) (by have := hlen k; omega) w
      have HT := Lib.hid htk
      clear hr htt htk hW hlen hx
      refine (K1 _).mono ?_; rintro e w2 ⟨rfl, hb2⟩; replace hb := next hb hb2; clear hb2
      go_wp2_with fail
      refine (K2 _).mono ?_; rintro e w3 ⟨rfl, hb2⟩; replace hb := next hb hb2; clear hb2
      go_wp2_with fail
      have R : ∀ i, i < 4 → (w3.alloc (.cells #[.string ⟨(tt 0).toArray⟩, .string ⟨(tt 1).toArray⟩, .string ⟨(tt 2).toArray⟩, .string ⟨(tt 3).toArray⟩] 9)).cell? ⟨w3.heap.size, i, none⟩ = some (.string ⟨(tt i).toArray⟩) := by
        intro i hi
        have k := row_at w3 [.string ⟨(tt 0).toArray⟩, .string ⟨(tt 1).toArray⟩, .string ⟨(tt 2).toArray⟩, .string ⟨(tt 3).toArray⟩] 9 i
        refine (show _ = _ from k).trans ?_
        rcases i with _ | _ | _ | _ | i
        all_goals first | omega | rfl
      have hlt3 : w3.heap.size < (w3.alloc (.cells #[.string ⟨(tt 0).toArray⟩, .string ⟨(tt 1).toArray⟩, .string ⟨(tt 2).toArray⟩, .string ⟨(tt 3).toArray⟩] 9)).heap.size := by simp
      have hb5 := hb.alloc hb.size (.cells #[.string ⟨(tt 0).toArray⟩, .string ⟨(tt 1).toArray⟩, .string ⟨(tt 2).toArray⟩, .string ⟨(tt 3).toArray⟩] 9)
      generalize w3.alloc (.cells #[.string ⟨(tt 0).toArray⟩, .string ⟨(tt 1).toArray⟩, .string ⟨(tt 2).toArray⟩, .string ⟨(tt 3).toArray⟩] 9) = W5 at *
      have HRW := Lib.hid R
      clear R e0 e1 e2 e3 q0 q1 q2 q3 q4 q5 q6 K1 K2
      go_loopw [54] (fun ix wr => ∃ i : Nat, i ≤ 4 ∧ ix = .int .i64 i ∧ Below w.heap.size w wr ∧ Below W5.heap.size W5 wr) (fun ix _ => 4 - (intOf ix).toNat)
      case atStart => exact ⟨0, by omega, rfl, hb5, Below.refl _ _⟩
      case round =>
        obtain ⟨i, hi, rfl, hbr, hB5⟩ := hrel
        by_cases hlt : i < 4
        · have hc := (hB5.cell (p := ⟨w3.heap.size, i, none⟩) hlt3).trans (HRW.out i hlt)
          have KBi := KB i
          have hli := HL.out i
          have hTi := HT.out i
          rcases hv : (stateO (tt i)).isSome
          · simp only [hv] at KBi
            clear hTi hv
            generalize tt i = X at *
            go_wp2_with (go_at_call 13; refine (KBi _).mono ?_; clear KBi; rintro e w9 ⟨rfl, hb9⟩)
            exact ⟨⟨i + 1, by omega, by go_num, next hbr hb9, next hB5 hb9⟩, by simp [intOf]; omega⟩
          · obtain ⟨t1, _, t3⟩ := HW.out i hv
            rw [← hTi] at t1 t3
            have KCi := KC i
            simp only [t1, HR.out, redexT, Option.isSome_some] at KCi
            simp only [hv] at KBi
            have KEi := KE i
            rcases h1 : stepO s with _ | r1
            all_goals
              rcases h2 : stepO (tt i) with _ | r2
              all_goals simp only [h1, h2, stepSV] at KD KEi
            case' none.none => clear t3
            case' none.some => clear t3
            case' some.none => clear t3
            case' some.some =>
              have hlen2 := t3 r1 r2 h1 h2
              have hA1 := (step_told h1).len
              have hA2 := (step_told h2).len
              have hwr1 : IntKind.i64.wrap (((textN r2.1).length : Int) - ((textN r1.1).length : Int)) = ((textN r2.1).length : Int) - ((textN r1.1).length : Int) := by rw [IntKind.wrap_i64]; omega
              have hwr2 : IntKind.i64.wrap (((tt i).length : Int) - (s.length : Int)) = ((tt i).length : Int) - (s.length : Int) := by rw [IntKind.wrap_i64]; omega
              have hd : (((textN r2.1).length : Int) - ((textN r1.1).length : Int) != ((tt i).length : Int) - (s.length : Int)) = false := by rw [bne_eq_false_iff_eq]; omega
              clear t3
              generalize textN r1.1 = A1 at *
              generalize textN r2.1 = A2 at *
            all_goals
              clear t1 h1 h2 hv hTi
              generalize tt i = X at *
              go_wp2_with (first
                | (go_at_call 13; refine (KBi _).mono ?_; clear KBi; rintro e w9 ⟨rfl, hb9⟩)
                | (go_at_call 12; refine (KCi _).mono ?_; clear KCi; rintro e w10 ⟨rfl, hb10⟩))
              refine (KD _).mono ?_; rintro e w11 ⟨rfl, hb11⟩
              go_wp2_with fail
              refine (KEi _).mono ?_; rintro e w12 ⟨rfl, hb12⟩
              go_wp2_with fail
              exact ⟨⟨i + 1, by omega, by go_num, next (next (next (next hbr hb9) hb10) hb11) hb12, next (next (next (next hB5 hb9) hb10) hb11) hb12⟩, by simp [intOf]; omega⟩
        · obtain rfl : i = 4 := by omega
          go_wp2_with fail
          go_ret
          exact ⟨rfl, hbr⟩
  · have hl2 : 1048576 < (l : Int) := by omega
    go_enter Tryz.func7, Tryz.ntmps7
    go_wp2_with fail
    go_ret
    exact ⟨rfl, Below.refl _ _⟩
end Go.Proofs.YtefmmgccdpfnaaaGreatDoor
