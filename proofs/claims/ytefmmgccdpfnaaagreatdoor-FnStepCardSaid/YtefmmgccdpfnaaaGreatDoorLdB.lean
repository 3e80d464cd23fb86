import Derived.Test.YtefmmgccdpfnaaaGreatDoorLdA
import Derived.Test.YtefmmgccdpfnaaaGreatDoorMLp
import Derived.Test.YtefmmgccdpfnaaaGreatDoorMSl
import Derived.Test.YtefmmgccdpfnaaaGreatDoorSuF
import Derived.Laws.StructEq
/- Laws of chapter 4: FnStuck, FnStep. -/
namespace Go.Proofs.YtefmmgccdpfnaaaGreatDoor
open Go.RowKit
open Ff
set_option linter.unusedVariables false
attribute [local irreducible] goT runN Calls

theorem kStep (s : Text) (hs : s.length ≤ 100000) (w : World) : Calls Tryz.prog 10 #[.string ⟨s.toArray⟩] w fun e w' => e = .returned (stepSV (stepO s)) ∧ Below w.heap.size w w' := iStepOf_c s w (by omega)
theorem mStep (s : Text) (hs : s.length ≤ 100000) (w : World) : Calls Tryz.prog 11 #[.string ⟨s.toArray⟩] w fun e w' => e = .returned (stepSV (stepO s)) ∧ Below w.heap.size w w' := sStepOf_c s w (by omega)
theorem kRedex (s : Text) (hs : s.length ≤ 100000) (w : World) : Calls Tryz.prog 12 #[.string ⟨s.toArray⟩] w fun e w' => e = .returned (.tuple #[.string ⟨(redexT (redexO s)).toArray⟩, .bool (redexO s).isSome]) ∧ Below w.heap.size w w' := iRedexOf_c s w (by omega)
theorem mRedex (s : Text) (hs : s.length ≤ 100000) (w : World) : Calls Tryz.prog 29 #[.string ⟨s.toArray⟩] w fun e w' => e = .returned (.tuple #[.string ⟨(redexT (redexO s)).toArray⟩, .bool (redexO s).isSome]) ∧ Below w.heap.size w w' := sRedexOf_c s w (by omega)
theorem kState (s : Text) (hs : s.length ≤ 100000) (w : World) : Calls Tryz.prog 13 #[.string ⟨s.toArray⟩] w fun e w' => e = .returned (.bool (stateO s).isSome) ∧ Below w.heap.size w w' := iStateValid_c s w (by omega)
theorem mState (s : Text) (hs : s.length ≤ 100000) (w : World) : Calls Tryz.prog 28 #[.string ⟨s.toArray⟩] w fun e w' => e = .returned (.bool (stateO s).isSome) ∧ Below w.heap.size w w' := sStateValid_c s w (by omega)
theorem kStuck (s : Text) (hs : s.length ≤ 100000) (w : World) : Calls Tryz.prog 14 #[.string ⟨s.toArray⟩] w fun e w' => e = .returned (.bool (stuckS s)) ∧ Below w.heap.size w w' := iIsStuck_c s w (by omega)
theorem mStuck (s : Text) (hs : s.length ≤ 100000) (w : World) : Calls Tryz.prog 27 #[.string ⟨s.toArray⟩] w fun e w' => e = .returned (.bool (stuckS s)) ∧ Below w.heap.size w w' := sIsStuck_c s w (by omega)
theorem kRunBy (s : Text) (hs : s.length ≤ 100000) (w : World) : Calls Tryz.prog 16 #[.string ⟨s.toArray⟩] w fun e w' => e = .returned (byV (runsO s)) ∧ Below w.heap.size w w' := iRunBy_c s w (by omega)
theorem kPuts (s : Text) (hs : s.length ≤ 100000) (w : World) : Calls Tryz.prog 23 #[.string ⟨s.toArray⟩] w fun e w' => e = .returned (.int .i64 (cpV (runsO s))) ∧ Below w.heap.size w w' := iCountPuts_c s w (by omega)
theorem mPuts (s : Text) (hs : s.length ≤ 100000) (w : World) : Calls Tryz.prog 24 #[.string ⟨s.toArray⟩] w fun e w' => e = .returned (.int .i64 (cpV (runsO s))) ∧ Below w.heap.size w w' := sCountPuts_c s w (by omega)
theorem kLast (s : Text) (hs : s.length ≤ 100000) (w : World) : Calls Tryz.prog 21 #[.string ⟨s.toArray⟩] w fun e w' => e = .returned (lsV (runsO s)) ∧ Below w.heap.size w w' := iLast_c s w (by omega)
theorem mLast (s : Text) (hs : s.length ≤ 100000) (w : World) : Calls Tryz.prog 22 #[.string ⟨s.toArray⟩] w fun e w' => e = .returned (lsV (runsO s)) ∧ Below w.heap.size w w' := sLast_c s w (by omega)
theorem kAfter (s : Text) (k : Int) (hs : s.length ≤ 100000) (w : World) : Calls Tryz.prog 18 #[.string ⟨s.toArray⟩, .int .i64 k] w fun e w' => e = .returned (saV (saO s k)) ∧ Below w.heap.size w w' := iStateAfter_c s k w (by omega)
theorem mAfter (s : Text) (k : Int) (hs : s.length ≤ 100000) (w : World) : Calls Tryz.prog 19 #[.string ⟨s.toArray⟩, .int .i64 k] w fun e w' => e = .returned (saV (saO s k)) ∧ Below w.heap.size w w' := sStateAfter_c s k w (by omega)
set_option maxRecDepth 100000 in
theorem res_eq (a : Int) (b : Bool) (c : Int) (W : World) : (binOp BinOp.eql 30 (.agg #[.int .i64 a, .bool b, .int .i64 c]) (.agg #[.int .i64 a, .bool b, .int .i64 c])).run Tryz.prog W = .ok (.bool true) W := by
  have ht : Tryz.prog.underlying 30 = some (.struct (Tryz.prog.fieldsOf 30)) := by kernel_rfl
  have hp : Tryz.prog.stoodInHeld 30 = false := by kernel_rfl
  rw [run_eql_struct, run_equalIn_agg W 9999 _ _ _ ht hp]
  have hi : Tryz.prog.underlying 3 = some (.int .i64) := by kernel_rfl
  have hb : Tryz.prog.underlying 4 = some .bool := by kernel_rfl
  simp [go_sem, Op.eqFields]
theorem stepSV_form (o : Option (Tm × Text)) : ∃ (A B : Array UInt8), stepSV o = .tuple #[.string ⟨A⟩, .string ⟨B⟩, .bool o.isSome] := by
  rcases o with _ | r
  · exact ⟨#[], #[], rfl⟩
  · exact ⟨_, _, rfl⟩
set_option maxRecDepth 100000 in
set_option maxHeartbeats 8000000 in
theorem law_fnStuck (a : Option Addr) (l c : Nat) (a2 : Option Addr) (l2 c2 : Nat) (w : World) (h : Src w a l c) (h2 : Src w a2 l2 c2) :
    Calls Tryz.prog 6 #[.slice a l c, .slice a2 l2 c2] w fun e w' => e = .returned (.bool true) ∧ Below w.heap.size w w' := by
  by_cases hl : l ≤ 1048576
  · have hl2 : (l : Int) ≤ 1048576 := by omega
    by_cases hm : l2 ≤ 1048576
    · have hm2 : (l2 : Int) ≤ 1048576 := by omega
      go_enter Tryz.func6, Tryz.ntmps6
      go_wp2_with fail
      refine (drawIsStuck_c a l c w h).mono ?_; rintro e w1 ⟨s, rfl, hs, hb⟩
      go_wp2_with fail
      refine (kStuck s (by omega) w1).mono ?_; rintro e w2 ⟨rfl, hb2⟩; replace hb := next hb hb2; clear hb2
      go_wp2_with fail
      refine (drawStateValid_c a2 l2 c2 w2 (h2.keep hb)).mono ?_; rintro e w3 ⟨x, rfl, hx, hb2⟩; replace hb := next hb hb2; clear hb2
      have F := fun h => stuck_facts (s := s) h
      have K1 := fun w => mStuck s (by omega) w
      have K2 := fun w => kState x (by omega) w
      have K3 := fun w => mState x (by omega) w
      have K4 := fun w => kStep s (by omega) w
      have K5 := fun w => kRedex s (by omega) w
      have K6 := fun w => mRedex s (by omega) w
      have K7 := fun w => kState s (by omega) w
      have K8 := fun q hq w => kState q (show q.length ≤ 100000 from hq) w
      obtain ⟨A, B, hst⟩ := stepSV_form (stepO s)
      simp only [hst] at K4
      have hA : ∀ (X : Array UInt8), (X != X) = false := fun X => by simp
      generalize (stateO x).isSome = vx at *
      cases hB : stuckS s
      · simp only [hB] at K1
        clear F hst K7 K8 hB
        have hne := hA (redexT (redexO s)).toArray
        generalize redexT (redexO s) = RT at *
        generalize (redexO s).isSome = rb at *
        generalize (stepO s).isSome = sb at *
        clear hA
        cases vx
        all_goals
          go_wp2_with fail
          refine (K1 _).mono ?_; rintro e w4 ⟨rfl, hb2⟩; replace hb := next hb hb2; clear hb2
          go_wp2_with fail
          refine (K2 _).mono ?_; rintro e w5 ⟨rfl, hb2⟩; replace hb := next hb hb2; clear hb2
          go_wp2_with fail
          refine (K3 _).mono ?_; rintro e w6 ⟨rfl, hb2⟩; replace hb := next hb hb2; clear hb2
          go_wp2_with fail
          refine (K4 _).mono ?_; rintro e w7 ⟨rfl, hb2⟩; replace hb := next hb hb2; clear hb2
          go_wp2_with fail
          refine (K5 _).mono ?_; rintro e w8 ⟨rfl, hb2⟩; replace hb := next hb hb2; clear hb2
          cases rb
          all_goals
            go_wp2_with fail
            refine (K6 _).mono ?_; rintro e w9 ⟨rfl, hb2⟩; replace hb := next hb hb2; clear hb2
            go_wp2_with fail
            go_ret
            exact ⟨rfl, hb⟩
      · obtain ⟨f1, f2, q, f3, f4, f5⟩ := F hB
        simp only [hB] at K1
        simp only [f1, Option.isSome_none] at K4
        simp only [f2] at K7
        simp only [f3, redexT, Option.isSome_some] at K5 K6
        have K9 := K8 (textN q) (by omega)
        simp only [f4] at K9
        clear F hst hB f1 f2 f3 f4 f5 K8
        have hne := hA (textN q).toArray
        generalize textN q = RT at *
        clear hA
        cases vx
        all_goals
          go_wp2_with fail
          refine (K1 _).mono ?_; rintro e w4 ⟨rfl, hb2⟩; replace hb := next hb hb2; clear hb2
          go_wp2_with fail
          refine (K2 _).mono ?_; rintro e w5 ⟨rfl, hb2⟩; replace hb := next hb hb2; clear hb2
          go_wp2_with fail
          refine (K3 _).mono ?_; rintro e w6 ⟨rfl, hb2⟩; replace hb := next hb hb2; clear hb2
          go_wp2_with fail
          refine (K4 _).mono ?_; rintro e w7 ⟨rfl, hb2⟩; replace hb := next hb hb2; clear hb2
          go_wp2_with fail
          refine (K5 _).mono ?_; rintro e w8 ⟨rfl, hb2⟩; replace hb := next hb hb2; clear hb2
          go_wp2_with fail
          refine (K6 _).mono ?_; rintro e w9 ⟨rfl, hb2⟩; replace hb := next hb hb2; clear hb2
          go_wp2_with fail
          refine (K7 _).mono ?_; rintro e w10 ⟨rfl, hb2⟩; replace hb := next hb hb2; clear hb2
          go_wp2_with fail
          refine (K9 _).mono ?_; rintro e w11 ⟨rfl, hb2⟩; replace hb := next hb hb2; clear hb2
          go_wp2_with fail
          go_ret
          exact ⟨rfl, hb⟩
    · have hm2 : 1048576 < (l2 : Int) := by omega
      go_enter Tryz.func6, Tryz.ntmps6
      go_wp2_with fail
      go_ret
      exact ⟨rfl, Below.refl _ _⟩
  · have hl2 : 1048576 < (l : Int) := by omega
    go_enter Tryz.func6, Tryz.ntmps6
    go_wp2_with fail
    go_ret
    exact ⟨rfl, Below.refl _ _⟩
set_option maxRecDepth 100000 in
set_option maxHeartbeats 8000000 in
theorem law_fnStep (a : Option Addr) (l c : Nat) (w : World) (h : Src w a l c) :
    Calls Tryz.prog 3 #[.slice a l c] w fun e w' => e = .returned (.bool true) ∧ Below w.heap.size w w' := by
  by_cases hl : l ≤ 1048576
  · have hl2 : (l : Int) ≤ 1048576 := by omega
    go_enter Tryz.func3, Tryz.ntmps3
    go_wp2_with fail
    refine (drawStepOf_c a l c w h).mono ?_; rintro e w1 ⟨s, rfl, hs, hb⟩
    go_wp2_with fail
    have K1 := fun w => kStep s (by omega) w
    have K2 := fun w => mStep s (by omega) w
    have hA : ∀ (X : Array UInt8), (X != X) = false := fun X => by simp
    rcases hst : stepO s with _ | r
    · simp only [hst, stepSV] at K1 K2
      clear hst hA
      refine (K1 _).mono ?_; rintro e w2 ⟨rfl, hb2⟩; replace hb := next hb hb2; clear hb2
      go_wp2_with fail
      refine (K2 _).mono ?_; rintro e w3 ⟨rfl, hb2⟩; replace hb := next hb hb2; clear hb2
      go_wp2_with fail
      go_ret
      exact ⟨rfl, hb⟩
    · obtain ⟨t1, t2, t3, t4, t5, ⟨q, t6, t7⟩, t8⟩ := step_told hst
      simp only [hst, stepSV] at K1 K2
      have K3 := fun w => kRedex s (by omega) w
      simp only [t6, redexT, Option.isSome_some] at K3
      have K4 := fun w => kState s (by omega) w
      simp only [t1] at K4
      have K5 := fun w => kState (textN r.1) (by omega) w
      simp only [t2, Option.isSome_some] at K5
      have K6 := fun w => kStuck s (by omega) w
      simp only [t3] at K6
      have K7 := fun w => kClosed s (by omega) w
      have K8 := fun w => kClosed (textN r.1) (by omega) w
      have K9 := fun w => kRunBy s (by omega) w
      have K10 := fun w => kRunBy (textN r.1) (by omega) w
      have hrun : closedB (readS s) = true → closedB (readS (textN r.1)) = true → ∃ (a0 : Int) (a1 : Bool) (a2 : Int) (b0 : Int) (b1 : Bool) (b2 : Int), byV (runsO s) = .tuple #[resV3 a0 a1 a2, .bool true] ∧ byV (runsO (textN r.1)) = .tuple #[resV3 b0 b1 b2, .bool true] ∧ (a0 = 2 ∨ (a0 = b0 ∧ a1 = b1 ∧ a2 = b2)) := by
        intro h1 h2
        obtain ⟨t, ht⟩ := closedB_some h1
        obtain ⟨u, hu⟩ := closedB_some h2
        refine ⟨_, _, _, _, _, _, by unfold runsO; rw [ht]; rfl, by unfold runsO; rw [hu]; rfl, ?_⟩
        rcases t8 t u ht hu with h3 | h3
        · exact .inl h3
        · right
          unfold resT resV3 at h3
          simp only [Value.agg.injEq, Array.mk.injEq, List.cons.injEq, Value.int.injEq, Value.bool.injEq, true_and, and_true] at h3
          exact h3
      have hx := hA (textN r.1).toArray
      have hy := hA r.2.toArray
      have hlen : ¬ (s.length : Int) < ((textN q).length : Int) := by omega
      have h1500 : (textN r.1).length ≤ 1500 := t5
      clear hst hA t1 t2 t3 t5 t6 t7 t8
      generalize textN r.1 = X at *
      generalize r.2 = R at *
      generalize textN q = Q at *
      refine (K1 _).mono ?_; rintro e w2 ⟨rfl, hb2⟩; replace hb := next hb hb2; clear hb2
      go_wp2_with fail
      refine (K2 _).mono ?_; rintro e w3 ⟨rfl, hb2⟩; replace hb := next hb hb2; clear hb2
      go_wp2_with fail
      refine (K3 _).mono ?_; rintro e w4 ⟨rfl, hb2⟩; replace hb := next hb hb2; clear hb2
      go_wp2_with fail
      refine (K4 _).mono ?_; rintro e w5 ⟨rfl, hb2⟩; replace hb := next hb hb2; clear hb2
      go_wp2_with fail
      refine (K5 _).mono ?_; rintro e w6 ⟨rfl, hb2⟩; replace hb := next hb hb2; clear hb2
      go_wp2_with fail
      refine (K6 _).mono ?_; rintro e w7 ⟨rfl, hb2⟩; replace hb := next hb hb2; clear hb2
      generalize closedB (readS s) = c1 at *
      generalize closedB (readS X) = c2 at *
      cases c1
      · go_wp2_with fail
        refine (K7 _).mono ?_; rintro e w8 ⟨rfl, hb2⟩; replace hb := next hb hb2; clear hb2
        go_wp2_with fail
        go_ret
        exact ⟨rfl, hb⟩
      · cases c2
        · go_wp2_with fail
          refine (K7 _).mono ?_; rintro e w8 ⟨rfl, hb2⟩; replace hb := next hb hb2; clear hb2
          go_wp2_with fail
          refine (K8 _).mono ?_; rintro e w9 ⟨rfl, hb2⟩; replace hb := next hb hb2; clear hb2
          go_wp2_with fail
          go_ret
          exact ⟨rfl, hb⟩
        · obtain ⟨a0, a1, a2, b0, b1, b2, e1, e2, e3⟩ := hrun rfl rfl
          simp only [e1] at K9
          simp only [e2] at K10
          clear hrun e1 e2
          go_wp2_with fail
          refine (K7 _).mono ?_; rintro e w8 ⟨rfl, hb2⟩; replace hb := next hb hb2; clear hb2
          go_wp2_with fail
          refine (K8 _).mono ?_; rintro e w9 ⟨rfl, hb2⟩; replace hb := next hb hb2; clear hb2
          go_wp2_with fail
          refine (K9 _).mono ?_; rintro e w10 ⟨rfl, hb2⟩; replace hb := next hb hb2; clear hb2
          have k1 := World.alloc_heap_new w10 (.cells #[.int .i64 a0, .bool a1, .int .i64 a2] 30)
          have hb' := hb.alloc hb.size (.cells #[.int .i64 a0, .bool a1, .int .i64 a2] 30)
          go_wp2_with fail
          refine (K10 _).mono ?_; rintro e w11 ⟨rfl, hb2⟩
          have k2 := (hb2.block w10.heap.size (by simp)).trans k1
          have k3 := (Below.heap_alloc w11 (.cells #[.int .i64 b0, .bool b1, .int .i64 b2] 30) w10.heap.size (Array.getElem?_eq_some_iff.1 k2).1).trans k2
          obtain ⟨j0, j1, j2, _⟩ := cells3' k3
          have q1 := hb'.trans (hb2.mono hb'.size)
          have q2 := q1.alloc q1.size (.cells #[.int .i64 b0, .bool b1, .int .i64 b2] 30)
          clear k1 k2 k3 hb2 K7 K8
          by_cases h2 : a0 = 2
          · subst h2
            go_wp2_with fail
            go_ret
            exact ⟨rfl, q2⟩
          · obtain ⟨rfl, rfl, rfl⟩ := e3.resolve_left h2
            have hq := res_eq a0 a1 a2
            go_wp2_with fail
            go_ret
            exact ⟨rfl, q2⟩
  · have hl2 : 1048576 < (l : Int) := by omega
    go_enter Tryz.func3, Tryz.ntmps3
    go_wp2_with fail
    go_ret
    exact ⟨rfl, Below.refl _ _⟩
end Go.Proofs.YtefmmgccdpfnaaaGreatDoor
