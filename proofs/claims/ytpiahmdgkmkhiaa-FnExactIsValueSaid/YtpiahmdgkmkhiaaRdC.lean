/- The program's reader of a text, function by function: the reader of terms itself. -/
import Derived.Test.YtpiahmdgkmkhiaaRdB
namespace Go.Proofs.Ytpiahmdgkmkhiaa
open Go.RowKit
open Ff

set_option maxHeartbeats 2000000 in
theorem term_step (k : Nat) (ih : TermC k) : TermC (k + 1) := by
  intro b s w h hk hl
  have C1 := next_c b s w h hl
  go_enter Try.func57, Try.ntmps57
  go_wp2_with fail
  refine byte_use C1 (fun x1 r1 w1 o1 h1 => ?_) (fun r1 w1 o1 h1 => ?_)
  · have l1 := next1_len o1
    have hr1 : r1.length < k := by omega
    have hr2 : r1.length < 1000 := by omega
    have E0 := Lib.hid (show parse (k + 1) s = pBehind (parse k) x1 r1 by simp only [parse, o1, Option.bind_some])
    clear C1 o1 l1 hk hl h
    by_cases h35 : x1.toNat = 35
    · have C2 := long_c k ih b r1 w1 h1.here hr1 hr2
      have E := Lib.hid (show pBehind (parse k) x1 r1 = pLong r1 by simp [pBehind, h35])
      have q35 : ((x1.toNat : Int) == 35) = true := by rw [h35]; rfl
      clear h35
      go_wp2_with fail
      refine term_use C2 (fun x2 r2 w2 n2 v2 o2 h2 E2 => ?_) (fun r2 w2 o2 h2 => ?_)
      · have O2 := Lib.hid o2
        clear o2 C2
        go_wp2_with fail
        go_ret
        rw [E0.out, E.out, O2.out]
        exact ⟨by rw [E2.out]; rfl, h1.then h2⟩
      · rw [E0.out, E.out, o2]
        exact ⟨rfl, rfl, r2, h1.then h2⟩
    by_cases h92 : x1.toNat = 92
    · have C2 := function_c k ih b r1 w1 h1.here hr1 hr2
      have E := Lib.hid (show pBehind (parse k) x1 r1 = pFn (parse k) r1 by simp [pBehind, h92])
      have q92 : ((x1.toNat : Int) == 92) = true := by rw [h92]; rfl
      have q35 : ((x1.toNat : Int) == 35) = false := by rw [beq_eq_false_iff_ne]; omega
      clear h35 h92
      go_wp2_with fail
      refine term_use C2 (fun x2 r2 w2 n2 v2 o2 h2 E2 => ?_) (fun r2 w2 o2 h2 => ?_)
      · have O2 := Lib.hid o2
        clear o2 C2
        go_wp2_with fail
        go_ret
        rw [E0.out, E.out, O2.out]
        exact ⟨by rw [E2.out]; rfl, h1.then h2⟩
      · rw [E0.out, E.out, o2]
        exact ⟨rfl, rfl, r2, h1.then h2⟩
    by_cases h64 : x1.toNat = 64
    · have C2 := fix_c k ih b r1 w1 h1.here hr1 hr2
      have E := Lib.hid (show pBehind (parse k) x1 r1 = pFix (parse k) r1 by simp [pBehind, h64])
      have q64 : ((x1.toNat : Int) == 64) = true := by rw [h64]; rfl
      have q35 : ((x1.toNat : Int) == 35) = false := by rw [beq_eq_false_iff_ne]; omega
      have q92 : ((x1.toNat : Int) == 92) = false := by rw [beq_eq_false_iff_ne]; omega
      clear h35 h92 h64
      go_wp2_with fail
      refine term_use C2 (fun x2 r2 w2 n2 v2 o2 h2 E2 => ?_) (fun r2 w2 o2 h2 => ?_)
      · have O2 := Lib.hid o2
        clear o2 C2
        go_wp2_with fail
        go_ret
        rw [E0.out, E.out, O2.out]
        exact ⟨by rw [E2.out]; rfl, h1.then h2⟩
      · rw [E0.out, E.out, o2]
        exact ⟨rfl, rfl, r2, h1.then h2⟩
    by_cases h40 : x1.toNat = 40
    · have C2 := app_c k ih b r1 w1 h1.here hr1 hr2
      have E := Lib.hid (show pBehind (parse k) x1 r1 = pApp (parse k) r1 by simp [pBehind, h40])
      have q40 : ((x1.toNat : Int) == 40) = true := by rw [h40]; rfl
      have q35 : ((x1.toNat : Int) == 35) = false := by rw [beq_eq_false_iff_ne]; omega
      have q92 : ((x1.toNat : Int) == 92) = false := by rw [beq_eq_false_iff_ne]; omega
      have q64 : ((x1.toNat : Int) == 64) = false := by rw [beq_eq_false_iff_ne]; omega
      clear h35 h92 h64 h40
      go_wp2_with fail
      refine term_use C2 (fun x2 r2 w2 n2 v2 o2 h2 E2 => ?_) (fun r2 w2 o2 h2 => ?_)
      · have O2 := Lib.hid o2
        clear o2 C2
        go_wp2_with fail
        go_ret
        rw [E0.out, E.out, O2.out]
        exact ⟨by rw [E2.out]; rfl, h1.then h2⟩
      · rw [E0.out, E.out, o2]
        exact ⟨rfl, rfl, r2, h1.then h2⟩
    by_cases h61 : x1.toNat = 61
    · have C2 := let_c k ih b r1 w1 h1.here hr1 hr2
      have E := Lib.hid (show pBehind (parse k) x1 r1 = pBind (parse k) r1 by simp [pBehind, h61])
      have q61 : ((x1.toNat : Int) == 61) = true := by rw [h61]; rfl
      have q35 : ((x1.toNat : Int) == 35) = false := by rw [beq_eq_false_iff_ne]; omega
      have q92 : ((x1.toNat : Int) == 92) = false := by rw [beq_eq_false_iff_ne]; omega
      have q64 : ((x1.toNat : Int) == 64) = false := by rw [beq_eq_false_iff_ne]; omega
      have q40 : ((x1.toNat : Int) == 40) = false := by rw [beq_eq_false_iff_ne]; omega
      clear h35 h92 h64 h40 h61
      go_wp2_with fail
      refine term_use C2 (fun x2 r2 w2 n2 v2 o2 h2 E2 => ?_) (fun r2 w2 o2 h2 => ?_)
      · have O2 := Lib.hid o2
        clear o2 C2
        go_wp2_with fail
        go_ret
        rw [E0.out, E.out, O2.out]
        exact ⟨by rw [E2.out]; rfl, h1.then h2⟩
      · rw [E0.out, E.out, o2]
        exact ⟨rfl, rfl, r2, h1.then h2⟩
    by_cases h43 : x1.toNat = 43
    · have C2 := operation_c k ih x1 b r1 w1 h1.here hr1 hr2
      have E := Lib.hid (show pBehind (parse k) x1 r1 = pOp (parse k) x1 r1 by simp [pBehind, h43])
      have q43 : ((x1.toNat : Int) == 43) = true := by rw [h43]; rfl
      have q35 : ((x1.toNat : Int) == 35) = false := by rw [beq_eq_false_iff_ne]; omega
      have q92 : ((x1.toNat : Int) == 92) = false := by rw [beq_eq_false_iff_ne]; omega
      have q64 : ((x1.toNat : Int) == 64) = false := by rw [beq_eq_false_iff_ne]; omega
      have q40 : ((x1.toNat : Int) == 40) = false := by rw [beq_eq_false_iff_ne]; omega
      have q61 : ((x1.toNat : Int) == 61) = false := by rw [beq_eq_false_iff_ne]; omega
      clear h35 h92 h64 h40 h61 h43
      go_wp2_with fail
      refine term_use C2 (fun x2 r2 w2 n2 v2 o2 h2 E2 => ?_) (fun r2 w2 o2 h2 => ?_)
      · have O2 := Lib.hid o2
        clear o2 C2
        go_wp2_with fail
        go_ret
        rw [E0.out, E.out, O2.out]
        exact ⟨by rw [E2.out]; rfl, h1.then h2⟩
      · rw [E0.out, E.out, o2]
        exact ⟨rfl, rfl, r2, h1.then h2⟩
    by_cases h45 : x1.toNat = 45
    · have C2 := operation_c k ih x1 b r1 w1 h1.here hr1 hr2
      have E := Lib.hid (show pBehind (parse k) x1 r1 = pOp (parse k) x1 r1 by simp [pBehind, h45])
      have q45 : ((x1.toNat : Int) == 45) = true := by rw [h45]; rfl
      have q35 : ((x1.toNat : Int) == 35) = false := by rw [beq_eq_false_iff_ne]; omega
      have q92 : ((x1.toNat : Int) == 92) = false := by rw [beq_eq_false_iff_ne]; omega
      have q64 : ((x1.toNat : Int) == 64) = false := by rw [beq_eq_false_iff_ne]; omega
      have q40 : ((x1.toNat : Int) == 40) = false := by rw [beq_eq_false_iff_ne]; omega
      have q61 : ((x1.toNat : Int) == 61) = false := by rw [beq_eq_false_iff_ne]; omega
      have q43 : ((x1.toNat : Int) == 43) = false := by rw [beq_eq_false_iff_ne]; omega
      clear h35 h92 h64 h40 h61 h43 h45
      go_wp2_with fail
      refine term_use C2 (fun x2 r2 w2 n2 v2 o2 h2 E2 => ?_) (fun r2 w2 o2 h2 => ?_)
      · have O2 := Lib.hid o2
        clear o2 C2
        go_wp2_with fail
        go_ret
        rw [E0.out, E.out, O2.out]
        exact ⟨by rw [E2.out]; rfl, h1.then h2⟩
      · rw [E0.out, E.out, o2]
        exact ⟨rfl, rfl, r2, h1.then h2⟩
    by_cases h42 : x1.toNat = 42
    · have C2 := operation_c k ih x1 b r1 w1 h1.here hr1 hr2
      have E := Lib.hid (show pBehind (parse k) x1 r1 = pOp (parse k) x1 r1 by simp [pBehind, h42])
      have q42 : ((x1.toNat : Int) == 42) = true := by rw [h42]; rfl
      have q35 : ((x1.toNat : Int) == 35) = false := by rw [beq_eq_false_iff_ne]; omega
      have q92 : ((x1.toNat : Int) == 92) = false := by rw [beq_eq_false_iff_ne]; omega
      have q64 : ((x1.toNat : Int) == 64) = false := by rw [beq_eq_false_iff_ne]; omega
      have q40 : ((x1.toNat : Int) == 40) = false := by rw [beq_eq_false_iff_ne]; omega
      have q61 : ((x1.toNat : Int) == 61) = false := by rw [beq_eq_false_iff_ne]; omega
      have q43 : ((x1.toNat : Int) == 43) = false := by rw [beq_eq_false_iff_ne]; omega
      have q45 : ((x1.toNat : Int) == 45) = false := by rw [beq_eq_false_iff_ne]; omega
      clear h35 h92 h64 h40 h61 h43 h45 h42
      go_wp2_with fail
      refine term_use C2 (fun x2 r2 w2 n2 v2 o2 h2 E2 => ?_) (fun r2 w2 o2 h2 => ?_)
      · have O2 := Lib.hid o2
        clear o2 C2
        go_wp2_with fail
        go_ret
        rw [E0.out, E.out, O2.out]
        exact ⟨by rw [E2.out]; rfl, h1.then h2⟩
      · rw [E0.out, E.out, o2]
        exact ⟨rfl, rfl, r2, h1.then h2⟩
    by_cases h63 : x1.toNat = 63
    · have C2 := choice_c k ih b r1 w1 h1.here hr1 hr2
      have E := Lib.hid (show pBehind (parse k) x1 r1 = pSel (parse k) r1 by simp [pBehind, h63])
      have q63 : ((x1.toNat : Int) == 63) = true := by rw [h63]; rfl
      have q35 : ((x1.toNat : Int) == 35) = false := by rw [beq_eq_false_iff_ne]; omega
      have q92 : ((x1.toNat : Int) == 92) = false := by rw [beq_eq_false_iff_ne]; omega
      have q64 : ((x1.toNat : Int) == 64) = false := by rw [beq_eq_false_iff_ne]; omega
      have q40 : ((x1.toNat : Int) == 40) = false := by rw [beq_eq_false_iff_ne]; omega
      have q61 : ((x1.toNat : Int) == 61) = false := by rw [beq_eq_false_iff_ne]; omega
      have q43 : ((x1.toNat : Int) == 43) = false := by rw [beq_eq_false_iff_ne]; omega
      have q45 : ((x1.toNat : Int) == 45) = false := by rw [beq_eq_false_iff_ne]; omega
      have q42 : ((x1.toNat : Int) == 42) = false := by rw [beq_eq_false_iff_ne]; omega
      clear h35 h92 h64 h40 h61 h43 h45 h42 h63
      go_wp2_with fail
      refine term_use C2 (fun x2 r2 w2 n2 v2 o2 h2 E2 => ?_) (fun r2 w2 o2 h2 => ?_)
      · have O2 := Lib.hid o2
        clear o2 C2
        go_wp2_with fail
        go_ret
        rw [E0.out, E.out, O2.out]
        exact ⟨by rw [E2.out]; rfl, h1.then h2⟩
      · rw [E0.out, E.out, o2]
        exact ⟨rfl, rfl, r2, h1.then h2⟩
    have E := Lib.hid (show pBehind (parse k) x1 r1 = if isDig x1 = true then some (Tm.num (x1.toNat - 48), r1) else if isNam x1 = true then some (Tm.var x1, r1) else none by simp [pBehind, h35, h92, h64, h40, h61, h43, h45, h42, h63])
    have q35 : ((x1.toNat : Int) == 35) = false := by rw [beq_eq_false_iff_ne]; omega
    have q92 : ((x1.toNat : Int) == 92) = false := by rw [beq_eq_false_iff_ne]; omega
    have q64 : ((x1.toNat : Int) == 64) = false := by rw [beq_eq_false_iff_ne]; omega
    have q40 : ((x1.toNat : Int) == 40) = false := by rw [beq_eq_false_iff_ne]; omega
    have q61 : ((x1.toNat : Int) == 61) = false := by rw [beq_eq_false_iff_ne]; omega
    have q43 : ((x1.toNat : Int) == 43) = false := by rw [beq_eq_false_iff_ne]; omega
    have q45 : ((x1.toNat : Int) == 45) = false := by rw [beq_eq_false_iff_ne]; omega
    have q42 : ((x1.toNat : Int) == 42) = false := by rw [beq_eq_false_iff_ne]; omega
    have q63 : ((x1.toNat : Int) == 63) = false := by rw [beq_eq_false_iff_ne]; omega
    clear h35 h92 h64 h40 h61 h43 h45 h42 h63
    cases H1 : isDig x1 with
    | true =>
      obtain ⟨b1, b1x⟩ := dig_bd H1
      replace H1 := Lib.hid H1
      go_wp2_with fail
      refine (isDigit_c x1 _).mono ?_
      rintro e w3 ⟨rfl, rfl⟩
      rw [H1.out]
      go_wp2_with fail
      go_ret
      rw [E0.out, E.out, if_pos H1.out]
      exact ⟨ret_num (by omega), h1⟩
    | false =>
      replace H1 := Lib.hid H1
      go_wp2_with fail
      refine (isDigit_c x1 _).mono ?_
      rintro e w3 ⟨rfl, rfl⟩
      rw [H1.out]
      cases H2 : isNam x1 with
      | true =>
        replace H2 := Lib.hid H2
        go_wp2_with fail
        refine (isName_c x1 _).mono ?_
        rintro e w3 ⟨rfl, rfl⟩
        rw [H2.out]
        go_wp2_with fail
        go_ret
        rw [E0.out, E.out, if_neg (by simp [H1.out]), if_pos H2.out]
        exact ⟨rfl, h1⟩
      | false =>
        replace H2 := Lib.hid H2
        go_wp2_with fail
        refine (isName_c x1 _).mono ?_
        rintro e w3 ⟨rfl, rfl⟩
        rw [H2.out]
        go_wp2_with fail
        rw [E0.out, E.out, if_neg (by simp [H1.out]), if_neg (by simp [H2.out])]
        exact ⟨rfl, rfl, r1, h1⟩
  · have e : parse (k + 1) s = none := by simp only [parse, o1, Option.bind_none]
    rw [e]
    exact ⟨rfl, rfl, r1, h1⟩
theorem term_c : ∀ k, TermC k
  | 0 => fun _ _ _ _ h => absurd h (Nat.not_lt_zero _)
  | k + 1 => term_step k (term_c k)
end Go.Proofs.Ytpiahmdgkmkhiaa
