/- The program's reader of a text, function by function: what calls the reader of terms, and that one itself. -/
import Derived.Test.YtpiahmdgkmkhiaaRdA
namespace Go.Proofs.Ytpiahmdgkmkhiaa
open Go.RowKit
open Ff
set_option linter.unusedVariables false

set_option maxHeartbeats 400000 in
theorem name_c (b : Nat) (s : Text) (w : World) (h : Rd0 b s w) (hl : s.length < 1000) :
    Calls Try.prog 82 #[.pointer (some ⟨b, 0, none⟩)] w (BytePost b w (name1 s)) := by
  have C := next_c b s w h hl
  go_enter Try.func82, Try.ntmps82
  go_wp2_with fail
  refine byte_use C (fun c r w1 ho h1 => ?_) (fun r w1 ho h1 => ?_)
  · cases s with
    | nil => simp [next1] at ho
    | cons a s =>
      simp only [next1, Option.some.injEq, Prod.mk.injEq] at ho
      obtain ⟨rfl, rfl⟩ := ho
      cases hn : isNam a with
      | true =>
        have Hn := Lib.hid hn; clear hn
        go_wp2_with (go_at_call 68; refine (isName_c a _).mono ?_; rintro e w' ⟨rfl, rfl⟩; rw [Hn.out])
        go_ret
        have e : name1 (a :: s) = some (a, s) := by simp [name1, Hn.out]
        rw [e]
        exact ⟨rfl, h1⟩
      | false =>
        have Hn := Lib.hid hn; clear hn
        go_wp2_with (go_at_call 68; refine (isName_c a _).mono ?_; rintro e w' ⟨rfl, rfl⟩; rw [Hn.out])
        have e : name1 (a :: s) = none := by simp [name1, Hn.out]
        rw [e]
        exact ⟨rfl, rfl, s, h1⟩
  · cases s with
    | nil => exact ⟨rfl, rfl, r, h1⟩
    | cons a s => simp [next1] at ho
/-- GEN -/
def TermC (k : Nat) : Prop := ∀ (b : Nat) (s : Text) (w : World), Rd0 b s w → s.length < k → s.length < 1000 → Calls Try.prog 57 #[.pointer (some ⟨b, 0, none⟩)] w (TermPost b w (parse k s))

set_option maxHeartbeats 1000000 in
theorem function_c (k : Nat) (ih : TermC k) (b : Nat) (s : Text) (w : World) (h : Rd0 b s w) (hk : s.length < k) (hl : s.length < 1000) :
    Calls Try.prog 72 #[.pointer (some ⟨b, 0, none⟩)] w (TermPost b w (pFn (parse k) s)) := by
  go_enter Try.func72, Try.ntmps72
  have C1 := name_c b s w h (by omega)
  go_wp2_with fail
  refine byte_use C1 (fun x1 r1 w1 o1 h1 => ?_) (fun r1 w1 o1 h1 => ?_)
  · have l1 := name1_len o1
    clear C1
    have O1 := Lib.hid o1; clear o1
    have C2 := ih b r1 w1 h1.here (by omega) (by omega)
    go_wp2_with fail
    refine term_use C2 (fun x2 r2 w2 n2 v2 o2 h2 E2 => ?_) (fun r2 w2 o2 h2 => ?_)
    · have l2 := parse_len _ _ _ _ o2
      clear C2
      have O2 := Lib.hid o2; clear o2
      go_wp2_with fail
      go_ret
      simp only [pFn, O1.out, O2.out, Option.bind_some]
      exact ⟨by simp only [enc, E2.out]; rfl, ((h1).then h2)⟩
    · have e : (pFn (parse k) s) = none := by simp only [pFn, O1.out, o2, Option.bind_some, Option.bind_none]
      rw [e]
      exact ⟨rfl, rfl, r2, ((h1).then h2)⟩
  · have e : (pFn (parse k) s) = none := by simp only [pFn, o1, Option.bind_none]
    rw [e]
    exact ⟨rfl, rfl, r1, h1⟩

set_option maxHeartbeats 1000000 in
theorem let_c (k : Nat) (ih : TermC k) (b : Nat) (s : Text) (w : World) (h : Rd0 b s w) (hk : s.length < k) (hl : s.length < 1000) :
    Calls Try.prog 75 #[.pointer (some ⟨b, 0, none⟩)] w (TermPost b w (pBind (parse k) s)) := by
  go_enter Try.func75, Try.ntmps75
  have C1 := name_c b s w h (by omega)
  go_wp2_with fail
  refine byte_use C1 (fun x1 r1 w1 o1 h1 => ?_) (fun r1 w1 o1 h1 => ?_)
  · have l1 := name1_len o1
    clear C1
    have O1 := Lib.hid o1; clear o1
    have C2 := ih b r1 w1 h1.here (by omega) (by omega)
    go_wp2_with fail
    refine term_use C2 (fun x2 r2 w2 n2 v2 o2 h2 E2 => ?_) (fun r2 w2 o2 h2 => ?_)
    · have l2 := parse_len _ _ _ _ o2
      clear C2
      have O2 := Lib.hid o2; clear o2
      have C3 := ih b r2 w2 h2.here (by omega) (by omega)
      go_wp2_with fail
      refine term_use C3 (fun x3 r3 w3 n3 v3 o3 h3 E3 => ?_) (fun r3 w3 o3 h3 => ?_)
      · have l3 := parse_len _ _ _ _ o3
        clear C3
        have O3 := Lib.hid o3; clear o3
        go_wp2_with fail
        go_ret
        simp only [pBind, O1.out, O2.out, O3.out, Option.bind_some]
        exact ⟨by simp only [enc, E2.out, E3.out]; rfl, ((((h1).then h2)).then h3)⟩
      · have e : (pBind (parse k) s) = none := by simp only [pBind, O1.out, O2.out, o3, Option.bind_some, Option.bind_none]
        rw [e]
        exact ⟨rfl, rfl, r3, ((((h1).then h2)).then h3)⟩
    · have e : (pBind (parse k) s) = none := by simp only [pBind, O1.out, o2, Option.bind_some, Option.bind_none]
      rw [e]
      exact ⟨rfl, rfl, r2, ((h1).then h2)⟩
  · have e : (pBind (parse k) s) = none := by simp only [pBind, o1, Option.bind_none]
    rw [e]
    exact ⟨rfl, rfl, r1, h1⟩

set_option maxHeartbeats 1000000 in
theorem operation_c (k : Nat) (ih : TermC k) (c : UInt8) (b : Nat) (s : Text) (w : World) (h : Rd0 b s w) (hk : s.length < k) (hl : s.length < 1000) :
    Calls Try.prog 76 #[.pointer (some ⟨b, 0, none⟩), .int .u8 (c.toNat : Int)] w (TermPost b w (pOp (parse k) c s)) := by
  go_enter Try.func76, Try.ntmps76
  have C1 := ih b s w h (by omega) (by omega)
  go_wp2_with fail
  refine term_use C1 (fun x1 r1 w1 n1 v1 o1 h1 E1 => ?_) (fun r1 w1 o1 h1 => ?_)
  · have l1 := parse_len _ _ _ _ o1
    clear C1
    have O1 := Lib.hid o1; clear o1
    have C2 := ih b r1 w1 h1.here (by omega) (by omega)
    go_wp2_with fail
    refine term_use C2 (fun x2 r2 w2 n2 v2 o2 h2 E2 => ?_) (fun r2 w2 o2 h2 => ?_)
    · have l2 := parse_len _ _ _ _ o2
      clear C2
      have O2 := Lib.hid o2; clear o2
      go_wp2_with fail
      go_ret
      simp only [pOp, O1.out, O2.out, Option.bind_some]
      exact ⟨by simp only [enc, E1.out, E2.out]; rfl, ((h1).then h2)⟩
    · have e : (pOp (parse k) c s) = none := by simp only [pOp, O1.out, o2, Option.bind_some, Option.bind_none]
      rw [e]
      exact ⟨rfl, rfl, r2, ((h1).then h2)⟩
  · have e : (pOp (parse k) c s) = none := by simp only [pOp, o1, Option.bind_none]
    rw [e]
    exact ⟨rfl, rfl, r1, h1⟩

set_option maxHeartbeats 1000000 in
theorem choice_c (k : Nat) (ih : TermC k) (b : Nat) (s : Text) (w : World) (h : Rd0 b s w) (hk : s.length < k) (hl : s.length < 1000) :
    Calls Try.prog 77 #[.pointer (some ⟨b, 0, none⟩)] w (TermPost b w (pSel (parse k) s)) := by
  go_enter Try.func77, Try.ntmps77
  have C1 := ih b s w h (by omega) (by omega)
  go_wp2_with fail
  refine term_use C1 (fun x1 r1 w1 n1 v1 o1 h1 E1 => ?_) (fun r1 w1 o1 h1 => ?_)
  · have l1 := parse_len _ _ _ _ o1
    clear C1
    have O1 := Lib.hid o1; clear o1
    have C2 := ih b r1 w1 h1.here (by omega) (by omega)
    go_wp2_with fail
    refine term_use C2 (fun x2 r2 w2 n2 v2 o2 h2 E2 => ?_) (fun r2 w2 o2 h2 => ?_)
    · have l2 := parse_len _ _ _ _ o2
      clear C2
      have O2 := Lib.hid o2; clear o2
      have C3 := ih b r2 w2 h2.here (by omega) (by omega)
      go_wp2_with fail
      refine term_use C3 (fun x3 r3 w3 n3 v3 o3 h3 E3 => ?_) (fun r3 w3 o3 h3 => ?_)
      · have l3 := parse_len _ _ _ _ o3
        clear C3
        have O3 := Lib.hid o3; clear o3
        go_wp2_with fail
        go_ret
        simp only [pSel, O1.out, O2.out, O3.out, Option.bind_some]
        exact ⟨by simp only [enc, E1.out, E2.out, E3.out]; rfl, ((((h1).then h2)).then h3)⟩
      · have e : (pSel (parse k) s) = none := by simp only [pSel, O1.out, O2.out, o3, Option.bind_some, Option.bind_none]
        rw [e]
        exact ⟨rfl, rfl, r3, ((((h1).then h2)).then h3)⟩
    · have e : (pSel (parse k) s) = none := by simp only [pSel, O1.out, o2, Option.bind_some, Option.bind_none]
      rw [e]
      exact ⟨rfl, rfl, r2, ((h1).then h2)⟩
  · have e : (pSel (parse k) s) = none := by simp only [pSel, o1, Option.bind_none]
    rw [e]
    exact ⟨rfl, rfl, r1, h1⟩

set_option maxHeartbeats 1000000 in
theorem fix_c (k : Nat) (ih : TermC k) (b : Nat) (s : Text) (w : World) (h : Rd0 b s w) (hk : s.length < k) (hl : s.length < 1000) :
    Calls Try.prog 73 #[.pointer (some ⟨b, 0, none⟩)] w (TermPost b w (pFix (parse k) s)) := by
  go_enter Try.func73, Try.ntmps73
  have C1 := name_c b s w h (by omega)
  go_wp2_with fail
  refine byte_use C1 (fun x1 r1 w1 o1 h1 => ?_) (fun r1 w1 o1 h1 => ?_)
  · have l1 := name1_len o1
    clear C1
    have O1 := Lib.hid o1; clear o1
    have C2 := name_c b r1 w1 h1.here (by omega)
    go_wp2_with fail
    refine byte_use C2 (fun x2 r2 w2 o2 h2 => ?_) (fun r2 w2 o2 h2 => ?_)
    · have l2 := name1_len o2
      clear C2
      have O2 := Lib.hid o2; clear o2
      by_cases hx : x1 = x2
      · subst hx
        have hq : ((x1.toNat : Int) == (x1.toNat : Int)) = true := by simp
        go_wp2_with fail
        have e : pFix (parse k) s = none := by simp only [pFix, O1.out, O2.out, Option.bind_some, if_true]
        rw [e]
        exact ⟨rfl, rfl, r2, h1.then h2⟩
      have hq : ((x1.toNat : Int) == (x2.toNat : Int)) = false := by
        rw [beq_eq_false_iff_ne]; intro h9; exact hx (UInt8.toNat_inj.1 (by omega))
      have Hx := Lib.hid hx; clear hx
      have C3 := ih b r2 w2 h2.here (by omega) (by omega)
      go_wp2_with fail
      refine term_use C3 (fun x3 r3 w3 n3 v3 o3 h3 E3 => ?_) (fun r3 w3 o3 h3 => ?_)
      · clear C3
        have O3 := Lib.hid o3; clear o3
        go_wp2_with fail
        go_ret
        simp only [pFix, O1.out, O2.out, O3.out, Option.bind_some, if_neg Hx.out]
        exact ⟨by simp only [enc, E3.out]; rfl, (h1.then h2).then h3⟩
      · have e : pFix (parse k) s = none := by simp only [pFix, O1.out, O2.out, o3, Option.bind_some, Option.bind_none, if_neg Hx.out]
        rw [e]
        exact ⟨rfl, rfl, r3, (h1.then h2).then h3⟩
    · have e : (pFix (parse k) s) = none := by simp only [pFix, O1.out, o2, Option.bind_some, Option.bind_none]
      rw [e]
      exact ⟨rfl, rfl, r2, ((h1).then h2)⟩
  · have e : (pFix (parse k) s) = none := by simp only [pFix, o1, Option.bind_none]
    rw [e]
    exact ⟨rfl, rfl, r1, h1⟩

set_option maxHeartbeats 1000000 in
theorem app_c (k : Nat) (ih : TermC k) (b : Nat) (s : Text) (w : World) (h : Rd0 b s w) (hk : s.length < k) (hl : s.length < 1000) :
    Calls Try.prog 74 #[.pointer (some ⟨b, 0, none⟩)] w (TermPost b w (pApp (parse k) s)) := by
  go_enter Try.func74, Try.ntmps74
  have C1 := ih b s w h (by omega) (by omega)
  go_wp2_with fail
  refine term_use C1 (fun x1 r1 w1 n1 v1 o1 h1 E1 => ?_) (fun r1 w1 o1 h1 => ?_)
  · have l1 := parse_len _ _ _ _ o1
    clear C1
    have O1 := Lib.hid o1; clear o1
    have C2 := ih b r1 w1 h1.here (by omega) (by omega)
    go_wp2_with fail
    refine term_use C2 (fun x2 r2 w2 n2 v2 o2 h2 E2 => ?_) (fun r2 w2 o2 h2 => ?_)
    · have l2 := parse_len _ _ _ _ o2
      clear C2
      have O2 := Lib.hid o2; clear o2
      have C3 := next_c b r2 w2 h2.here (by omega)
      go_wp2_with fail
      refine byte_use C3 (fun x3 r3 w3 o3 h3 => ?_) (fun r3 w3 o3 h3 => ?_)
      · have l3 := next1_len o3
        clear C3
        have O3 := Lib.hid o3; clear o3
        by_cases hx : x3.toNat = 41
        · have hq : ((x3.toNat : Int) != 41) = false := by rw [hx]; rfl
          have Hx := Lib.hid hx; clear hx
          go_wp2_with fail
          go_ret
          simp only [pApp, O1.out, O2.out, O3.out, Option.bind_some, if_pos Hx.out]
          exact ⟨by simp only [enc, E1.out, E2.out]; rfl, (h1.then h2).then h3⟩
        · have hq : ((x3.toNat : Int) != 41) = true := by rw [bne_iff_ne]; omega
          have Hx := Lib.hid hx; clear hx
          go_wp2_with fail
          have e : pApp (parse k) s = none := by simp only [pApp, O1.out, O2.out, O3.out, Option.bind_some, if_neg Hx.out]
          rw [e]
          exact ⟨rfl, rfl, r3, (h1.then h2).then h3⟩
      · have e : (pApp (parse k) s) = none := by simp only [pApp, O1.out, O2.out, o3, Option.bind_some, Option.bind_none]
        rw [e]
        exact ⟨rfl, rfl, r3, ((((h1).then h2)).then h3)⟩
    · have e : (pApp (parse k) s) = none := by simp only [pApp, O1.out, o2, Option.bind_some, Option.bind_none]
      rw [e]
      exact ⟨rfl, rfl, r2, ((h1).then h2)⟩
  · have e : (pApp (parse k) s) = none := by simp only [pApp, o1, Option.bind_none]
    rw [e]
    exact ⟨rfl, rfl, r1, h1⟩

theorem dig_bd {c : UInt8} (h : isDig c = true) : 48 ≤ (c.toNat : Int) ∧ (c.toNat : Int) ≤ 57 := by
  simp only [isDig, Bool.and_eq_true, decide_eq_true_eq] at h; omega
theorem ret_num {a : Int} {n : Nat} (h : a = (n : Int)) : Ending.returned (.iface 78 (.agg #[.int .i64 a])) = .returned (enc (.num n)) := by rw [h]; rfl

set_option maxHeartbeats 1000000 in
theorem long_c (k : Nat) (ih : TermC k) (b : Nat) (s : Text) (w : World) (h : Rd0 b s w) (hk : s.length < k) (hl : s.length < 1000) :
    Calls Try.prog 71 #[.pointer (some ⟨b, 0, none⟩)] w (TermPost b w (pLong s)) := by
  go_enter Try.func71, Try.ntmps71
  have C1 := next_c b s w h (by omega)
  go_wp2_with fail
  refine byte_use C1 (fun x1 r1 w1 o1 h1 => ?_) (fun r1 w1 o1 h1 => ?_)
  · have l1 := next1_len o1
    clear C1
    have O1 := Lib.hid o1; clear o1
    have C2 := next_c b r1 w1 h1.here (by omega)
    go_wp2_with fail
    refine byte_use C2 (fun x2 r2 w2 o2 h2 => ?_) (fun r2 w2 o2 h2 => ?_)
    · have l2 := next1_len o2
      clear C2
      have O2 := Lib.hid o2; clear o2
      cases H1 : isDig x1 with
      | false =>
        replace H1 := Lib.hid H1
        go_wp2_with fail
        refine (isDigit_c x1 _).mono ?_
        rintro e w3 ⟨rfl, rfl⟩
        rw [H1.out]
        go_wp2_with fail
        have e : pLong s = none := by simp only [pLong, O1.out, O2.out, Option.bind_some]; rw [if_neg (by simp [H1.out])]
        rw [e]
        exact ⟨rfl, rfl, r2, h1.then h2⟩
      | true =>
        replace H1 := Lib.hid H1
        cases H2 : isDig x2 with
        | false =>
          replace H2 := Lib.hid H2
          go_wp2_with fail
          refine (isDigit_c x1 _).mono ?_
          rintro e w3 ⟨rfl, rfl⟩
          rw [H1.out]
          go_wp2_with fail
          refine (isDigit_c x2 _).mono ?_
          rintro e w3 ⟨rfl, rfl⟩
          rw [H2.out]
          go_wp2_with fail
          have e : pLong s = none := by simp only [pLong, O1.out, O2.out, Option.bind_some]; rw [if_neg (by simp [H2.out])]
          rw [e]
          exact ⟨rfl, rfl, r2, h1.then h2⟩
        | true =>
          replace H2 := Lib.hid H2
          have b1 := dig_bd H1.out
          have b2 := dig_bd H2.out
          obtain ⟨b1, b1x⟩ := b1
          obtain ⟨b2, b2x⟩ := b2
          by_cases hx : x1.toNat = 48
          · have hq : ((x1.toNat : Int) == 48) = true := by rw [hx]; rfl
            have Hx := Lib.hid hx; clear hx
            go_wp2_with fail
            refine (isDigit_c x1 _).mono ?_
            rintro e w3 ⟨rfl, rfl⟩
            rw [H1.out]
            go_wp2_with fail
            refine (isDigit_c x2 _).mono ?_
            rintro e w3 ⟨rfl, rfl⟩
            rw [H2.out]
            go_wp2_with fail
            have e : pLong s = none := by simp only [pLong, O1.out, O2.out, Option.bind_some]; rw [if_neg (by simp [Hx.out])]
            rw [e]
            exact ⟨rfl, rfl, r2, h1.then h2⟩
          · have hq : ((x1.toNat : Int) == 48) = false := by rw [beq_eq_false_iff_ne]; omega
            have Hx := Lib.hid hx; clear hx
            go_wp2_with fail
            refine (isDigit_c x1 _).mono ?_
            rintro e w3 ⟨rfl, rfl⟩
            rw [H1.out]
            go_wp2_with fail
            refine (isDigit_c x2 _).mono ?_
            rintro e w3 ⟨rfl, rfl⟩
            rw [H2.out]
            go_wp2_with fail
            go_ret
            have e : pLong s = some (Tm.num (10 * (x1.toNat - 48) + (x2.toNat - 48)), r2) := by simp only [pLong, O1.out, O2.out, Option.bind_some]; rw [if_pos ⟨H1.out, H2.out, Hx.out⟩]
            rw [e]
            refine ⟨ret_num ?_, h1.then h2⟩
            omega
    · have e : (pLong s) = none := by simp only [pLong, O1.out, o2, Option.bind_some, Option.bind_none]
      rw [e]
      exact ⟨rfl, rfl, r2, ((h1).then h2)⟩
  · have e : (pLong s) = none := by simp only [pLong, o1, Option.bind_none]
    rw [e]
    exact ⟨rfl, rfl, r1, h1⟩

end Go.Proofs.Ytpiahmdgkmkhiaa
