/- IsValue: the model's and the program's. -/
import Derived.Test.YtpiahmdgkmkhiaaValid
import Derived.Test.YtpiahmdgkmkhiaaTmC
namespace Go.Proofs.Ytpiahmdgkmkhiaa
open Go.RowKit
open Ff
set_option linter.unusedVariables false

set_option maxHeartbeats 1000000 in
theorem l1Value_c (k n : Int) (st : ByteArray) (a : Option Addr) (l c : Nat) (w : World) :
    Calls Try.prog 53 #[.agg #[.int .u8 k, .int .i64 n, .string st, .slice a l c]] w fun e w' => e = .returned (.bool (k == 110 || k == 92 || k == 64)) ∧ Below w.heap.size w w' := by
  cases h1 : (k == 110) with
  | true =>
    go_enter Try.func53, Try.ntmps53
    go_wp2_with fail
    go_ret
    exact ⟨rfl, (Below.refl _ w).alloc (Nat.le_refl _) _⟩
  | false =>
    cases h2 : (k == 92) with
    | true =>
      go_enter Try.func53, Try.ntmps53
      go_wp2_with fail
      go_ret
      exact ⟨rfl, (Below.refl _ w).alloc (Nat.le_refl _) _⟩
    | false =>
      go_enter Try.func53, Try.ntmps53
      go_wp2_with fail
      go_ret
      exact ⟨rfl, (Below.refl _ w).alloc (Nat.le_refl _) _⟩
theorem kind_val {t : Tm} (h : t.good) : (((kindOf t : Int) == 110) || ((kindOf t : Int) == 92) || ((kindOf t : Int) == 64)) = t.isVal := by
  cases t with
  | op s l r => rcases h.1 with h | h | h <;> subst h <;> rfl
  | _ => rfl
def isNum : Tm → Bool
  | .num _ => true | _ => false
def isFun : Tm → Bool
  | .fn _ _ => true | .fix _ _ _ => true | _ => false
def numV : Tm → Value
  | .num n => pl (.num n) | _ => .agg #[.int .i64 0]
def funV : Tm → Value
  | .fn c b => pl (.fn c b) | .fix f c b => pl (.fix f c b) | _ => .agg #[.int .u8 0, .int .u8 0, .nilIface]
theorem ta_num (t : Tm) (w : World) : (Instr.typeAssert (.iface (ty t) (pl t)) 39 78 true).run Try.prog w = .ok (.tuple #[numV t, .bool (isNum t)]) w := by
  cases t <;> kernel_rfl
theorem ta_fun (t : Tm) (w : World) : (Instr.typeAssert (.iface (ty t) (pl t)) 39 75 true).run Try.prog w = .ok (.tuple #[funV t, .bool (isFun t)]) w := by
  cases t <;> kernel_rfl
set_option maxHeartbeats 1000000 in
theorem isValue_c (t : Tm) (w : World) :
    Calls Try.prog 54 #[enc t] w fun e w' => e = .returned (.bool t.isVal) ∧ w = w' := by
  have a1 := ta_num t
  have a2 := ta_fun t
  have e : t.isVal = (isNum t || isFun t) := by cases t <;> rfl
  rw [e, enc_ty t]
  clear e
  cases h1 : isNum t <;> cases h2 : isFun t <;> rw [h1] at a1 <;> rw [h2] at a2 <;> clear h1 h2
  all_goals
    go_enter Try.func54, Try.ntmps54
    go_wp2_with fail
    go_ret
    exact ⟨rfl, rfl⟩

set_option maxHeartbeats 1000000 in
theorem sIsValue_c (s : Text) (w : World) (hl : s.length ≤ 9223372036854775807) :
    Calls Try.prog 34 #[.string ⟨s.toArray⟩] w fun e w' => e = .returned (.bool ((readS s).any Tm.isVal)) ∧ Below w.heap.size w w' := by
  have C := sread_c s w hl
  go_enter Try.func34, Try.ntmps34
  go_wp2_with fail
  refine C.mono ?_
  clear C
  rcases hr : readS s with _ | t
  · rintro e w1 ⟨rfl, hb1⟩
    have HR := Lib.hid hr
    clear hr
    unfold zeroTm
    go_wp2_with fail
    go_ret
    exact ⟨by rw [HR.out]; rfl, hb1.alloc hb1.size _⟩
  · rintro e w1 ⟨v, rfl, hb1, hrep⟩
    have hgood := readS_good hr
    have HR := Lib.hid hr
    clear hr
    cases hrep with
    | mk g cap c hg hc hk =>
      clear hc hk
      unfold tmHead
      go_wp2_with fail
      refine (l1Value_c _ _ _ _ _ _ _).mono ?_
      rw [kind_val hgood]
      rintro e w2 ⟨rfl, hb2⟩
      go_wp2_with fail
      go_ret
      exact ⟨by rw [HR.out]; rfl, (hb1.alloc hb1.size _).trans (hb2.mono (by have := hb1.size; simp; omega))⟩

set_option maxHeartbeats 1000000 in
theorem iIsValue_c (s : Text) (w : World) (hl : s.length ≤ 9223372036854775807) :
    Calls Try.prog 35 #[.string ⟨s.toArray⟩] w fun e w' => e = .returned (.bool ((readT s).any Tm.isVal)) ∧ Below w.heap.size w w' := by
  have C := read_c s w hl
  go_enter Try.func35, Try.ntmps35
  go_wp2_with fail
  refine C.mono ?_
  clear C
  rcases hr : readT s with _ | t
  · rintro e w1 ⟨rfl, hb1⟩
    have HR := Lib.hid hr
    clear hr
    go_wp2_with fail
    go_ret
    exact ⟨by rw [HR.out]; rfl, hb1⟩
  · rintro e w1 ⟨rfl, hb1⟩
    have C2 := isValue_c t w1
    rw [enc_ty t] at C2 ⊢
    have HR := Lib.hid hr
    clear hr
    go_wp2_with fail
    refine C2.mono ?_
    rintro e w2 ⟨rfl, rfl⟩
    go_wp2_with fail
    go_ret
    exact ⟨by rw [HR.out]; rfl, hb1⟩

set_option maxHeartbeats 1000000 in
theorem law_value (s : Text) (w : World) (hl : s.length ≤ 9223372036854775807) :
    Calls Try.prog 12 #[.string ⟨s.toArray⟩] w fun e w' => e = .returned (.bool true) ∧ Below w.heap.size w w' := by
  by_cases h : s.length ≤ 1048576
  · have h2 : (s.length : Int) ≤ 1048576 := by omega
    go_enter Try.func12, Try.ntmps12
    go_wp2_with fail
    refine (sIsValue_c s _ hl).mono ?_
    rintro e w1 ⟨rfl, hb1⟩
    go_wp2_with fail
    refine (iIsValue_c s _ hl).mono ?_
    rintro e w2 ⟨rfl, hb2⟩
    rw [readS_eq]
    generalize (readT s).any Tm.isVal = B
    cases B
    all_goals
      go_wp2_with fail
      go_ret
      exact ⟨rfl, hb1.trans (hb2.mono hb1.size)⟩
  · have h2 : 1048576 < (s.length : Int) := by omega
    go_enter Try.func12, Try.ntmps12
    go_wp2_with fail
    go_ret
    exact ⟨rfl, Below.refl _ _⟩
end Go.Proofs.Ytpiahmdgkmkhiaa
