import Derived.Test.YtjfhncfbejephaaGreatDoorMDp
/- What two numbers come to: the sum, difference or product, and the program's calculate. -/
namespace Go.Proofs.YtjfhncfbejephaaGreatDoor
open Go.RowKit
open Ff
set_option linter.unusedVariables false

def calN (op : UInt8) (x y : Nat) : Nat := if op.toNat = 43 then (x + y) % 100 else if op.toNat = 45 then (x + 100 - y) % 100 else x * y % 100
theorem calN_le (o : UInt8) (x y : Nat) : calN o x y ≤ 99 := by unfold calN; split <;> (try split) <;> omega
set_option maxHeartbeats 1000000 in
theorem calculate_c (o : UInt8) (a b : Nat) (ho : o.toNat = 43 ∨ o.toNat = 45 ∨ o.toNat = 42) (ha : a ≤ 99) (hb : b ≤ 99) (w : World) :
    Calls Tryz.prog 61 #[.int .u8 (o.toNat : Int), .int .i64 (a : Int), .int .i64 (b : Int)] w fun e w' => e = .returned (.int .i64 (calN o a b : Nat)) ∧ w' = w := by
  have h3 : a * b ≤ 99 * 99 := Nat.mul_le_mul ha hb
  rcases ho with h | h | h
  · have e0 : ((o.toNat : Int) == 45) = false := by rw [beq_eq_false_iff_ne]; omega
    have e1 : ((o.toNat : Int) == 42) = false := by rw [beq_eq_false_iff_ne]; omega
    have q : calN o a b = (a + b) % 100 := by simp [calN, h]
    rw [q]
    clear q h
    go_enter Tryz.func61, Tryz.ntmps61
    go_wp2_with fail
    go_ret
    exact ⟨congrArg (fun z => Ending.returned (Value.int .i64 z)) (by omega), rfl⟩
  · have e0 : ((o.toNat : Int) == 45) = true := by rw [h]; rfl
    have ht : ((a : Int) - (b : Int)).tmod 100 = (a : Int) - (b : Int) := by
      by_cases h : b ≤ a
      · exact Int.tmod_eq_of_lt (by omega) (by omega)
      · have e : (a : Int) - (b : Int) = -((b : Int) - (a : Int)) := by omega
        rw [e, Int.neg_tmod, Int.tmod_eq_of_lt (by omega) (by omega)]
    have hw : ((a : Int) - (b : Int) + 100).tmod 100 = ((a : Int) - (b : Int) + 100) % 100 := Int.tmod_eq_emod_of_nonneg (by omega)
    have HT := Lib.hid ht
    have HW := Lib.hid hw
    clear ht hw
    have q : calN o a b = (a + 100 - b) % 100 := by simp [calN, h]
    rw [q]
    clear q h
    go_enter Tryz.func61, Tryz.ntmps61
    go_wp2_with fail
    go_ret
    exact ⟨congrArg (fun z => Ending.returned (Value.int .i64 z)) (by rw [HT.out, IntWalk.wrap64_in _ (by omega), HW.out]; omega), rfl⟩
  · have e0 : ((o.toNat : Int) == 45) = false := by rw [beq_eq_false_iff_ne]; omega
    have e1 : ((o.toNat : Int) == 42) = true := by rw [h]; rfl
    have q : calN o a b = a * b % 100 := by simp [calN, h]
    rw [q]
    clear q h
    generalize hm : (a : Int) * (b : Int) = m
    go_enter Tryz.func61, Tryz.ntmps61
    go_wp2_with fail
    go_ret
    have hm2 : m = ((a * b : Nat) : Int) := by rw [← hm]; simp
    exact ⟨congrArg (fun z => Ending.returned (Value.int .i64 z)) (by generalize a * b = k at hm2 h3 ⊢; omega), rfl⟩
end Go.Proofs.YtjfhncfbejephaaGreatDoor
