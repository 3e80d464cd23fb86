/- The model's reader of a text: what stands behind the first byte of a term: a name, and what is none. -/
import Derived.Test.YtpiahmdgkmkhiaaWiA
namespace Go.Proofs.Ytpiahmdgkmkhiaa
open Go.RowKit
open Ff
set_option linter.unusedVariables false

set_option maxRecDepth 100000 in
set_option maxHeartbeats 4000000 in
theorem within_nam (m : Nat) (b : Nat) (T r : Text) (c : UInt8) (w : World) (h : Good b T r (24 - (m : Int)) w) (hN : isNam c = true) :
    Calls Try.prog 80 #[.pointer (some ⟨b, 0, none⟩), .int .u8 (c.toNat : Int)] w (TermPostS b T (24 - (m : Int)) w (some (Tm.var c, r))) := by
  have hb := byte_lt c
  have hb0 : 0 ≤ (c.toNat : Int) := by omega
  have hn : (decide (97 ≤ (c.toNat : Int)) && decide ((c.toNat : Int) ≤ 112)) = true := by rw [← nam_eq]; exact hN
  have hlo : 97 ≤ (c.toNat : Int) := by rw [Bool.and_eq_true] at hn; exact of_decide_eq_true hn.1
  have hd : (decide (48 ≤ (c.toNat : Int)) && decide ((c.toNat : Int) ≤ 57)) = false := by
    rw [Bool.and_eq_false_iff]; right; apply decide_eq_false; omega
  have q35 : ((c.toNat : Int) == 35) = false := by rw [beq_eq_false_iff_ne]; omega
  have k1 := str1 (w.heap.size + 1 + 1 + 1) c ((((w.alloc (.cells #[.int .u8 0, .int .i64 0, .string ⟨#[]⟩, .slice none 0 0] 35)).alloc (.cells #[] 35)).alloc (.cells #[.int .u8 118, .int .i64 0, .string ⟨#[]⟩, .slice (some ⟨w.heap.size + 1, 0, none⟩) 0 0] 35)).alloc (.cells #[.int .u8 (c.toNat : Int)] 5)) (cell_new_at _ _ _ _ (by simp))
  have HN := Lib.hid hn
  have HD := Lib.hid hd
  clear hn hd
  go_enter Try.func80, Try.ntmps80
  go_wp2_with fail
  refine (l1In_c _ _ _ _).mono ?_
  rintro e w1 ⟨rfl, rfl⟩
  rw [HD.out]
  go_wp2_with fail
  refine (l1Letter_i _ hb0 hb _).mono ?_
  rintro e w1 ⟨rfl, rfl⟩
  rw [HN.out]
  go_wp2_with fail
  refine bodyPost_ret (v := tmHead (Tm.var c) (w.heap.size + 1) 0) (by simp [results, Try.results80, go_sem, tmHead, kindOf, numOf, namesOf, Tm.kids]) rfl ⟨_, rfl, ?_, ?_, rep_leaf _ rfl (by simp)⟩
  · exact grownBy_alloc (grownBy_alloc (grownBy_alloc (grownBy_alloc (World.grownBy.refl _ _) _) _) _) _
  · exact (((h.alloc _).alloc _).alloc _).alloc _

set_option maxRecDepth 100000 in
set_option maxHeartbeats 4000000 in
theorem within_none (b : Nat) (T : Text) (c : UInt8) (a : Nat) (bad : Bool) (d : Int) (w : World) (h : SR b T (a : Int) bad d w) (ha : a ≤ T.length) (hD : isDig c = false) (hN : isNam c = false)
    (h35 : c.toNat ≠ 35) (h92 : c.toNat ≠ 92) (h64 : c.toNat ≠ 64) (h40 : c.toNat ≠ 40) (h61 : c.toNat ≠ 61) (h43 : c.toNat ≠ 43) (h45 : c.toNat ≠ 45) (h42 : c.toNat ≠ 42) (h63 : c.toNat ≠ 63) :
    Calls Try.prog 80 #[.pointer (some ⟨b, 0, none⟩), .int .u8 (c.toNat : Int)] w fun e w' => ∃ v, e = .returned v ∧ w.grownBy w' (some b) ∧ Bad b T w' ∧ Junk v := by
  have hb := byte_lt c
  have hb0 : 0 ≤ (c.toNat : Int) := by omega
  have hn : (decide (97 ≤ (c.toNat : Int)) && decide ((c.toNat : Int) ≤ 112)) = false := by rw [← nam_eq]; exact hN
  have hd : (decide (48 ≤ (c.toNat : Int)) && decide ((c.toNat : Int) ≤ 57)) = false := by rw [← dig_eq]; exact hD
  have q35 : ((c.toNat : Int) == 35) = false := by rw [beq_eq_false_iff_ne]; omega
  have q92 : ((c.toNat : Int) == 92) = false := by rw [beq_eq_false_iff_ne]; omega
  have q64 : ((c.toNat : Int) == 64) = false := by rw [beq_eq_false_iff_ne]; omega
  have q40 : ((c.toNat : Int) == 40) = false := by rw [beq_eq_false_iff_ne]; omega
  have q61 : ((c.toNat : Int) == 61) = false := by rw [beq_eq_false_iff_ne]; omega
  have q43 : ((c.toNat : Int) == 43) = false := by rw [beq_eq_false_iff_ne]; omega
  have q45 : ((c.toNat : Int) == 45) = false := by rw [beq_eq_false_iff_ne]; omega
  have q42 : ((c.toNat : Int) == 42) = false := by rw [beq_eq_false_iff_ne]; omega
  have q63 : ((c.toNat : Int) == 63) = false := by rw [beq_eq_false_iff_ne]; omega
  clear h35 h92 h64 h40 h61 h43 h45 h42 h63
  have HN := Lib.hid hn
  have HD := Lib.hid hd
  clear hn hd hN hD
  have hbw := h.lt
  have G : SR b T (a : Int) bad d (W0 w (c.toNat : Int)) := ((h.alloc _).alloc _).alloc _
  have k4 := G.c4
  have k5 := G.c5
  have k2 := G.c2
  have f2 := G.f2
  unfold W0 at k4 k5 k2 f2
  have nb : ¬ b = w.heap.size := by omega
  have nb1 : ¬ b = w.heap.size + 1 := by omega
  have nb2 : ¬ b = w.heap.size + 1 + 1 := by omega
  go_enter Try.func80, Try.ntmps80
  go_wp2_with fail
  refine (l1In_c _ _ _ _).mono ?_
  rintro e w1 ⟨rfl, rfl⟩
  rw [HD.out]
  go_wp2_with fail
  refine (l1Letter_i _ hb0 hb _).mono ?_
  rintro e w1 ⟨rfl, rfl⟩
  rw [HN.out]
  obtain ⟨p0, p1, p2, p3, q0, q1, q2, q3, y0, y1, y2, y3, z0, z1, z2, z3, sz⟩ := (W0_fr w (c.toNat : Int)).setRd hbw 2 (.bool true)
  unfold W0 at p0 p1 p2 p3 q0 q1 q2 q3 y0 y1 y2 y3 z0 z1 z2 z3 sz
  go_wp2_with fail
  refine bodyPost_ret (v := .agg #[.int .u8 (c.toNat : Int), .int .i64 0, .string ⟨#[]⟩, .slice (some ⟨w.heap.size + 1, 0, none⟩) 0 0]) (by simp [results, Try.results80, go_sem, p0, p1, p2, p3]) rfl ?_
  exact ⟨_, rfl, Wf_grown (grownBy_set (W0_grown w (c.toNat : Int) b) _ _) _ _ _ _, ⟨a, d, ha, (G.setBad true).same (Wf_heap _ _ _ _ _ _ _ nb)⟩, ⟨_, _, _, _, _, _, rfl⟩⟩
end Go.Proofs.Ytpiahmdgkmkhiaa
