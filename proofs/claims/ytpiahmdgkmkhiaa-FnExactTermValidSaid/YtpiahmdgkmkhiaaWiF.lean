/- The model's reader of a text: what stands behind the first byte of a term: a long number, a name, and what is none. -/
import Derived.Test.YtpiahmdgkmkhiaaWiA
namespace Go.Proofs.Ytpiahmdgkmkhiaa
open Go.RowKit
open Ff
set_option linter.unusedVariables false

theorem long_bad {T : Text} {a a1 a2 : Nat} {x y : UInt8} {bad1 : Bool} (h1 : (T[a]? = some x ∧ a1 = a + 1 ∧ bad1 = false) ∨ (a = T.length ∧ x = 0 ∧ a1 = a ∧ bad1 = true)) (h2 : (T[a1]? = some y ∧ a2 = a1 + 1 ∧ true = bad1) ∨ (a1 = T.length ∧ y = 0 ∧ a2 = a1 ∧ true = true)) : pLong (T.drop a) = none := by
  rcases h1 with ⟨hx, rfl, rfl⟩ | ⟨rfl, _, _, _⟩
  · rcases h2 with ⟨_, _, h⟩ | ⟨he, _, _, _⟩
    · cases h
    · rw [drop_head hx, he]; simp [pLong, next1]
  · simp [pLong, next1]
theorem long_good {T : Text} {a a1 a2 : Nat} {x y : UInt8} {bad1 : Bool} (h1 : (T[a]? = some x ∧ a1 = a + 1 ∧ bad1 = false) ∨ (a = T.length ∧ x = 0 ∧ a1 = a ∧ bad1 = true)) (h2 : (T[a1]? = some y ∧ a2 = a1 + 1 ∧ false = bad1) ∨ (a1 = T.length ∧ y = 0 ∧ a2 = a1 ∧ false = true)) :
    True ∧ pLong (T.drop a) = (if isDig x = true ∧ isDig y = true ∧ x.toNat ≠ 48 then some (Tm.num (10 * (x.toNat - 48) + (y.toNat - 48)), T.drop a2) else none) ∧ bad1 = false := by
  rcases h2 with ⟨hy, rfl, h⟩ | ⟨_, _, _, h⟩
  · rcases h1 with ⟨hx, rfl, rfl⟩ | ⟨_, _, _, hb⟩
    · refine ⟨trivial, ?_, rfl⟩
      rw [drop_head hx, drop_head hy]
      simp only [pLong, next1, Option.bind_some]
    · rw [hb] at h; cases h
  · cases h
theorem long_first {x : UInt8} (h : isDig x = true) (h2 : x.toNat ≠ 48) : (decide (49 ≤ (x.toNat : Int)) && decide ((x.toNat : Int) ≤ 57)) = true := by
  obtain ⟨h3, h4⟩ := dig_bd h
  rw [Bool.and_eq_true]
  constructor <;> apply decide_eq_true <;> omega
theorem long_first2 {x : UInt8} (h : (decide (49 ≤ (x.toNat : Int)) && decide ((x.toNat : Int) ≤ 57)) = true) : isDig x = true ∧ 49 ≤ (x.toNat : Int) ∧ (x.toNat : Int) ≤ 57 ∧ x.toNat ≠ 48 := by
  rw [Bool.and_eq_true] at h
  have h1 := of_decide_eq_true h.1
  have h2 := of_decide_eq_true h.2
  refine ⟨?_, h1, h2, by omega⟩
  simp only [isDig, Bool.and_eq_true, decide_eq_true_eq]
  omega
set_option maxRecDepth 100000 in
set_option maxHeartbeats 4000000 in
theorem within_35 (m : Nat) (b : Nat) (T r : Text) (w : World) (h : Good b T r (24 - (m : Int)) w) (hl : T.length ≤ 1000) :
    Calls Try.prog 80 #[.pointer (some ⟨b, 0, none⟩), .int .u8 35] w (TermPostS b T (24 - (m : Int)) w (pLong r)) := by
  have hbw : b < w.heap.size := Start.lt (s := some r) h
  have GG : Good b T r (24 - (m : Int)) (W0 w 35) := ((h.alloc _).alloc _).alloc _
  have G0 : Start b T (24 - (m : Int)) (W0 w 35) (some r) := GG
  have k4 : (W0 w 35).cell? ⟨b, 4, none⟩ = some (.bool false) := by obtain ⟨_, _, _, hs⟩ := GG; exact hs.c4
  have k5 : (W0 w 35).cell? ⟨b, 5, none⟩ = some (.bool false) := by obtain ⟨_, _, _, hs⟩ := GG; exact hs.c5
  unfold W0 at k4 k5
  go_enter Try.func80, Try.ntmps80
  go_wp2_with (first | (go_at_call 79; refine (l1In_c _ _ _ _).mono ?_; rintro e w' ⟨rfl, rfl⟩) | (go_at_call 66; refine (l1Letter_i _ (by omega) (by omega) _).mono ?_; rintro e w' ⟨rfl, rfl⟩))
  obtain ⟨a, ha, hd, hsr⟩ := GG
  have HD := Lib.hid hd
  clear hd
  refine (snext_c b T a false _ _ hsr ha hl).mono ?_
  rintro e w1 ⟨x, a1, bad1, rfl, h1, ha1, y1⟩
  have Y1 := Lib.hid y1
  clear y1
  go_wp2_with fail
  refine (snext_c b T a1 bad1 _ _ h1.sr ha1 hl).mono ?_
  rintro e w2 ⟨y, a2, bad2, rfl, h2, ha2, y2⟩
  have Y2 := Lib.hid y2
  clear y2 k4 k5
  have F2 := ((W0_fr w 35).keep h1.rest hbw).keep h2.rest hbw
  have hx := byte_lt x
  have hx0 : 0 ≤ (x.toNat : Int) := by omega
  have hy := byte_lt y
  have hy0 : 0 ≤ (y.toNat : Int) := by omega
  obtain ⟨p0, p1, p2, p3, q0, q1, q2, q3, y0, y1, y2, y3, z0, z1, z2, z3, sz⟩ := id F2
  obtain ⟨c0, c1, c2, c3, c4, c5, f1, f2, f3⟩ := id h2.sr
  have nb : ¬ b = w.heap.size + 1 + 1 := by omega
  cases bad2 with
  | true =>
    have E : pLong r = none := by rw [← HD.out]; exact long_bad Y1.out Y2.out
    go_wp2_with fail
    refine bodyPost_ret (v := .agg #[.int .u8 110, .int .i64 (10 * (((x.toNat : Int) - 48) % 256) + ((y.toNat : Int) - 48) % 256), .string ⟨#[]⟩, .slice (some ⟨w.heap.size + 1, 0, none⟩) 0 0]) (by simp [results, Try.results80, go_sem, p0, p1, p2, p3]) rfl ?_
    rw [E]
    exact ⟨_, rfl, Wf_grown (grown_setNew (grown_setNew (grownBy_set (grownBy_trans (grownBy_trans (W0_grown w 35 b) h1.rest) h2.rest) _ _) (by simp; omega) _) (by simp; omega) _) _ _ _ _, ⟨a2, _, ha2, (((h2.sr.setBad true).setFar (by simp; omega) _).setFar (by simp; omega) _).same (Wf_heap _ _ _ _ _ _ _ (by omega))⟩, ⟨_, _, _, _, _, _, rfl⟩⟩
  | false =>
    obtain ⟨el, er, e2⟩ := long_good Y1.out Y2.out
    rw [HD.out] at er
    have ER := Lib.hid er
    clear el er
    go_wp2_with fail
    refine (l1In_c _ _ _ _).mono ?_
    rintro e w3 ⟨rfl, rfl⟩
    cases H1 : (decide (49 ≤ (x.toNat : Int)) && decide ((x.toNat : Int) ≤ 57)) with
    | false =>
      have E : pLong r = none := by rw [ER.out]; exact if_neg (fun h => by have := long_first h.1 h.2.2; rw [H1] at this; cases this)
      replace H1 := Lib.hid H1
      go_wp2_with fail
      refine bodyPost_ret (v := .agg #[.int .u8 110, .int .i64 (10 * (((x.toNat : Int) - 48) % 256) + ((y.toNat : Int) - 48) % 256), .string ⟨#[]⟩, .slice (some ⟨w.heap.size + 1, 0, none⟩) 0 0]) (by simp [results, Try.results80, go_sem, p0, p1, p2, p3]) rfl ?_
      rw [E]
      exact ⟨_, rfl, Wf_grown (grown_setNew (grown_setNew (grownBy_set (grownBy_trans (grownBy_trans (W0_grown w 35 b) h1.rest) h2.rest) _ _) (by simp; omega) _) (by simp; omega) _) _ _ _ _, ⟨a2, _, ha2, (((h2.sr.setBad true).setFar (by simp; omega) _).setFar (by simp; omega) _).same (Wf_heap _ _ _ _ _ _ _ (by omega))⟩, ⟨_, _, _, _, _, _, rfl⟩⟩
    | true =>
      obtain ⟨hD1, b1, b2, hn48⟩ := long_first2 H1
      have HN := Lib.hid hn48
      replace H1 := Lib.hid H1
      clear hn48
      go_wp2_with fail
      refine (l1In_c _ _ _ _).mono ?_
      rintro e w3 ⟨rfl, rfl⟩
      rw [← dig_eq]
      cases H2 : isDig y with
      | false =>
        have E : pLong r = none := by rw [ER.out]; exact if_neg (fun h => by rw [H2] at h; exact absurd h.2.1 (by simp))
        replace H2 := Lib.hid H2
        go_wp2_with fail
        refine bodyPost_ret (v := .agg #[.int .u8 110, .int .i64 (10 * ((x.toNat : Int) - 48) + ((y.toNat : Int) - 48) % 256), .string ⟨#[]⟩, .slice (some ⟨w.heap.size + 1, 0, none⟩) 0 0]) (by simp [results, Try.results80, go_sem, p0, p1, p2, p3]) rfl ?_
        rw [E]
        exact ⟨_, rfl, Wf_grown (grown_setNew (grown_setNew (grownBy_set (grownBy_trans (grownBy_trans (W0_grown w 35 b) h1.rest) h2.rest) _ _) (by simp; omega) _) (by simp; omega) _) _ _ _ _, ⟨a2, _, ha2, (((h2.sr.setBad true).setFar (by simp; omega) _).setFar (by simp; omega) _).same (Wf_heap _ _ _ _ _ _ _ (by omega))⟩, ⟨_, _, _, _, _, _, rfl⟩⟩
      | true =>
        obtain ⟨b3, b4⟩ := dig_bd H2
        have E : pLong r = some (Tm.num (10 * (x.toNat - 48) + (y.toNat - 48)), T.drop a2) := by rw [ER.out]; exact if_pos ⟨hD1, H2, HN.out⟩
        replace H2 := Lib.hid H2
        clear hD1
        have en : (10 * ((x.toNat : Int) - 48) + ((y.toNat : Int) - 48)) = ((10 * (x.toNat - 48) + (y.toNat - 48) : Nat) : Int) := by omega
        have EN := Lib.hid en
        clear en
        go_wp2_with fail
        rw [EN.out]
        refine bodyPost_ret (v := tmHead (Tm.num (10 * (x.toNat - 48) + (y.toNat - 48))) (w.heap.size + 1) 0) (by simp [results, Try.results80, go_sem, p0, p1, p2, p3, tmHead, kindOf, numOf, namesOf, Tm.kids]) rfl ?_
        rw [E]
        exact ⟨_, rfl, Wf_grown (grown_setNew (grown_setNew (grownBy_set (grownBy_trans (grownBy_trans (W0_grown w 35 b) h1.rest) h2.rest) _ _) (by simp; omega) _) (by simp; omega) _) _ _ _ _, ⟨a2, ha2, rfl, (((h2.sr.setBad false).setFar (by simp; omega) _).setFar (by simp; omega) _).same (Wf_heap _ _ _ _ _ _ _ (by omega))⟩, rep_leaf _ rfl (by simp [World.setCell]; omega)⟩
end Go.Proofs.Ytpiahmdgkmkhiaa
