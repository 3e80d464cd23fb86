/- The model's reader of a text: what it holds in memory, and its smallest functions. -/
import Derived.Test.YtpiahmdgkmkhiaaRows
import Derived.Test.YtpiahmdgkmkhiaaTm
import Derived.Test.YtpiahmdgkmkhiaaRdA
import Derived.BigQuiet
import Derived.Deep.QuietTactic
import Derived.Deep.AppendLies
import Derived.Outline
namespace Go.Proofs.Ytpiahmdgkmkhiaa
open Go.RowKit
open Ff
set_option linter.unusedVariables false

theorem byte_lt (c : UInt8) : (c.toNat : Int) < 256 := by have := c.toNat_lt; omega
set_option maxHeartbeats 400000 in
theorem l1In_c (n lo hi : Int) (w : World) :
    Calls Try.prog 79 #[.int .i64 n, .int .i64 lo, .int .i64 hi] w fun e w' => e = .returned (.bool (decide (lo ≤ n) && decide (n ≤ hi))) ∧ w = w' := by
  by_cases h : lo ≤ n
  · go_enter Try.func79, Try.ntmps79
    go_wp2
    go_ret
    exact ⟨ret_bool (by simp [h]), rfl⟩
  · go_enter Try.func79, Try.ntmps79
    go_wp2
    go_ret
    exact ⟨ret_bool (by simp; omega), rfl⟩
set_option maxHeartbeats 400000 in
theorem l1Letter_i (n : Int) (h0 : 0 ≤ n) (h1 : n < 256) (w : World) :
    Calls Try.prog 66 #[.int .u8 n] w fun e w' => e = .returned (.bool (decide (97 ≤ n) && decide (n ≤ 112))) ∧ w = w' := by
  go_enter Try.func66, Try.ntmps66
  go_wp2_with (go_at_call 79; refine (l1In_c _ _ _ _).mono ?_; rintro e w' ⟨rfl, rfl⟩)
  go_ret
  exact ⟨rfl, rfl⟩
theorem nam_eq (c : UInt8) : isNam c = (decide (97 ≤ (c.toNat : Int)) && decide ((c.toNat : Int) ≤ 112)) := by simp only [isNam]; congr 1 <;> apply decide_eq_decide.2 <;> omega
theorem dig_eq (c : UInt8) : isDig c = (decide (48 ≤ (c.toNat : Int)) && decide ((c.toNat : Int) ≤ 57)) := by simp only [isDig]; congr 1 <;> apply decide_eq_decide.2 <;> omega
theorem l1Letter_c (c : UInt8) (w : World) :
    Calls Try.prog 66 #[.int .u8 (c.toNat : Int)] w fun e w' => e = .returned (.bool (isNam c)) ∧ w = w' := by
  rw [nam_eq]
  exact l1Letter_i _ (by omega) (byte_lt c) w

/-- The reader of the model in block b: the whole text, where it stands, whether it is bad, how deep it is. -/
structure SR (b : Nat) (T : Text) (at_ : Int) (bad : Bool) (deep : Int) (w : World) : Prop where
  c0 : w.cell? ⟨b, 0, none⟩ = some (.string ⟨T.toArray⟩)
  c1 : w.cell? ⟨b, 1, none⟩ = some (.int .i64 at_)
  c2 : w.cell? ⟨b, 2, none⟩ = some (.bool bad)
  c3 : w.cell? ⟨b, 3, none⟩ = some (.int .i64 deep)
  c4 : w.cell? ⟨b, 4, none⟩ = some (.bool false)
  c5 : w.cell? ⟨b, 5, none⟩ = some (.bool false)
  f1 : w.frozen? ⟨b, 1, none⟩ = false
  f2 : w.frozen? ⟨b, 2, none⟩ = false
  f3 : w.frozen? ⟨b, 3, none⟩ = false
theorem SR.lt {b : Nat} {T : Text} {at_ : Int} {bad : Bool} {deep : Int} {w : World} (h : SR b T at_ bad deep w) : b < w.heap.size := by
  have := h.c0
  simp only [World.cell?] at this
  rcases Nat.lt_or_ge b w.heap.size with h1 | h1
  · exact h1
  · simp [Array.getElem?_eq_none h1] at this
/-- It has moved on; nothing else that was there has turned. -/
structure SP (b : Nat) (T : Text) (at_ : Int) (bad : Bool) (deep : Int) (w w' : World) : Prop where
  sr : SR b T at_ bad deep w'
  rest : w.grownBy w' (some b)
theorem SP.then {b : Nat} {T : Text} {a1 a2 : Int} {b1 b2 : Bool} {d1 d2 : Int} {w w1 w2 : World} (h : SP b T a1 b1 d1 w w1) (k : SP b T a2 b2 d2 w1 w2) : SP b T a2 b2 d2 w w2 := ⟨k.sr, grownBy_trans h.rest k.rest⟩
theorem grownBy_drewN {w w' : World} {row : Option Nat} (h : w.grownBy w' row) (n : Nat) : w.grownBy (w'.drewN n) row := ⟨h.os, h.tape, h.output, h.size, h.block⟩

theorem SR.drewN {b : Nat} {T : Text} {a : Int} {bad : Bool} {d : Int} {w : World} (h : SR b T a bad d w) (n : Nat) : SR b T a bad d (w.drewN n) := ⟨h.c0, h.c1, h.c2, h.c3, h.c4, h.c5, h.f1, h.f2, h.f3⟩
theorem SR.setAt {b : Nat} {T : Text} {a : Int} {bad : Bool} {d : Int} {w : World} (h : SR b T a bad d w) (a' : Int) : SR b T a' bad d (w.setCell ⟨b, 1, none⟩ (.int .i64 a')) := by
  constructor <;> first | (rw [World.frozen?_setCell]; first | exact h.f1 | exact h.f2 | exact h.f3) | exact World.cell?_setCell_same _ _ _ h.c1 | (rw [World.cell?_setCell_other _ _ _ _ (by simp)]; first | exact h.c0 | exact h.c2 | exact h.c3 | exact h.c4 | exact h.c5)
theorem SR.setBad {b : Nat} {T : Text} {a : Int} {bad : Bool} {d : Int} {w : World} (h : SR b T a bad d w) (bad' : Bool) : SR b T a bad' d (w.setCell ⟨b, 2, none⟩ (.bool bad')) := by
  constructor <;> first | (rw [World.frozen?_setCell]; first | exact h.f1 | exact h.f2 | exact h.f3) | exact World.cell?_setCell_same _ _ _ h.c2 | (rw [World.cell?_setCell_other _ _ _ _ (by simp)]; first | exact h.c0 | exact h.c1 | exact h.c3 | exact h.c4 | exact h.c5)
theorem SR.setDeep {b : Nat} {T : Text} {a : Int} {bad : Bool} {d : Int} {w : World} (h : SR b T a bad d w) (d' : Int) : SR b T a bad d' (w.setCell ⟨b, 3, none⟩ (.int .i64 d')) := by
  constructor <;> first | (rw [World.frozen?_setCell]; first | exact h.f1 | exact h.f2 | exact h.f3) | exact World.cell?_setCell_same _ _ _ h.c3 | (rw [World.cell?_setCell_other _ _ _ _ (by simp)]; first | exact h.c0 | exact h.c1 | exact h.c2 | exact h.c4 | exact h.c5)
theorem index_byte (T : Text) (i : Nat) (c : UInt8) (h : T[i]? = some c) (h2 : i < (⟨T.toArray⟩ : ByteArray).size) : (⟨T.toArray⟩ : ByteArray)[i] = c := by
  obtain ⟨h3, h4⟩ := List.getElem?_eq_some_iff.1 h
  simpa [ByteArray.getElem_eq_getElem_data] using h4

set_option maxHeartbeats 1000000 in
theorem snext_in (b : Nat) (T : Text) (at_ : Nat) (c : UInt8) (bad : Bool) (deep : Int) (w : World) (h : SR b T (at_ : Int) bad deep w) (hc : T[at_]? = some c) (hl : T.length ≤ 1000) :
    Calls Try.prog 81 #[.pointer (some ⟨b, 0, none⟩)] w fun e w' => e = .returned (.int .u8 (c.toNat : Int)) ∧ SP b T (at_ + 1 : Nat) bad deep w w' := by
  have hlt : at_ < T.length := (List.getElem?_eq_some_iff.1 hc).1
  have H := Lib.hid h
  obtain ⟨c0, c1, c2, c3, c4, c5, f1, f2, f3⟩ := h
  have HC := Lib.hid hc
  clear hc
  go_enter Try.func81, Try.ntmps81
  go_wp2_with fail
  go_quiet (fail)
  go_wp2_with fail
  go_quiet (fail)
  go_wp2_with fail
  go_ret
  refine ⟨?_, ?_⟩
  · show Ending.returned (.int .u8 (((⟨T.toArray⟩ : ByteArray)[at_]).toNat : Int)) = _
    rw [index_byte T at_ c HC.out]
  · refine ⟨((H.out.drewN _).setAt _).drewN _, ?_⟩
    exact grownBy_drewN (grownBy_trans (grownBy_drewN (World.grownBy.refl _ _) _) (grownBy_setCell _ _ _ _)) _

set_option maxHeartbeats 1000000 in
theorem snext_out (b : Nat) (T : Text) (at_ : Nat) (bad : Bool) (deep : Int) (w : World) (h : SR b T (at_ : Int) bad deep w) (hc : T.length ≤ at_) (hl : at_ ≤ 1000) :
    Calls Try.prog 81 #[.pointer (some ⟨b, 0, none⟩)] w fun e w' => e = .returned (.int .u8 0) ∧ SP b T at_ true deep w w' := by
  have H := Lib.hid h
  obtain ⟨c0, c1, c2, c3, c4, c5, f1, f2, f3⟩ := h
  go_enter Try.func81, Try.ntmps81
  go_wp2_with fail
  go_quiet (fail)
  go_wp2_with fail
  go_ret
  exact ⟨rfl, (H.out.drewN _).setBad _, grownBy_trans (grownBy_drewN (World.grownBy.refl _ _) _) (grownBy_setCell _ _ _ _)⟩

/-- What a read of a byte comes to, whatever the reader's state. -/
def NextPost (b : Nat) (T : Text) (a : Nat) (bad : Bool) (deep : Int) (w : World) (e : Ending) (w' : World) : Prop :=
  ∃ (c : UInt8) (a' : Nat) (bad' : Bool), e = .returned (.int .u8 (c.toNat : Int)) ∧ SP b T (a' : Int) bad' deep w w' ∧ a' ≤ T.length ∧ ((T[a]? = some c ∧ a' = a + 1 ∧ bad' = bad) ∨ (a = T.length ∧ c = 0 ∧ a' = a ∧ bad' = true))
theorem snext_c (b : Nat) (T : Text) (a : Nat) (bad : Bool) (deep : Int) (w : World) (h : SR b T (a : Int) bad deep w) (ha : a ≤ T.length) (hl : T.length ≤ 1000) :
    Calls Try.prog 81 #[.pointer (some ⟨b, 0, none⟩)] w (NextPost b T a bad deep w) := by
  by_cases hlt : a < T.length
  · have hc := List.getElem?_eq_getElem hlt
    exact (snext_in b T a _ bad deep w h hc hl).mono fun e w' ⟨he, hs⟩ => ⟨T[a], a + 1, bad, he, hs, hlt, .inl ⟨hc, rfl, rfl⟩⟩
  · exact (snext_out b T a bad deep w h (by omega) (by omega)).mono fun e w' ⟨he, hs⟩ => ⟨0, a, true, he, hs, ha, .inr ⟨by omega, rfl, rfl, rfl⟩⟩
end Go.Proofs.Ytpiahmdgkmkhiaa
