/- TermValid: the model's and the program's. -/
import Derived.Test.YtpiahmdgkmkhiaaSpD
namespace Go.Proofs.Ytpiahmdgkmkhiaa
open Go.RowKit
open Ff
set_option linter.unusedVariables false

set_option maxHeartbeats 1000000 in
theorem sTermValid_c (s : Text) (w : World) (hl : s.length ≤ 9223372036854775807) :
    Calls Try.prog 13 #[.string ⟨s.toArray⟩] w fun e w' => e = .returned (.bool (readS s).isSome) ∧ Below w.heap.size w w' := by
  have C := sread_c s w hl
  go_enter Try.func13, Try.ntmps13
  go_wp2_with fail
  refine C.mono ?_
  clear C
  rcases hr : readS s with _ | t
  · rintro e w1 ⟨rfl, hb1⟩
    have HR := Lib.hid hr
    clear hr
    unfold zeroTm
    go_wp2_with fail
    go_ret
    exact ⟨by rw [HR.out]; rfl, hb1.alloc hb1.size _⟩
  · rintro e w1 ⟨v, rfl, hb1, hrep⟩
    obtain ⟨k, n, st, aa, l, c, rfl⟩ := hrep.junk
    have HR := Lib.hid hr
    clear hr
    go_wp2_with fail
    go_ret
    exact ⟨by rw [HR.out]; rfl, hb1.alloc hb1.size _⟩

set_option maxHeartbeats 1000000 in
theorem iTermValid_c (s : Text) (w : World) (hl : s.length ≤ 9223372036854775807) :
    Calls Try.prog 14 #[.string ⟨s.toArray⟩] w fun e w' => e = .returned (.bool (readT s).isSome) ∧ Below w.heap.size w w' := by
  have C := read_c s w hl
  go_enter Try.func14, Try.ntmps14
  go_wp2_with fail
  refine C.mono ?_
  clear C
  rcases hr : readT s with _ | t
  · rintro e w1 ⟨rfl, hb1⟩
    have HR := Lib.hid hr
    clear hr
    go_wp2_with fail
    go_ret
    exact ⟨by rw [HR.out]; rfl, hb1⟩
  · rintro e w1 ⟨rfl, hb1⟩
    obtain ⟨n, v, ev⟩ := enc_gen t
    rw [ev]
    have HR := Lib.hid hr
    clear hr ev
    go_wp2_with fail
    go_ret
    exact ⟨by rw [HR.out]; rfl, hb1⟩

set_option maxHeartbeats 1000000 in
theorem law_valid (s : Text) (w : World) (hl : s.length ≤ 9223372036854775807) :
    Calls Try.prog 3 #[.string ⟨s.toArray⟩] w fun e w' => e = .returned (.bool true) ∧ Below w.heap.size w w' := by
  by_cases h : s.length ≤ 1048576
  · have h2 : (s.length : Int) ≤ 1048576 := by omega
    go_enter Try.func3, Try.ntmps3
    go_wp2_with fail
    refine (sTermValid_c s _ hl).mono ?_
    rintro e w1 ⟨rfl, hb1⟩
    go_wp2_with fail
    refine (iTermValid_c s _ hl).mono ?_
    rintro e w2 ⟨rfl, hb2⟩
    rw [readS_eq]
    generalize (readT s).isSome = B
    cases B
    all_goals
      go_wp2_with fail
      go_ret
      exact ⟨rfl, hb1.trans (hb2.mono hb1.size)⟩
  · have h2 : 1048576 < (s.length : Int) := by omega
    go_enter Try.func3, Try.ntmps3
    go_wp2_with fail
    go_ret
    exact ⟨rfl, Below.refl _ _⟩
end Go.Proofs.Ytpiahmdgkmkhiaa
