/- TermValid: the model's and the program's. -/
import Derived.Test.YtjeaadgfjnmfcaaSpD
namespace Go.Proofs.Ytjeaadgfjnmfcaa
open Go.RowKit
open Ff
set_option linter.unusedVariables false

set_option maxHeartbeats 1000000 in
theorem sTermValid_c (s : Text) (w : World) (hl : s.length ≤ 9223372036854775807) :
    Calls Try.prog 10 #[.string ⟨s.toArray⟩] w fun e w' => e = .returned (.bool (readS s).isSome) ∧ Below w.heap.size w w' := by
  have C := sread_c s w hl
  go_enter Try.func10, Try.ntmps10
  go_wp2_with fail
  refine C.mono ?_
  clear C
  rcases hr : readS s with _ | t
  · rintro e w1 ⟨rfl, hb1⟩
    have HR := Lib.hid hr
    clear hr
    unfold zeroTm
    go_wp2_with fail
    go_ret
    exact ⟨by rw [HR.out]; rfl, hb1.alloc hb1.size _⟩
  · rintro e w1 ⟨v, rfl, hb1, hrep⟩
    obtain ⟨k, n, st, aa, l, c, rfl⟩ := hrep.junk
    have HR := Lib.hid hr
    clear hr
    go_wp2_with fail
    go_ret
    exact ⟨by rw [HR.out]; rfl, hb1.alloc hb1.size _⟩

set_option maxHeartbeats 1000000 in
theorem iTermValid_c (s : Text) (w : World) (hl : s.length ≤ 9223372036854775807) :
    Calls Try.prog 9 #[.string ⟨s.toArray⟩] w fun e w' => e = .returned (.bool (readT s).isSome) ∧ Below w.heap.size w w' := by
  have C := read_c s w hl
  go_enter Try.func9, Try.ntmps9
  go_wp2_with fail
  refine C.mono ?_
  clear C
  rcases hr : readT s with _ | t
  · rintro e w1 ⟨rfl, hb1⟩
    have HR := Lib.hid hr
    clear hr
    go_wp2_with fail
    go_ret
    exact ⟨by rw [HR.out]; rfl, hb1⟩
  · rintro e w1 ⟨rfl, hb1⟩
    obtain ⟨n, v, ev⟩ := enc_gen t
    rw [ev]
    have HR := Lib.hid hr
    clear hr ev
    go_wp2_with fail
    go_ret
    exact ⟨by rw [HR.out]; rfl, hb1⟩

end Go.Proofs.Ytjeaadgfjnmfcaa
