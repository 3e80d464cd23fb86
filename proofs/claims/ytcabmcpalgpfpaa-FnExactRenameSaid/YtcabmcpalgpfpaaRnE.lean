import Derived.Test.YtcabmcpalgpfpaaRnH
/- FnExactRename: the program's Rename is the specification's. -/
namespace Go.Proofs.Ytcabmcpalgpfpaa
open Go.RowKit
open Ff
set_option linter.unusedVariables false

set_option maxRecDepth 100000 in
set_option maxHeartbeats 2000000 in
theorem law_rename (s n s2 : Text) (w : World) (hl : s.length ≤ 9223372036854775807) (hl2 : n.length ≤ 9223372036854775807) (hl3 : s2.length ≤ 9223372036854775807) :
    Calls Try.prog 3 #[.string ⟨s.toArray⟩, .string ⟨n.toArray⟩, .string ⟨s2.toArray⟩] w fun e w' => e = .returned (.bool true) ∧ Below w.heap.size w w' := by
  have C1 := sRename_c s n s2 w hl hl2 hl3
  have C2 := fun w' => iRename_c s n s2 w' hl hl2 hl3
  generalize renO s n s2 = O at *
  obtain ⟨T, hT⟩ : ∃ T, T = textO O := ⟨_, rfl⟩
  obtain ⟨B, hB⟩ : ∃ B, B = O.isSome := ⟨_, rfl⟩
  rw [← hT, ← hB] at C1
  rw [← hT, ← hB] at C2
  clear hT hB O
  have hne : (T.toArray != T.toArray) = false := by simp
  by_cases h1 : s.length ≤ 1048576
  · have h1i : ¬ 1048576 < (s.length : Int) := by omega
    by_cases h2 : n.length ≤ 1048576
    · have h2i : ¬ 1048576 < (n.length : Int) := by omega
      by_cases h3 : s2.length ≤ 1048576
      · have h3i : ¬ 1048576 < (s2.length : Int) := by omega
        clear h1 h2 h3
        go_enter Try.func3, Try.ntmps3
        go_wp2_with fail
        refine C1.mono ?_
        clear C1
        rintro e w1 ⟨rfl, hb1⟩
        cases B
        all_goals
          go_wp2_with fail
          refine (C2 _).mono ?_
          clear C2
          rintro e w2 ⟨rfl, hb2⟩
          go_wp2_with fail
          go_ret
          exact ⟨rfl, hb1.trans (hb2.mono hb1.size)⟩
      · have h3i : 1048576 < (s2.length : Int) := by omega
        clear h1 h2 h3
        go_enter Try.func3, Try.ntmps3
        go_wp2_with fail
        go_ret
        exact ⟨rfl, Below.refl _ _⟩
    · have h2i : 1048576 < (n.length : Int) := by omega
      clear h1 h2
      go_enter Try.func3, Try.ntmps3
      go_wp2_with fail
      go_ret
      exact ⟨rfl, Below.refl _ _⟩
  · have h1i : 1048576 < (s.length : Int) := by omega
    clear h1
    go_enter Try.func3, Try.ntmps3
    go_wp2_with fail
    go_ret
    exact ⟨rfl, Below.refl _ _⟩
end Go.Proofs.Ytcabmcpalgpfpaa
