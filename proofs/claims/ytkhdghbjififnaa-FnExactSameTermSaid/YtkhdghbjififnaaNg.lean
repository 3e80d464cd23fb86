import Derived.Test.YtkhdghbjififnaaNe
import Derived.Test.YtkhdghbjififnaaNf
/- FnExactSameTerm and Nameless: the specification's Nameless and SameTerm; the law. -/
namespace Go.Proofs.Ytkhdghbjififnaa
open Go.RowKit
open Ff
set_option linter.unusedVariables false

/-- What Nameless comes to. -/
def nlO (s : Text) : Option Text := (readS s).map (nlT 24 noF)
def ntO : Option Text → Text
  | some x => x | none => []
set_option maxRecDepth 100000 in
set_option maxHeartbeats 4000000 in
theorem sNameless_c (s : Text) (w : World) (hl : s.length ≤ 9223372036854775807) :
    Calls Try.prog 27 #[.string ⟨s.toArray⟩] w fun e w' => e = .returned (.tuple #[.string ⟨(ntO (nlO s)).toArray⟩, .bool (nlO s).isSome]) ∧ Below w.heap.size w w' := by
  have C1 := sread_c s w hl
  rcases hr : readS s with _ | t
  · have hO : nlO s = none := by unfold nlO; rw [hr]; rfl
    rw [hO]
    rw [hr] at C1
    clear hr hO
    go_enter Try.func27, Try.ntmps27
    go_wp2_with fail
    refine C1.mono ?_
    clear C1
    rintro e w1 ⟨rfl, hb1⟩
    unfold zeroTm
    go_wp2_with fail
    go_ret2
    exact ⟨rfl, hb1.alloc hb1.size _⟩
  · have hO : nlO s = some (nlT 24 noF t) := by unfold nlO; rw [hr]; rfl
    rw [hO]
    rw [hr] at C1
    obtain ⟨tg, td, tp⟩ := read_facts hr
    clear hr hO
    go_enter Try.func27, Try.ntmps27
    go_wp2_with fail
    refine C1.mono ?_
    clear C1
    rintro e w1 ⟨v1, rfl, hb1, hrep1⟩
    obtain ⟨x0, x1, x2, x3, x4, x5, rfl⟩ := hrep1.junk
    have hs1 := hb1.size
    have hB1 := hb1.alloc hs1 (tmO x0 x1 x2 x3 x4 x5)
    have K := nlS_c 24 [] noF t w1.heap.size _ (w1.alloc (tmO x0 x1 x2 x3 x4 x5)) td noF_ok inner_nil (by simp) (by omega) (hrep1.keep (fun g hg => Below.heap_alloc _ _ _ hg.2) (fun g hg => hg.2)) (by simp) tg
    clear hrep1
    go_wp2_with (go_at_call 50; refine K.mono ?_; clear K; rintro e w2 ⟨rfl, hb2⟩)
    go_ret2
    exact ⟨rfl, hB1.trans (hb2.mono hB1.size)⟩
set_option maxRecDepth 100000 in
set_option maxHeartbeats 4000000 in
theorem sSame_c (s s2 : Text) (w : World) (hl : s.length ≤ 9223372036854775807) (hl2 : s2.length ≤ 9223372036854775807) :
    Calls Try.prog 8 #[.string ⟨s.toArray⟩, .string ⟨s2.toArray⟩] w fun e w' => e = .returned (.bool (sameO s s2)) ∧ Below w.heap.size w w' := by
  have C1 := sNameless_c s w hl
  have C2 := fun W => sNameless_c s2 W hl2
  obtain ⟨O, hO⟩ : ∃ O, O = sameO s s2 := ⟨_, rfl⟩
  rw [← hO]
  have h : O = ((nlO s).isSome && (nlO s2).isSome && decide (ntO (nlO s) = ntO (nlO s2))) := by
    rw [hO]
    unfold sameO nlO
    rcases readS s with _ | t <;> rcases readS s2 with _ | u <;> first | (simp [ntO]; done) | (simp only [ntO, Option.map_some, Option.isSome_some, Bool.true_and]; congr)
  clear hO
  generalize ntO (nlO s) = T1 at *
  generalize ntO (nlO s2) = T2 at *
  generalize (nlO s).isSome = b1 at *
  generalize (nlO s2).isSome = b2 at *
  have H := Lib.hid h
  clear h
  by_cases he : T1 = T2
  · subst he
    cases b1 <;> cases b2
    all_goals
      obtain rfl := H.out
      go_enter Try.func8, Try.ntmps8
      go_wp2_with fail
      refine C1.mono ?_
      clear C1
      rintro e w1 ⟨rfl, hb1⟩
      go_wp2_with fail
      refine (C2 _).mono ?_
      clear C2
      rintro e w2 ⟨rfl, hb2⟩
      go_wp2_with fail
      go_ret
      exact ⟨by simp, hb1.trans (hb2.mono hb1.size)⟩
  · have hne : (T1.toArray == T2.toArray) = false := by simpa using he
    cases b1 <;> cases b2
    all_goals
      have hO2 := H.out
      rw [decide_eq_false he] at hO2
      obtain rfl := hO2
      go_enter Try.func8, Try.ntmps8
      go_wp2_with fail
      refine C1.mono ?_
      clear C1
      rintro e w1 ⟨rfl, hb1⟩
      go_wp2_with fail
      refine (C2 _).mono ?_
      clear C2
      rintro e w2 ⟨rfl, hb2⟩
      go_wp2_with fail
      go_ret
      exact ⟨by simp [he], hb1.trans (hb2.mono hb1.size)⟩
set_option maxRecDepth 100000 in
set_option maxHeartbeats 2000000 in
theorem law_same (s s2 : Text) (w : World) (hl : s.length ≤ 9223372036854775807) (hl2 : s2.length ≤ 9223372036854775807) :
    Calls Try.prog 4 #[.string ⟨s.toArray⟩, .string ⟨s2.toArray⟩] w fun e w' => e = .returned (.bool true) ∧ Below w.heap.size w w' := by
  have C1 := sSame_c s s2 w hl hl2
  have C2 := fun w' => iSame_c s s2 w' hl hl2
  generalize sameO s s2 = B at *
  by_cases h1 : s.length ≤ 1048576
  · have h1i : ¬ 1048576 < (s.length : Int) := by omega
    by_cases h2 : s2.length ≤ 1048576
    · have h2i : ¬ 1048576 < (s2.length : Int) := by omega
      clear h1 h2
      go_enter Try.func4, Try.ntmps4
      go_wp2_with fail
      refine C1.mono ?_
      clear C1
      rintro e w1 ⟨rfl, hb1⟩
      cases B
      all_goals
        go_wp2_with fail
        refine (C2 _).mono ?_
        clear C2
        rintro e w2 ⟨rfl, hb2⟩
        go_wp2_with fail
        go_ret
        exact ⟨rfl, hb1.trans (hb2.mono hb1.size)⟩
    · have h2i : 1048576 < (s2.length : Int) := by omega
      clear h1 h2
      go_enter Try.func4, Try.ntmps4
      go_wp2_with fail
      go_ret
      exact ⟨rfl, Below.refl _ _⟩
  · have h1i : 1048576 < (s.length : Int) := by omega
    clear h1
    go_enter Try.func4, Try.ntmps4
    go_wp2_with fail
    go_ret
    exact ⟨rfl, Below.refl _ _⟩
end Go.Proofs.Ytkhdghbjififnaa
