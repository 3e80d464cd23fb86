import Derived.Test.YtkhdghbjififnaaDoorNe
import Derived.Test.YtkhdghbjififnaaDoorNf
/- FnExactSameTerm and Nameless: the specification's Nameless and SameTerm; the law. -/
namespace Go.Proofs.YtkhdghbjififnaaDoor
open Go.RowKit
open Ff
set_option linter.unusedVariables false

/-- What Nameless comes to. -/
def nlO (s : Text) : Option Text := (readS s).map (nlT 24 noF)
def ntO : Option Text → Text
  | some x => x | none => []
set_option maxRecDepth 100000 in
set_option maxHeartbeats 4000000 in
theorem sNameless_c (s : Text) (w : World) (hl : s.length ≤ 9223372036854775807) :
    Calls Tryd.prog 4 #[.string ⟨s.toArray⟩] w fun e w' => e = .returned (.tuple #[.string ⟨(ntO (nlO s)).toArray⟩, .bool (nlO s).isSome]) ∧ Below w.heap.size w w' := by
  have C1 := sread_c s w hl
  rcases hr : readS s with _ | t
  · have hO : nlO s = none := by unfold nlO; rw [hr]; rfl
    rw [hO]
    rw [hr] at C1
    clear hr hO
    go_enter Tryd.func4, Tryd.ntmps4
    go_wp2_with fail
    refine C1.mono ?_
    clear C1
    rintro e w1 ⟨rfl, hb1⟩
    unfold zeroTm
    go_wp2_with fail
    go_ret2
    exact ⟨rfl, hb1.alloc hb1.size _⟩
  · have hO : nlO s = some (nlT 24 noF t) := by unfold nlO; rw [hr]; rfl
    rw [hO]
    rw [hr] at C1
    obtain ⟨tg, td, tp⟩ := read_facts hr
    clear hr hO
    go_enter Tryd.func4, Tryd.ntmps4
    go_wp2_with fail
    refine C1.mono ?_
    clear C1
    rintro e w1 ⟨v1, rfl, hb1, hrep1⟩
    obtain ⟨x0, x1, x2, x3, x4, x5, rfl⟩ := hrep1.junk
    have hs1 := hb1.size
    have hB1 := hb1.alloc hs1 (tmO x0 x1 x2 x3 x4 x5)
    have K := nlS_c 24 [] noF t w1.heap.size _ (w1.alloc (tmO x0 x1 x2 x3 x4 x5)) td noF_ok inner_nil (by simp) (by omega) (hrep1.keep (fun g hg => Below.heap_alloc _ _ _ hg.2) (fun g hg => hg.2)) (by simp) tg
    clear hrep1
    go_wp2_with (go_at_call 7; refine K.mono ?_; clear K; rintro e w2 ⟨rfl, hb2⟩)
    go_ret2
    exact ⟨rfl, hB1.trans (hb2.mono hB1.size)⟩
end Go.Proofs.YtkhdghbjififnaaDoor
