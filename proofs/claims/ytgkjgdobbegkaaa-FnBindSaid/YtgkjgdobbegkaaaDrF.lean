/- The model's drawn inputs: which texts l1Word draws. -/
import Derived.Test.YtgkjgdobbegkaaaDrE
namespace Go.Proofs.Ytgkjgdobbegkaaa
open Go.RowKit
open Ff
set_option linter.unusedVariables false
attribute [local irreducible] Calls

theorem of_m {b : Nat} {a : Option Addr} {l c p : Nat} {w0 w : World} (h : DG b a l c w0 p w) (ss : List Text) (t : TypeId) (hp : p ≤ 1000000) (hn : 1 ≤ ss.length) (hn2 : ss.length ≤ 1000000) :
    Calls Try.prog 41 #[.pointer (some ⟨b, 0, none⟩), .slice (some ⟨w.heap.size, 0, none⟩) ss.length ss.length] (w.alloc (.cells (ss.map (fun s => Value.string ⟨s.toArray⟩)).toArray t)) fun e w' => ∃ s : Text, s ∈ ss ∧ e = .returned (.string ⟨s.toArray⟩) ∧ DG b a l c w0 (p + 1) w' :=
  (of_c (h.dr.alloc _) w.heap.size ss ss.length (row_new w ss t) (by have := h.dr.lt; omega) hp hn hn2).mono fun e w' ⟨s, hs, he, h1, h2⟩ => ⟨s, hs, he, h1, grownBy_trans h.gr (grownBy_trans (grownBy_alloc (World.grownBy.refl _ _) _) h2)⟩
theorem words_all : ∀ s ∈ ([[97], [98], [99], [101], [100], [112], [113], [], [97, 98], [49]] : List Text), s.length ≤ 1 ∨ s = [97, 98] := by decide
set_option maxHeartbeats 1000000 in
theorem word2_c {b : Nat} {a : Option Addr} {l c p : Nat} {w0 w : World} (h : DG b a l c w0 p w) (hp : p ≤ 100000) :
    Calls Try.prog 26 #[.pointer (some ⟨b, 0, none⟩)] w fun e w' => ∃ s : Text, e = .returned (.string ⟨s.toArray⟩) ∧ (s.length ≤ 1 ∨ s = [97, 98]) ∧ DG b a l c w0 (p + 1) w' := by
  go_enter Try.func26, Try.ntmps26
  go_wp2_with fail
  refine (of_m h [[97], [98], [99], [101], [100], [112], [113], [], [97, 98], [49]] _ (by omega) (by decide) (by decide)).mono ?_; rintro e w1 ⟨s, hs, rfl, hD⟩
  have HS := Lib.hid (words_all s hs)
  clear hs
  go_wp2_with fail
  go_ret
  exact ⟨s, rfl, HS.out, hD⟩
set_option maxHeartbeats 1000000 in
theorem drawCountFree2_c (a : Option Addr) (l c : Nat) (w : World) (h : Src w a l c) :
    Calls Try.prog 7 #[.slice a l c] w fun e w' => ∃ s n : Text, e = .returned (.tuple #[.string ⟨s.toArray⟩, .string ⟨n.toArray⟩]) ∧ s.length ≤ 5000 ∧ (n.length ≤ 1 ∨ n = [97, 98]) ∧ Below w.heap.size w w' := by
  go_enter Try.func7, Try.ntmps7
  go_wp2_with fail
  refine (open_c a l c w h).mono ?_; rintro e w1 ⟨l', rfl, hD⟩
  go_wp2_with fail
  refine (any_c _ _ _ _ _ _ _ hD (by omega)).mono ?_; rintro e w2 ⟨s, p', rfl, hs, hp, hD2⟩
  go_wp2_with fail
  refine (word2_c hD2 (by omega)).mono ?_; rintro e w3 ⟨n, rfl, hn, hD3⟩
  have HN := Lib.hid hn
  clear hn
  go_wp2_with fail
  go_ret2
  exact ⟨s, n, rfl, hs, HN.out, hD3.below⟩
end Go.Proofs.Ytgkjgdobbegkaaa
