import Derived.Test.YtcabmcpalgpfpaaRnB
import Derived.Test.YtcabmcpalgpfpaaRnD
import Derived.Test.YtcabmcpalgpfpaaRnG
import Derived.Test.YtcabmcpalgpfpaaRnI
/- The specification's Rename, whole; the exact law. -/
namespace Go.Proofs.Ytcabmcpalgpfpaa
open Go.RowKit
open Ff
set_option linter.unusedVariables false
attribute [local irreducible] Calls

theorem if_iff {α : Type} {p q : Prop} [Decidable p] [Decidable q] {a b : α} (h : p ↔ q) : (if p then a else b) = if q then a else b := by
  by_cases hq : q
  · rw [if_pos (h.2 hq), if_pos hq]
  · rw [if_neg (fun e => hq (h.1 e)), if_neg hq]
theorem sRename_c (s n m : Text) (w : World) (hl : s.length ≤ 9223372036854775807) (hl2 : n.length ≤ 9223372036854775807) (hl3 : m.length ≤ 9223372036854775807) :
    Calls Try.prog 4 #[.string ⟨s.toArray⟩, .string ⟨n.toArray⟩, .string ⟨m.toArray⟩] w fun e w' => e = .returned (.tuple #[.string ⟨(textO (renO s n m)).toArray⟩, .bool (renO s n m).isSome]) ∧ Below w.heap.size w w' := by
  by_cases h : ∃ t x y, readS s = some t ∧ nameOf n = some x ∧ nameOf m = some y ∧ x ∈ bindsOf t ∧ (x = y ∨ y ∉ bindsOf t)
  · obtain ⟨t, x, y, hr, hn, hm, hxb, hc⟩ := h
    have e := renO_eq hr hn hm
    obtain ⟨rfl, hx⟩ := name_some hn
    obtain ⟨rfl, hy⟩ := name_some hm
    by_cases hxy : x = y
    · exact sRename_A s x y t w hl hr hn hm hxb hxy _ (by rw [e]; exact if_iff ⟨fun h => by rcases h with h | ⟨h, _⟩ | h; exact absurd hxb h; exact absurd hxy h; exact .inr h, fun h => by rcases h with ⟨h, _⟩ | h; exact absurd hxy h; exact .inr (.inr h)⟩)
    · have hyb : y ∉ bindsOf t := by
        rcases hc with hc | hc
        · exact absurd hc hxy
        · exact hc
      exact sRename_B s x y t w hl hr hn hm hxb hxy hyb _ (by rw [e]; exact if_iff ⟨fun h => by rcases h with h | ⟨_, h | h⟩ | h; exact absurd hxb h; exact absurd h hyb; exact .inl ⟨hxy, h⟩; exact .inr h, fun h => by rcases h with ⟨_, h⟩ | h; exact .inr (.inl ⟨hxy, .inr h⟩); exact .inr (.inr h)⟩)
  · refine sRename_no s n m w hl hl2 hl3 fun t x y hr hn hm hxb => ?_
    by_cases hxy : x = y
    · exact absurd ⟨t, x, y, hr, hn, hm, hxb, .inl hxy⟩ h
    · refine ⟨hxy, ?_⟩
      apply Classical.byContradiction
      intro hyb
      exact h ⟨t, x, y, hr, hn, hm, hxb, .inr hyb⟩
end Go.Proofs.Ytcabmcpalgpfpaa
