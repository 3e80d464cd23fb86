import Derived.Test.YtojbffiffcfblaaPsF
import Derived.Test.YtojbffiffcfblaaPsN
import Derived.Test.YtojbffiffcfblaaPuW
import Derived.Test.YtojbffiffcfblaaMTx
import Derived.Test.YtojbffiffcfblaaMSc
import Derived.Test.YtojbffiffcfblaaMCl
/- The specification's putting, at every term; Put. -/
namespace Go.Proofs.Ytojbffiffcfblaa
open Go.RowKit
open Ff
set_option linter.unusedVariables false

theorem fits_read {t : Tm} (hg : t.good) : (readS (textN t)).isSome = fitsT t := by
  unfold fitsT
  rcases hr : readS (textN t) with _ | t'
  · rw [Option.isSome_none, eq_comm, Bool.and_eq_false_iff, decide_eq_false_iff_not, decide_eq_false_iff_not]
    apply Classical.byContradiction
    intro h
    simp only [not_or, Classical.not_not] at h
    rw [text_readS hg h.2 h.1] at hr
    cases hr
  · obtain ⟨r, h1, rfl, hlen⟩ := readS_some hr
    have e : t' = t := by
      have h2 := text_parse t hg (t.depth + t'.depth + (textN t).length) [] (by omega)
      rw [List.append_nil] at h2
      have h3 := (parse_any _ _ _ _ h1).2 (t.depth + t'.depth + (textN t).length) (by have := (parse_any _ _ _ _ h1).1; omega)
      rw [h2] at h3
      simp at h3
      exact h3.symm
    subst e
    have h2 := parse_depth _ _ _ _ h1
    simp [hlen, h2]
theorem Rep.low {S : Nat → Prop} {w : World} {t : Tm} {v : Value} {B : Nat} (h : Rep S w t v) (hS : ∀ g, S g → g < B) : Rep (fun g => g < B) w t v := h.keep (fun _ _ => rfl) (fun g hg => hS g hg)
theorem box_far {W : World} {b : Nat} {z0 z1 z2 z3 : Value} {t : TypeId} {o : Obj} (h : W.heap[b]? = some (.cells #[z0, z1, z2, z3] t (0, 0))) : (W.alloc o).heap[b]? = some (.cells #[z0, z1, z2, z3] t (0, 0)) := by
  rw [alloc_far _ _ (Array.getElem?_eq_some_iff.1 h).1]; exact h
end Go.Proofs.Ytojbffiffcfblaa
