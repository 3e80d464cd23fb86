import Derived.Test.YtefmmgccdpfnaaaGreatDoorStU
import Derived.Test.YtefmmgccdpfnaaaGreatDoorMSj
/- The program's StepOf. -/
namespace Go.Proofs.YtefmmgccdpfnaaaGreatDoor
open Go.RowKit Go.Shelf
open Ff
set_option linter.unusedVariables false

theorem stepT_facts {t : Tm} (hg : t.good) {r : Tm × Text} (h : stepT t = some r) : r.1.good ∧ (textN r.1).length ≤ 1500 ∧ (parts r.1).length ≤ 1500 := by
  unfold stepT at h
  split at h
  · cases h
  · rcases hr : ruleT (partAt t (redexP t)) with _ | q
    · rw [hr] at h; cases h
    · rw [hr] at h
      simp only [Option.bind_some] at h
      split at h
      · rename_i hl
        injection h with h
        subst h
        have hq := rule_good ((part_at_facts t (redexP t) (redexP_ok t)).1 hg) hr
        have hm := own_many (parts (withAt t (redexP t) q.1))
        rw [own_sum] at hm
        exact ⟨(with_ok (redexP t) t q.1 (redexP_ok t)).good hg hq, hl, by show (parts (withAt t (redexP t) q.1)).length ≤ 1500; omega⟩
      · cases h
/-- What StepOf comes to. -/
def stepSV : Option (Tm × Text) → Value
  | some r => .tuple #[.string ⟨(textN r.1).toArray⟩, .string ⟨r.2.toArray⟩, .bool true]
  | none => .tuple #[.string ⟨#[]⟩, .string ⟨#[]⟩, .bool false]
set_option maxRecDepth 100000 in
set_option maxHeartbeats 2000000 in
theorem iStepOf_c (s : Text) (w : World) (hl : s.length ≤ 9223372036854775807) :
    Calls Tryz.prog 10 #[.string ⟨s.toArray⟩] w fun e w' => e = .returned (stepSV (stepO s)) ∧ Below w.heap.size w w' := by
  have C := readState_c s w hl
  unfold stepO
  rcases hs : stateO s with _ | t
  · rw [hs] at C
    simp only [encO, Option.isSome_none] at C
    simp only [Option.bind_none, stepSV]
    clear hs
    go_enter Tryz.func10, Tryz.ntmps10
    go_wp2_with fail
    refine C.mono ?_
    rintro e w1 ⟨rfl, hb1⟩
    go_wp2_with fail
    refine bodyPost_ret (v := .tuple #[.string ⟨#[]⟩, .string ⟨#[]⟩, .bool false]) (by simp [results, Tryz.results10, go_sem]) rfl ?_
    exact ⟨rfl, hb1.alloc hb1.size _⟩
  · rw [hs] at C
    obtain ⟨hg, hd, hp, hc⟩ := state_facts hs
    simp only [encO, Option.isSome_some] at C
    simp only [Option.bind_some]
    clear hs
    have K := fun W => iStep_c t W hg hd hp hc
    have F := fun r h => stepT_facts hg (r := r) h
    clear hg hd hp hc
    generalize stepT t = o at *
    obtain ⟨tn, tv, htv⟩ := enc_gen t
    rw [htv] at C
    simp only [htv] at K
    clear htv
    rcases o with _ | r
    · simp only [stepV] at K
      simp only [stepSV]
      clear F
      go_enter Tryz.func10, Tryz.ntmps10
      go_wp2_with (first
        | (go_at_call 33; refine C.mono ?_; clear C; rintro e w1 ⟨rfl, hb1⟩)
        | (go_at_call 34; refine (K _).mono ?_; clear K; rintro e w2 ⟨rfl, hb2⟩))
      refine bodyPost_ret (v := .tuple #[.string ⟨#[]⟩, .string ⟨#[]⟩, .bool false]) (by simp [results, Tryz.results10, go_sem]) rfl ?_
      exact ⟨rfl, ((hb1.alloc hb1.size _).trans (hb2.mono (by have := hb1.size; simp; omega))).alloc (by have := hb1.size; have := hb2.size; simp at this; omega) _⟩
    · obtain ⟨f1, f2, f3⟩ := F r rfl
      have KT := fun W => text_c r.1.depth r.1 (Nat.le_refl _) f1 (by omega) W
      simp only [stepV] at K
      simp only [stepSV]
      simp only [enc_ty r.1] at K
      clear F f1 f2 f3
      go_enter Tryz.func10, Tryz.ntmps10
      go_wp2_with (first
        | (go_at_call 33; refine C.mono ?_; clear C; rintro e w1 ⟨rfl, hb1⟩)
        | (go_at_call 34; refine (K _).mono ?_; clear K; rintro e w2 ⟨rfl, hb2⟩)
        | (refine wpList_invoke rfl _ _ (ty r.1) (pl r.1) rfl rfl (tf r.1) (text_m r.1 _ (by unfold TextName; kernel_rfl) _) (text_f r.1 _) (fun rv w' => rv = .string ⟨(textN r.1).toArray⟩ ∧ Below w.heap.size w w') ((KT _).mono fun e w' ⟨h1, h2⟩ => ⟨_, h1, rfl, (((hb1.alloc hb1.size _).trans (hb2.mono (by have := hb1.size; simp; omega))).alloc (by have := hb1.size; have := hb2.size; simp at this; omega) _).trans (h2.mono (by have := hb1.size; have := hb2.size; simp at this ⊢; omega))⟩) ?_; rintro rv w9 ⟨rfl, hb9⟩))
      refine bodyPost_ret (v := .tuple #[.string ⟨(textN r.1).toArray⟩, .string ⟨r.2.toArray⟩, .bool true]) (by simp [results, Tryz.results10, go_sem]) rfl ?_
      exact ⟨rfl, hb9⟩
end Go.Proofs.YtefmmgccdpfnaaaGreatDoor
