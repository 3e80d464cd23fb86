import Derived.Test.YthjhpfcilaghgaaGreatDoorEvL
import Derived.Test.YthjhpfcilaghgaaGreatDoorEvM
/- The program's evaluate: it comes to what 'ev' says. -/
namespace Go.Proofs.YthjhpfcilaghgaaGreatDoor
open Go.RowKit Go.Shelf
open Ff
set_option linter.unusedVariables false
attribute [local irreducible] Calls

theorem eval_long (t : Tm) (i : Nat) (e : En) (s : St) (X : Nat → Prop) (r : Nat) (cv : Rw) (pv ep : Value) (w : World) (hs : s.steps = 1500) (hR : RunAt X r cv w s) (hP : PlaceR (Safe X r cv w) w t i pv) (hE : RepE r (Safe X r cv w) w e ep) :
    Calls Tryz.prog 57 #[ptr r, pv, ep] w (EvPost X r cv w s .long) := by
  obtain ⟨b, rfl⟩ := hP.form
  obtain ⟨qe, rfl⟩ := hE.form
  have zb := (Below.refl w.heap.size w).alloc (Nat.le_refl _) (.cells #[.int .i64 0, .nilIface] 105)
  go_enter Tryz.func57, Tryz.ntmps57
  generalize hW1 : w.alloc (.cells #[.int .i64 0, .nilIface] 105) = W1 at zb
  have C0 := step_c r cv s W1 (hR.below zb) (by omega)
  go_wp2_with fail
  refine C0.mono ?_
  rintro e' w2 (⟨_, rfl, hR2, hK2⟩ | ⟨h, _⟩)
  · exact ⟨rfl, rfl, cv, s, hR2, (Kep.below zb).trans hK2, rfl⟩
  · omega
theorem eval_c : ∀ n, EvC n
  | 0 => by
    intro X t i e s r cv pv ep w hn hB
    have := hB.steps
    omega
  | n + 1 => by
    intro X t i e s r cv pv ep w hn hB hok hR hP hE
    have ih := eval_c n
    have h1 := hB.steps
    by_cases hs : 1500 ≤ s.steps
    · have : ev (n + 1) t i e s = .long := by simp only [ev]; rw [if_pos hs]
      rw [this]
      exact eval_long t i e s X r cv pv ep w (by omega) hR hP hE
    · have : ev (n + 1) t i e s = evB (ev n) t i e s.step := by simp only [ev]; rw [if_neg hs]
      rw [this]
      have hn2 : 1501 ≤ s.step.steps + n := by simp only [St.step]; omega
      have hs2 : s.steps < 1500 := by omega
      cases t with
      | num k => exact ev_num n ih k i e s r cv pv ep w hn2 hs2 hB hok hR hP hE
      | var c =>
        obtain ⟨v, hv, _⟩ := find_ok hok.env (hok.free c (by simp [sfree]))
        exact ev_var n ih c i e s r cv pv ep w hn2 hs2 hB hok hR hP hE v hv
      | fn c b => exact ev_fn n ih c b i e s r cv pv ep w hn2 hs2 hB hok hR hP hE
      | fix f c b => exact ev_fix n ih f c b (by have h := hok.good.1; simp [isNam] at h; omega) i e s r cv pv ep w hn2 hs2 hB hok hR hP hE
      | app f a => exact ev_app n ih f a i e s r cv pv ep w hn2 hs2 hB hok hR hP hE
      | bind c v b => exact ev_bind n ih c v b i e s r cv pv ep w hn2 hs2 hB hok hR hP hE
      | op o l r0 => exact ev_op n ih o l r0 i e s r cv pv ep w hn2 hs2 hB hok hR hP hE
      | sel a b c => exact ev_sel n ih a b c i e s r cv pv ep w hn2 hs2 hB hok hR hP hE
end Go.Proofs.YthjhpfcilaghgaaGreatDoor
