import Derived.Test.YtdgdcfdhfmbacaaGreatDoorSvS
import Derived.Test.YtdgdcfdhfmbacaaGreatDoorMSe
/- The specification's eval: whole. Written by genS.py. -/
namespace Go.Proofs.YtdgdcfdhfmbacaaGreatDoor
open Go.RowKit Go.Shelf
open Ff
set_option linter.unusedVariables false
variable {X : Nat → Prop}
attribute [local irreducible] Calls

theorem scall_c (n : Nat) (ih : SEvC n) : SCallC n := by
  intro X vx vy s rb cv av part fv yv w hn hB hcs hox hoy hR hx hy
  cases vx with
  | num k =>
    cases hx with
    | num _ => exact scall_num rb cv av s k part yv vy w hR hy
  | clo j g e =>
    have hf : isFun g = true := by cases hox; assumption
    cases g with
    | fn c b => exact scall_fn n ih c b j e vy s rb cv av part fv yv w hn hB hcs hox hoy hR hx hy
    | fix f c b => exact scall_fix n ih f c b j e vy s rb cv av part fv yv w hn hB hcs hox hoy hR hx hy
    | _ => simp [isFun] at hf
theorem sev_c (n : Nat) : SEvC n := by
  induction n with
  | zero => intro X t i e s rb cv av tv vv w hn hB; have := hB.steps; omega
  | succ n ih =>
    intro X t i e s rb cv av tv vv w hn hB hok hR hP hE
    by_cases hs : 1500 ≤ s.steps
    · have he : ev (n + 1) t i e s = .long := by show (if 1500 ≤ s.steps then _ else _) = _; rw [if_pos hs]
      rw [he]
      obtain ⟨kk, mm, ss, aa, ll, cc, rfl⟩ := hP.any.junk
      obtain ⟨ae, ce, rfl⟩ := hE.form
      exact sev_long s rb 2 kk mm ss aa ll cc (some ae) _ ce cv av w (by have := hB.steps; omega) hR
    · have he : ev (n + 1) t i e s = evB (ev n) t i e s.step := by show (if 1500 ≤ s.steps then _ else _) = _; rw [if_neg hs]
      rw [he]
      have hn2 : 1501 ≤ s.step.steps + n := by simp only [St.step]; omega
      have hs2 : s.steps < 1500 := by omega
      cases t with
      | num k => exact sev_num n ih k i e s rb cv av tv vv w hn2 hs2 hB hok hR hP hE
      | var c =>
        obtain ⟨v, hv, _⟩ := find_ok hok.env (hok.free c (by simp [sfree]))
        exact sev_var n ih c i e s rb cv av tv vv w hn2 hs2 hB hok hR hP hE v hv
      | fn c b => exact sev_fn n ih c b i e s rb cv av tv vv w hn2 hs2 hB hok hR hP hE
      | fix f c b => exact sev_fix n ih f c b i e s rb cv av tv vv w hn2 hs2 hB hok hR hP hE
      | app f a => exact sev_app n ih (scall_c n ih) f a i e s rb cv av tv vv w hn2 hs2 hB hok hR hP hE
      | bind c v b => exact sev_bind n ih c v b i e s rb cv av tv vv w hn2 hs2 hB hok hR hP hE
      | op o l r => exact sev_op n ih o l r i e s rb cv av tv vv w hn2 hs2 hB hok hR hP hE
      | sel a b c => exact sev_sel n ih a b c i e s rb cv av tv vv w hn2 hs2 hB hok hR hP hE
end Go.Proofs.YtdgdcfdhfmbacaaGreatDoor
