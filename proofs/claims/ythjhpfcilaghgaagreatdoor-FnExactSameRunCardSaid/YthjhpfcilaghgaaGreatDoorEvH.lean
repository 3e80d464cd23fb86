import Derived.Test.YthjhpfcilaghgaaGreatDoorEvG
/- The program's closures: the body of one. -/
namespace Go.Proofs.YthjhpfcilaghgaaGreatDoor
open Go.RowKit Go.Shelf
open Ff
set_option linter.unusedVariables false
variable {X : Nat → Prop}
attribute [local irreducible] Calls
attribute [local go_sem] storeIF

/-- A value in a box, and the result's block. -/
def vW (w : World) (a0 a1 : Value) : World := (w.alloc (.cells #[a0, a1] 105)).alloc (.cells #[.int .i64 0, .nilIface] 105)
theorem vW_facts (w : World) (a0 a1 : Value) : ((vW w a0 a1).heap.size = w.heap.size + 2 ∧ Below w.heap.size w (vW w a0 a1)) ∧ (vW w a0 a1).cell? ⟨w.heap.size, 0, none⟩ = some a0 ∧ (vW w a0 a1).cell? ⟨w.heap.size, 1, none⟩ = some a1 ∧ ∃ z0 z1, (vW w a0 a1).heap[w.heap.size + 1]? = some (.cells #[z0, z1] 105 (0, 0)) := by
  refine ⟨⟨by simp [vW], ((Below.refl _ w).alloc (Nat.le_refl _) _).alloc (by simp) _⟩, by simp [vW, go_sem], by simp [vW, go_sem], .int .i64 0, .nilIface, ?_⟩
  have := World.alloc_heap_new (w.alloc (.cells #[a0, a1] 105)) (.cells #[.int .i64 0, .nilIface] 105)
  simpa [vW] using this
theorem bad_leave {r b : Nat} {cv cv1 : Rw} {w w6 w7 : World} {s s1 : St} {o o2 : Ou} {c : List PanicEntry} (h2 : o2 = o.next fun z s => .ok z s.leave) (ho : o.bad) (h : EvPost (AndX X b) r cv1 w6 s1 o (.panicked c) w7) (hK : Kep r cv w cv1 w6) (hd : s1.depth = s.depth + 1) (hd2 : s.depth ≤ 50) (tmps : Array Value) :
    Leaves Tryz.prog Tryz.f96 tmps (EvPost X r cv w s o2) [{ target := .fn (.func 106) #[], args := #[ptr r] }] (.panicking c) w7 := by
  obtain ⟨hc, cv7, s7, hR7, hK7, hd7⟩ := (evPost_bad ho _ _ _ _ _ _).1 h
  injection hc with hc
  subst hc
  refine leaves_cons (f := 106) (args := #[ptr r]) (by simp) (by simp [go_sem]) ?_
  refine (leaveCall_c r cv7 s7 _ hR7.bare (by omega) (by omega) _).mono ?_
  rintro e u' w9 ⟨rfl, rfl, hR9, hK9⟩
  have key : EvPost X r cv w s o2 (.panicked (panC o)) w9 := by
    rw [h2, Ou.next_bad ho]
    exact (evPost_bad ho _ _ _ _ _ _).2 ⟨rfl, cv7, _, hR9, (hK.trans hK7).trans hK9, by simp only [St.leave]; omega⟩
  rcases panC_cases ho with hp | hp <;> rw [hp] at key ⊢ <;> exact key
/-- What lies within a call comes to. -/
def callO (n : Nat) (t : Tm) (i : Nat) (e : En) (s1 s2 : St) : Ou := if 50 ≤ s1.depth then .long else (ev n t i e s2).next fun z s => .ok z s.leave
set_option maxRecDepth 100000 in
set_option maxHeartbeats 4000000 in
theorem evalBody_c (n : Nat) (ih : EvC n) (t : Tm) (i : Nat) (e : En) (s1 s2 : St) (r : Nat) (cv : Rw) (pv ep : Value) (w : World) (h2 : { s1 with calls := s1.calls + 1, depth := s1.depth + 1, deepest := max s1.deepest (s1.depth + 1) } = s2) (hn : 1501 ≤ s2.steps + n) (hB : s1.depth < 50 → StB s2) (hc : s1.calls ≤ 100000) (hd : s1.depth ≤ 50) (hok : TmOk t i e) (hR : RunAt X r cv w s1)
    (hP : PlaceR (Safe X r cv w) w t i pv) (hE : RepE r (Safe X r cv w) w e ep) :
    Calls Tryz.prog 96 #[ptr r, pv, ep] w (EvPost X r cv w s1 (callO n t i e s1 s2)) := by
  obtain ⟨pb, rfl⟩ := hP.form
  obtain ⟨qe, rfl⟩ := hE.form
  have hr0 := hR.lt
  have zb := (Below.refl w.heap.size w).alloc (Nat.le_refl _) (.cells #[.int .i64 0, .nilIface] 105)
  have zz := res_block w
  have zs : (w.alloc (.cells #[.int .i64 0, .nilIface] 105)).heap.size = w.heap.size + 1 := by simp
  go_enter_defers Tryz.func96, Tryz.ntmps96
  generalize hW1 : w.alloc (.cells #[.int .i64 0, .nilIface] 105) = W1 at zb zz zs
  obtain ⟨z0, z1, zz⟩ := zz
  have K1 := Kep.below (r := r) (cv := cv) zb
  have C := enterCall_c r cv s1 W1 (hR.below zb) hc hd
  go_wp2_with fail
  by_cases hd5 : 50 ≤ s1.depth
  · refine C.mono ?_
    rintro e' w' (⟨_, rfl, rfl⟩ | ⟨h, _⟩)
    · show EvPost X r cv w s1 (callO n t i e s1 s2) (.panicked longC) _
      unfold callO
      rw [if_pos hd5]
      exact ⟨rfl, cv, s1, hR.below zb, K1, rfl⟩
    · omega
  · refine C.mono ?_
    rintro e' w4 (⟨h, _⟩ | ⟨_, rfl, hR4, hK4⟩)
    · omega
    clear C
    rw [h2] at hR4
    have hs4 := hK4.size
    have hd2 : s2.depth = s1.depth + 1 := by rw [← h2]
    have H := (K1.trans hK4).hide (X := X) (b := w.heap.size) (Nat.le_refl _)
    have D := ih (AndX X w.heap.size) t i e s2 r cv (ptr pb) (.pointer qe) w4 hn (hB (by omega)) hok (hR4.hide (by omega)) (hP.keep H) (hE.keep H)
    have hW := ev_ok n _ _ _ s2 hok
    have hCO : callO n t i e s1 s2 = (ev n t i e s2).next fun z s => .ok z s.leave := if_neg hd5
    generalize ev n t i e s2 = o at D hW hCO
    have HC := Lib.hid hCO
    clear hCO h2
    have q0 : Safe X r cv W1 w.heap.size := hR.new (Nat.le_refl _) (by omega)
    go_wp2_with fail
    rcases Ou.cases o with ⟨v, s3, rfl⟩ | ho
    · have hd3 : s3.depth = s1.depth + 1 := by rw [← hd2]; exact hW.2.depth
      clear hW
      refine D.mono ?_
      rintro e' w7 ⟨x, cv7, rfl, hv, hR7, hK7⟩
      obtain ⟨u0, u1, rfl, ⟨mu, rfl⟩, ⟨qu, rfl⟩⟩ := hv.form
      have hK47 := hK4.trans hK7
      have hbo7 : ¬ cv7.own w.heap.size := fun e => by
        rcases hK47.own _ e with h | h
        · have := (hR.owns _ h).2; omega
        · omega
      obtain ⟨t0, t1, t2, t3⟩ := two_of ((hK47.safe q0).1.trans zz)
      have hs7 := hK7.size
      obtain ⟨hv8, hR8, hK8⟩ := ev_out0 hR (b := w.heap.size) (Nat.le_refl _) hv hR7 (K1.trans hK47) (by omega) hbo7
      obtain ⟨j0, j1⟩ := set_two (u0 := .int .i64 mu) (u1 := IF qu) t0 t1
      go_wp2_with fail
      refine leaves_cons (f := 106) (args := #[ptr r]) (by simp) (by simp [go_sem]) ?_
      refine (leaveCall_c r cv7 s3 _ hR8 (by omega) (by omega) _).mono ?_
      rintro e u' w9 ⟨rfl, rfl, hR9, hK9⟩
      have hsf : Safe X r cv7 ((w7.setCell ⟨w.heap.size, 0, none⟩ (.int .i64 mu)).setCell ⟨w.heap.size, 1, none⟩ (IF qu)) w.heap.size := ⟨by simp; omega, by omega, hbo7, fun e => by have := hR.priv _ e; omega⟩
      refine ⟨.agg #[.int .i64 mu, IF qu], by simp [results, Tryz.results96, go_sem, hK9.cell hsf j0, hK9.cell hsf j1], ?_⟩
      rw [HC.out]
      exact ⟨_, cv7, rfl, hK9.rep hv8, hR9, hK8.trans hK9⟩
    · clear hW
      refine D.mono ?_
      intro e' w7 h
      obtain ⟨hc', _⟩ := (evPost_bad ho _ _ _ _ _ _).1 h
      subst hc'
      exact bad_leave HC.out ho h (K1.trans hK4) hd2 hd _
theorem evPost_depth {r : Nat} {cv : Rw} {w w' : World} {s s2 : St} {o : Ou} {e : Ending} (hd : s.depth = s2.depth) (h : EvPost X r cv w s o e w') : EvPost X r cv w s2 o e w' := by
  cases o with
  | ok v s' => exact h
  | fault => obtain ⟨h1, cv', s', h2, h3, h4⟩ := h; exact ⟨h1, cv', s', h2, h3, h4.trans hd⟩
  | long => obtain ⟨h1, cv', s', h2, h3, h4⟩ := h; exact ⟨h1, cv', s', h2, h3, h4.trans hd⟩
end Go.Proofs.YthjhpfcilaghgaaGreatDoor
