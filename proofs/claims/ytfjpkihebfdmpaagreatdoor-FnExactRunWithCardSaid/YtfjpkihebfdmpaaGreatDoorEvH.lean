import Derived.Test.YtfjpkihebfdmpaaGreatDoorEvG
/- The program's closures: the body of one. -/
namespace Go.Proofs.YtfjpkihebfdmpaaGreatDoor
open Go.RowKit Go.Shelf
open Ff
set_option linter.unusedVariables false
variable {X : Nat → Prop}
attribute [local irreducible] Calls

/-- A value in a box, and the result's block. -/
def vW (w : World) (a0 a1 : Value) : World := (w.alloc (.cells #[a0, a1] 99)).alloc (.cells #[.int .i64 0, .pointer none] 99)
theorem vW_facts (w : World) (a0 a1 : Value) : ((vW w a0 a1).heap.size = w.heap.size + 2 ∧ Below w.heap.size w (vW w a0 a1)) ∧ (vW w a0 a1).cell? ⟨w.heap.size, 0, none⟩ = some a0 ∧ (vW w a0 a1).cell? ⟨w.heap.size, 1, none⟩ = some a1 ∧ ∃ z0 z1, (vW w a0 a1).heap[w.heap.size + 1]? = some (.cells #[z0, z1] 99 (0, 0)) := by
  refine ⟨⟨by simp [vW], ((Below.refl _ w).alloc (Nat.le_refl _) _).alloc (by simp) _⟩, by simp [vW, go_sem], by simp [vW, go_sem], .int .i64 0, .pointer none, ?_⟩
  have := World.alloc_heap_new (w.alloc (.cells #[a0, a1] 99)) (.cells #[.int .i64 0, .pointer none] 99)
  simpa [vW] using this
set_option maxRecDepth 100000 in
set_option maxHeartbeats 4000000 in
theorem clobody_c (n : Nat) (ih : EvC n) (g : Tm) (j : Nat) (e : En) (y : Vl) (s : St) (r : Nat) (cv x : Value) (w : World) (b br bp be bx : Nat) (pl0 ee e0 : Value) (hn : 1501 ≤ s.steps + n) (hB : StB s) (hf : isFun g = true) (hok : TmOk (bodyOf g) (j + 1) (bodyEn g j e y)) (hR : RunAt X r cv w s)
    (hv : RepV r (Safe X r cv w) w (.clo j g e) (.agg #[.int .i64 0, ptr b]))
    (hbr : Safe X r cv w br) (cr : w.cell? ⟨br, 0, none⟩ = some (ptr r)) (hbp : Safe X r cv w bp) (cp : w.cell? ⟨bp, 0, none⟩ = some pl0) (hp : PlaceR (Safe X r cv w) w g j pl0)
    (hbe : Safe X r cv w be) (ce : w.cell? ⟨be, 0, none⟩ = some ee) (hbx : Safe X r cv w bx) (cx : w.cell? ⟨bx, 1, none⟩ = some (.int .u8 ((paramOf g).toNat : Int)))
    (hee : CloEnv (Safe X r cv w) w g b ee e0) (he : RepE r (Safe X r cv w) w e e0) (hy : RepV r (Safe X r cv w) w y x) :
    Calls Tryz.prog 94 #[x, ptr br, ptr bp, ptr be, ptr bx] w (EvPost X r cv w s (ev n (bodyOf g) (j + 1) (bodyEn g j e y) s)) := by
  obtain ⟨a0, a1, rfl, ⟨m, rfl⟩, ⟨q, rfl⟩⟩ := hy.form
  obtain ⟨bl, gk, cap, pk, rfl, hbl, hgk, p3, p4, hpk⟩ := kid_place hp (fun_kid hf).1
  rw [(fun_kid hf).2.1] at p3
  rw [(fun_kid hf).2.2] at hpk
  obtain ⟨pb, rfl⟩ := hpk.form
  obtain ⟨⟨qe, rfl⟩, htop⟩ := cloEnv_form hee he
  have hb0 := hbr.1
  have hb1 := hbp.1
  have hb2 := hbe.1
  have hb3 := hbx.1
  have hb4 := hbl.1
  have hb5 := hgk.1
  go_enter Tryz.func94, Tryz.ntmps94
  go_wp2_with fail
  have z := vW_facts w (.int .i64 m) (.pointer q)
  change Code.wp _ _ _ _ (vW w (.int .i64 m) (.pointer q))
  generalize vW w (.int .i64 m) (.pointer q) = W2 at z ⊢
  obtain ⟨⟨zs, zb⟩, z0, z1, zz0, zz1, z2⟩ := z
  have d0 := (zb.cell (p := ⟨br, 0, none⟩) hb0).trans cr
  have d1 := (zb.cell (p := ⟨bp, 0, none⟩) hb1).trans cp
  have d2 := (zb.cell (p := ⟨be, 0, none⟩) hb2).trans ce
  have d3 := (zb.cell (p := ⟨bx, 1, none⟩) hb3).trans cx
  have d4 := (zb.cell (p := ⟨bl, 3, none⟩) hb4).trans p3
  have d5 := (zb.cell (p := ⟨gk, 0, none⟩) hb5).trans p4
  have C := with_c (.pointer qe) (paramOf g) (.int .i64 m) (.pointer q) ⟨_, rfl⟩ ⟨_, rfl⟩ ⟨_, rfl⟩ W2.drew
  have C2 : Calls Tryz.prog 51 #[.pointer qe, .int .u8 ((paramOf g).toNat : Int), .agg #[.int .i64 m, .pointer q]] W2.drew fun e' w' => ∃ x, e' = .returned x ∧ (∃ bs, x = ptr bs ∧ W2.heap.size ≤ bs ∧ bs < w'.heap.size ∧ Below W2.heap.size W2 w' ∧ w'.cell? ⟨bs, 0, none⟩ = some (.int .u8 ((paramOf g).toNat : Int)) ∧ w'.cell? ⟨bs, 1, none⟩ = some (.int .i64 m) ∧ w'.cell? ⟨bs, 2, none⟩ = some (.pointer q) ∧ w'.cell? ⟨bs, 3, none⟩ = some (.pointer qe)) ∧ w'.cell? ⟨br, 0, none⟩ = some (ptr r) ∧ w'.cell? ⟨bp, 0, none⟩ = some (ptr bl) ∧ w'.cell? ⟨bl, 3, none⟩ = some (.slice (some ⟨gk, 0, none⟩) 1 cap) ∧ w'.cell? ⟨gk, 0, none⟩ = some (ptr pb) ∧ w'.cell? ⟨be, 0, none⟩ = some (.pointer qe) ∧ w'.cell? ⟨bx, 1, none⟩ = some (.int .u8 ((paramOf g).toNat : Int)) ∧ w'.cell? ⟨w.heap.size, 0, none⟩ = some (.int .i64 m) ∧ w'.cell? ⟨w.heap.size, 1, none⟩ = some (.pointer q) := C.mono (by
      rintro e' w' ⟨bs, rfl, q1, q2, q3, q4, q5, q6, q7⟩
      have q8 : Below W2.heap.size W2 w' := ((Below.refl _ W2).drew).trans q3
      exact ⟨_, rfl, ⟨bs, rfl, q1, q2, q8, q4, q5, q6, q7⟩, (q8.cell (by show br < _; omega)).trans d0, (q8.cell (by show bp < _; omega)).trans d1, (q8.cell (by show bl < _; omega)).trans d4, (q8.cell (by show gk < _; omega)).trans d5, (q8.cell (by show be < _; omega)).trans d2, (q8.cell (by show bx < _; omega)).trans d3, (q8.cell (by show w.heap.size < _; omega)).trans z0, (q8.cell (by show w.heap.size < _; omega)).trans z1⟩)
  clear C
  have D : ∀ w3 bs, W2.heap.size ≤ bs → bs < w3.heap.size → Below W2.heap.size W2 w3 → w3.cell? ⟨bs, 0, none⟩ = some (.int .u8 ((paramOf g).toNat : Int)) → w3.cell? ⟨bs, 1, none⟩ = some (.int .i64 m) → w3.cell? ⟨bs, 2, none⟩ = some (.pointer q) → w3.cell? ⟨bs, 3, none⟩ = some (.pointer qe) →
      Calls Tryz.prog 57 #[ptr r, ptr pb, ptr bs] w3 fun e' w' => EvPost (AndX X (w.heap.size + 1)) r cv w3 s (ev n (bodyOf g) (j + 1) (bodyEn g j e y) s) e' w' ∧ Kep r cv w cv w3 ∧ W2.heap.size ≤ w3.heap.size ∧ (∃ z0 z1, w'.heap[w.heap.size + 1]? = some (.cells #[z0, z1] 99 (0, 0))) ∧ w'.cell? ⟨br, 0, none⟩ = some (ptr r) ∧ w'.cell? ⟨bp, 0, none⟩ = some (ptr bl) ∧ w'.cell? ⟨bl, 3, none⟩ = some (.slice (some ⟨gk, 0, none⟩) 1 cap) ∧ w'.cell? ⟨gk, 0, none⟩ = some (ptr pb) ∧ w'.cell? ⟨be, 0, none⟩ = some (.pointer qe) ∧ w'.cell? ⟨bx, 1, none⟩ = some (.int .u8 ((paramOf g).toNat : Int)) ∧ w'.cell? ⟨w.heap.size, 0, none⟩ = some (.int .i64 m) ∧ w'.cell? ⟨w.heap.size, 1, none⟩ = some (.pointer q) := by
    intro w3 bs q1 q2 q3 q4 q5 q6 q7
    have hb := zb.trans (q3.mono (by omega))
    have H : ∀ g, Safe X r cv w g → w3.heap[g]? = w.heap[g]? ∧ Safe (AndX X (w.heap.size + 1)) r cv w3 g := (Kep.below hb).hide (Nat.le_succ _)
    have hs : Safe (AndX X (w.heap.size + 1)) r cv w3 bs := ((hR.below hb).hide (b := w.heap.size + 1) (by omega)) |> fun h => ⟨q2, by have := (Array.getElem?_eq_some_iff.1 hR.cells).1; omega, fun e => by have := (World.ownsRow.lt hR.row bs e).2; omega, fun e => by rcases e with e | e; (have := hR.priv bs e; omega); omega⟩
    refine (ih _ _ _ _ _ _ _ _ _ _ hn hB hok ((hR.below hb).hide (by omega)) (hpk.keep H) (body_env hf (hv.keep H) (hee.keep H) (he.keep H) (hy.keep H) hs q4 q5 q6 q7 (by have := htop w.heap.size (fun g hg => hg.1); omega))).mono ?_
    intro e' w' h
    obtain ⟨cv', hk⟩ := evPost_kep h
    have hk2 := (Kep.below (r := r) (cv := cv) hb).trans hk
    have hkz : ∀ k v, W2.cell? ⟨w.heap.size, k, none⟩ = some v → w'.cell? ⟨w.heap.size, k, none⟩ = some v := fun k v hv => hk.cell (X := X) ((hR.new (Nat.le_refl _) (by omega))) ((q3.cell (by show w.heap.size < _; omega)).trans hv)
    exact ⟨h, Kep.below hb, q3.size, ⟨zz0, zz1, ((hk.safe (X := X) (hR.new (Nat.le_succ _) (by omega))).1.trans (q3.block _ (by omega))).trans z2⟩, hk2.cell hbr cr, hk2.cell hbp cp, hk2.cell hbl p3, hk2.cell hgk p4, hk2.cell hbe ce, hk2.cell hbx cx, hkz _ _ z0, hkz _ _ z1⟩
  clear cr cp ce cx p3 p4
  clear hp hpk hee he hy hv
  have n6 : w.heap.size ≠ w.heap.size + 1 := by omega
  have n0 : br ≠ w.heap.size + 1 := by omega
  have n1 : bp ≠ w.heap.size + 1 := by omega
  have n2 : be ≠ w.heap.size + 1 := by omega
  have n3 : bx ≠ w.heap.size + 1 := by omega
  have n4 : bl ≠ w.heap.size + 1 := by omega
  have n5 : gk ≠ w.heap.size + 1 := by omega
  rcases Ou.cases (ev n (bodyOf g) (j + 1) (bodyEn g j e y) s) with ⟨v, s', ho⟩ | ho
  · rw [ho] at D ⊢
    go_region_held3 (fun w' => w'.cell? ⟨br, 0, none⟩ = some (ptr r) ∧ w'.cell? ⟨bp, 0, none⟩ = some (ptr bl) ∧ w'.cell? ⟨bl, 3, none⟩ = some (.slice (some ⟨gk, 0, none⟩) 1 cap) ∧ w'.cell? ⟨gk, 0, none⟩ = some (ptr pb) ∧ w'.cell? ⟨be, 0, none⟩ = some (.pointer qe) ∧ w'.cell? ⟨bx, 1, none⟩ = some (.int .u8 ((paramOf g).toNat : Int)) ∧ w'.cell? ⟨w.heap.size, 0, none⟩ = some (.int .i64 m) ∧ w'.cell? ⟨w.heap.size, 1, none⟩ = some (.pointer q))
      (first | (simp only [set_far _ _ _ _ _ _ n0, set_far _ _ _ _ _ _ n1, set_far _ _ _ _ _ _ n2, set_far _ _ _ _ _ _ n3, set_far _ _ _ _ _ _ n4, set_far _ _ _ _ _ _ n5, set_far _ _ _ _ _ _ n6]; refine ⟨?_, ?_, ?_, ?_, ?_, ?_, ?_, ?_⟩ <;> assumption) | (refine ⟨?_, ?_, ?_, ?_, ?_, ?_, ?_, ?_⟩ <;> assumption) | go_keep)
      (first | (refine C2.mono ?_; rintro e' w3 ⟨x, rfl, ⟨bs, rfl, q1, q2, q3, q4, q5, q6, q7⟩, k0, k1, k2, k3, k4, k5, k6, k7⟩) | (refine (D _ _ q1 q2 q3 q4 q5 q6 q7).mono ?_; rintro e' w4 ⟨⟨x, cv', rfl, hv, hR4, hK4⟩, hK3, hsz, ⟨y0, y1, hz⟩, k0, k1, k2, k3, k4, k5, k6, k7⟩; obtain ⟨u0, u1, rfl, ⟨mu, rfl⟩, ⟨qu, rfl⟩⟩ := hv.form; obtain ⟨t0, t1, t2, t3⟩ := two_of hz))
    go_wp2_with fail
    refine bodyPost_ret (v := .agg #[.int .i64 mu, .pointer qu]) (by simp [results, Tryz.results94, go_sem, t0, t1]) rfl ?_
    rw [ho]
    refine ev_out (b := w.heap.size + 1) hR (Nat.le_succ _) hv hR4 (hK3.trans hK4) (by have := hK4.size; omega) (fun e => ?_)
    rcases hK4.own _ e with h | h
    · have := (World.ownsRow.lt hR.row _ h).2; omega
    · omega
  · generalize hO : ev n (bodyOf g) (j + 1) (bodyEn g j e y) s = o at D ho ⊢
    go_region_held (fun w' => w'.cell? ⟨br, 0, none⟩ = some (ptr r) ∧ w'.cell? ⟨bp, 0, none⟩ = some (ptr bl) ∧ w'.cell? ⟨bl, 3, none⟩ = some (.slice (some ⟨gk, 0, none⟩) 1 cap) ∧ w'.cell? ⟨gk, 0, none⟩ = some (ptr pb) ∧ w'.cell? ⟨be, 0, none⟩ = some (.pointer qe) ∧ w'.cell? ⟨bx, 1, none⟩ = some (.int .u8 ((paramOf g).toNat : Int)) ∧ w'.cell? ⟨w.heap.size, 0, none⟩ = some (.int .i64 m) ∧ w'.cell? ⟨w.heap.size, 1, none⟩ = some (.pointer q))
      (first | (simp only [set_far _ _ _ _ _ _ n0, set_far _ _ _ _ _ _ n1, set_far _ _ _ _ _ _ n2, set_far _ _ _ _ _ _ n3, set_far _ _ _ _ _ _ n4, set_far _ _ _ _ _ _ n5, set_far _ _ _ _ _ _ n6]; refine ⟨?_, ?_, ?_, ?_, ?_, ?_, ?_, ?_⟩ <;> assumption) | (refine ⟨?_, ?_, ?_, ?_, ?_, ?_, ?_, ?_⟩ <;> assumption) | go_keep)
      (first | (refine C2.mono ?_; rintro e' w3 ⟨x, rfl, ⟨bs, rfl, q1, q2, q3, q4, q5, q6, q7⟩, k0, k1, k2, k3, k4, k5, k6, k7⟩) | (refine (D _ _ q1 q2 q3 q4 q5 q6 q7).mono ?_; rintro e' w4 ⟨h, hK3, hsz, ⟨y0, y1, hz⟩, k0, k1, k2, k3, k4, k5, k6, k7⟩; rcases e' with v | c | _; rotate_left; (obtain ⟨hc, cv', s', h2, h3, h4⟩ := (evPost_bad ho _ _ _ _ _ _).1 h; injection hc with hc; subst hc; exact ⟨rfl, (evPost_bad ho _ _ _ _ _ _).2 ⟨rfl, cv', s', h2.bare, hK3.trans h3, h4⟩⟩); (exact absurd ((evPost_bad ho _ _ _ _ _ _).1 h).1 (by simp)); have hF : RowKit.Hid False := Lib.hid (absurd ((evPost_bad ho _ _ _ _ _ _).1 h).1 (by simp)); obtain ⟨u0, u1, rfl⟩ : ∃ u0 u1, v = .agg #[.int .i64 u0, .pointer u1] := hF.out.elim; obtain ⟨t0, t1, t2, t3⟩ := two_of hz))
    exact hF.out.elim
end Go.Proofs.YtfjpkihebfdmpaaGreatDoor
