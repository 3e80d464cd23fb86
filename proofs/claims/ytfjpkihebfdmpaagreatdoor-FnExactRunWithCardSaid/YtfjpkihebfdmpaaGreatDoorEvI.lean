import Derived.Test.YtfjpkihebfdmpaaGreatDoorEvH
import Derived.Deep.AppendLies
import Derived.Deep.RegionLaw
/- The program's closures: a call. -/
namespace Go.Proofs.YtfjpkihebfdmpaaGreatDoor
open Go.RowKit Go.Shelf
open Ff
set_option linter.unusedVariables false
variable {X : Nat → Prop}
attribute [local irreducible] Calls

theorem Tryz.infoInt : (Tryz.prog.info? 3).map (fun i => (i.zero, i.size, i.bytes)) = some (some (.int .i64 0), 1, 8) := by kernel_rfl
theorem step_append_int {ops : Array Oper} {o : Oper} {a : Act} {K : Act → World → Prop} {Q : Exit → Act → World → Prop} {E : Prop} {W : World} {r n : Nat} {cv u : Value} {xs : List Value} (hgd : o.guard = none) (s x : Operand)
    (ho : o.op = .call { callee := .builtin .append, args := #[s, x], argTypes := #[33, 33] })
    (hs : a.eval s = cv) (hrow : W.ownsRow (r + 1) 3 1 cv n xs) (ad : Addr) (hx : a.eval x = .slice (some ad) 1 1) (hc : ∀ j v, [u][j]? = some v → W.cell? (ad.add j) = some v) (hu : u.oneCell' = true) (hB : r + 1 ≤ W.heap.size) (hk : n ≤ 100000)
    (hK : ∀ cv' w', w'.ownsRow (r + 1) 3 1 cv' (n + 1) (xs ++ [u]) → Kep r cv W cv' w' → w'.heap[r]? = W.heap[r]? → K (a.put o.dst cv') w') : if Region.wanted o (yielded ops a.tmps) = true then Oper.wp Tryz.prog o a W K Q else E := by
  obtain ⟨i0, hi0, hz0, hz1, hz2⟩ := info_parts Tryz.infoInt
  refine step_append_lies W hgd s x 33 ho (r + 1) 3 i0 _ 1 8 Tryz.underlying33 hi0 hz0 hz1 hz2 rfl (by decide) cv n xs hs hrow ad 1 1 [u] hx rfl hc (by intro v hv; simp only [List.mem_singleton] at hv; subst hv; exact hu) (by decide) (by unfold maxLen; omega) (by omega) hB W.heap.size rfl ?_
  intro g cap w' hown hgr hor hlt
  exact hK _ w' hown (kep_grown hgr (hor.elim (fun e => .inl (by rw [e]; rfl)) (fun e => .inr (by rw [← e]; rfl)))) (hgr.block r (by omega) (fun e => row_not hrow e.symm))
theorem seven_of {w : World} {b : Nat} {z0 z1 z2 z3 z4 z5 z6 : Value} {t : TypeId} (h : w.heap[b]? = some (.cells #[z0, z1, z2, z3, z4, z5, z6] t (0, 0))) : w.cell? ⟨b, 0, none⟩ = some z0 ∧ w.cell? ⟨b, 1, none⟩ = some z1 ∧ w.cell? ⟨b, 2, none⟩ = some z2 ∧ w.cell? ⟨b, 3, none⟩ = some z3 ∧ w.cell? ⟨b, 4, none⟩ = some z4 ∧ w.cell? ⟨b, 5, none⟩ = some z5 ∧ w.cell? ⟨b, 6, none⟩ = some z6 ∧ ∀ k, w.frozen? ⟨b, k, none⟩ = false := by
  refine ⟨?_, ?_, ?_, ?_, ?_, ?_, ?_, fun k => ?_⟩ <;> simp [World.cell?, World.frozen?, h]
/-- The index of a function that is called is noted. -/
theorem RunAt.called {r j : Nat} {cv cv' : Value} {w4 w5 : World} {s : St} {o : Obj} (hR4 : RunAt X r cv w4 { s with calls := s.calls + 1, depth := s.depth + 1, deepest := max s.deepest (s.depth + 1) }) (hrow5 : w5.ownsRow (r + 1) 3 1 cv' (s.called.length + 1) (intsV s.called ++ [.int .i64 (j : Int)]))
    (hK5 : Kep r cv (w4.alloc o).drew cv' w5) (hr5 : w5.heap[r]? = w4.heap[r]?) : RunAt X r cv' (w5.setCell ⟨r, 6, none⟩ cv') (s.enter j) ∧ Kep r cv w4 cv' (w5.setCell ⟨r, 6, none⟩ cv') := by
  have hK : Kep r cv w4 cv' w5 := (Kep.below (((Below.refl _ w4).alloc (Nat.le_refl _) o).drew)).trans hK5
  refine ⟨⟨?_, row_set_r (by simpa [St.enter, intsV] using hrow5) 6 cv', fun g hg => ?_⟩, kep_set hK 6 cv'⟩
  · rw [heap_setCell_same _ _ _ _ _ _ (hr5.trans hR4.cells)]
    simp [runC, St.enter]
  · have h1 := hR4.priv g hg
    have h2 := hK.size
    simp; omega
/-- A panic's post that does not hang on the temporaries. -/
def PanAny (P : Program) (fn : Func) (R : Ending → World → Prop) (K : Act → World → Prop) : Exit → Act → World → Prop
  | .panic c, a, w => ∀ tmps, Leaves P fn tmps R a.defers (.panicking c) w
  | e, a, w => Exit.then K (bodyPostD P fn R) e a w
theorem wp_region_any_tmps {P : Program} {fn : Func} {R : Ending → World → Prop} {K : Act → World → Prop} {id : Nat} {ops : Array Oper} {b : Bool} {a : Act} {w : World} (h : (Code.region id ops b).wp P (PanAny P fn R K) a w) : (Code.region id ops b).wp P (Exit.then K (bodyPostD P fn R)) a w :=
  wp_mono h fun e a w hq => by cases e <;> first | exact hq | exact hq a.tmps
theorem agg2 {a0 a1 b0 b1 : Value} (h : Value.agg #[a0, a1] = .agg #[b0, b1]) : a0 = b0 ∧ a1 = b1 := by
  simp only [Value.agg.injEq, Array.mk.injEq, List.cons.injEq, and_true] at h; exact h
/-- Three blocks: two values in boxes, and the result's. -/
def cW (w : World) (x0 x1 y0 y1 : Value) : World := ((w.alloc (.cells #[x0, x1] 99)).alloc (.cells #[y0, y1] 99)).alloc (.cells #[.int .i64 0, .pointer none] 99)
theorem cW_facts (w : World) (x0 x1 y0 y1 : Value) : ((cW w x0 x1 y0 y1).heap.size = w.heap.size + 3 ∧ Below w.heap.size w (cW w x0 x1 y0 y1)) ∧ (cW w x0 x1 y0 y1).cell? ⟨w.heap.size, 0, none⟩ = some x0 ∧ (cW w x0 x1 y0 y1).cell? ⟨w.heap.size, 1, none⟩ = some x1 ∧ (cW w x0 x1 y0 y1).cell? ⟨w.heap.size + 1, 0, none⟩ = some y0 ∧ (cW w x0 x1 y0 y1).cell? ⟨w.heap.size + 1, 1, none⟩ = some y1 ∧ ∃ z0 z1, (cW w x0 x1 y0 y1).heap[w.heap.size + 1 + 1]? = some (.cells #[z0, z1] 99 (0, 0)) := by
  refine ⟨⟨by simp [cW], (((Below.refl _ w).alloc (Nat.le_refl _) _).alloc (by simp) _).alloc (by simp; omega) _⟩, by simp [cW, go_sem], by simp [cW, go_sem], by simp [cW, go_sem], by simp [cW, go_sem], .int .i64 0, .pointer none, ?_⟩
  have := World.alloc_heap_new ((w.alloc (.cells #[x0, x1] 99)).alloc (.cells #[y0, y1] 99)) (.cells #[.int .i64 0, .pointer none] 99)
  simpa [cW] using this
set_option maxRecDepth 100000 in
set_option maxHeartbeats 4000000 in
theorem call_num (r : Nat) (cv : Value) (s : St) (k : Nat) (y : Value) (vy : Vl) (w : World) (hR : RunAt X r cv w s) (hy : RepV r (Safe X r cv w) w vy y) :
    Calls Tryz.prog 81 #[ptr r, .agg #[.int .i64 (k : Int), .pointer none], y] w (EvPost X r cv w s .fault) := by
  obtain ⟨a0, a1, rfl, ⟨m, rfl⟩, ⟨q, rfl⟩⟩ := hy.form
  go_enter_defers Tryz.func81, Tryz.ntmps81
  go_wp2_with fail

  have hb := (cW_facts w (.int .i64 (k : Int)) (.pointer none) (.int .i64 m) (.pointer q)).1.2
  exact ⟨rfl, cv, s, hR.below hb, Kep.below hb, rfl⟩
theorem bad_leave {r b : Nat} {cv cv1 : Value} {w w6 w7 : World} {s s1 : St} {o o2 : Ou} {c : List PanicEntry} (h2 : o2 = o.next fun z s => .ok z s.leave) (ho : o.bad) (h : EvPost (AndX X b) r cv1 w6 s1 o (.panicked c) w7) (hK : Kep r cv w cv1 w6) (hd : s1.depth = s.depth + 1) (hd2 : s.depth ≤ 50) (tmps : Array Value) :
    Leaves Tryz.prog Tryz.f81 tmps (EvPost X r cv w s o2) [{ target := .fn (.func 96) #[], args := #[ptr r] }] (.panicking c) w7 := by
  obtain ⟨hc, cv7, s7, hR7, hK7, hd7⟩ := (evPost_bad ho _ _ _ _ _ _).1 h
  injection hc with hc
  subst hc
  refine leaves_cons (f := 96) (args := #[ptr r]) (by simp) (by simp [go_sem]) ?_
  refine (leaveCall_c r cv7 s7 _ hR7.bare (by omega) (by omega) _).mono ?_
  rintro e u' w9 ⟨rfl, rfl, hR9, hK9⟩
  have key : EvPost X r cv w s o2 (.panicked (panC o)) w9 := by
    rw [h2, Ou.next_bad ho]
    exact (evPost_bad ho _ _ _ _ _ _).2 ⟨rfl, cv7, _, hR9, (hK.trans hK7).trans hK9, by simp only [St.leave]; omega⟩
  rcases panC_cases ho with hp | hp <;> rw [hp] at key ⊢ <;> exact key
set_option maxRecDepth 100000 in
set_option maxHeartbeats 8000000 in
theorem call_clo (n : Nat) (ih : EvC n) (r : Nat) (cv : Value) (s : St) (j : Nat) (g : Tm) (e : En) (vy : Vl) (x y : Value) (w : World) (hn : 1501 ≤ s.steps + n) (hB : StB s) (hcs : s.calls < s.steps) (hox : VlOk (.clo j g e)) (hoy : VlOk vy) (hR : RunAt X r cv w s)
    (hx : RepV r (Safe X r cv w) w (.clo j g e) x) (hy : RepV r (Safe X r cv w) w vy y) :
    Calls Tryz.prog 81 #[ptr r, x, y] w (EvPost X r cv w s (callV (ev n) (.clo j g e) vy s)) := by
  obtain ⟨a0, a1, rfl, ⟨m, rfl⟩, ⟨q, rfl⟩⟩ := hy.form
  obtain ⟨h1, h2, h3, h4, h5, h6, h7⟩ := hB
  have hB := Lib.hid hx
  have hr0 := (Array.getElem?_eq_some_iff.1 hR.cells).1
  cases hx with
  | clo _ _ _ b br bp be bx pl0 ee e0 hb c0 c1 hbr cr hbp cp hp hbe ce hbx cx hee he =>
    have hbl := hb.1
    go_enter_defers Tryz.func81, Tryz.ntmps81
    go_wp2_with fail
    obtain ⟨⟨zs, zb⟩, z0, z1, z2, z3, z4, z5, zz⟩ := cW_facts w (.int .i64 0) (ptr b) (.int .i64 m) (.pointer q)
    change Calls _ _ _ (cW w (.int .i64 0) (ptr b) (.int .i64 m) (.pointer q)) _
    generalize cW w (.int .i64 0) (ptr b) (.int .i64 m) (.pointer q) = W3 at zs zb z0 z1 z2 z3 zz ⊢
    have C := enterCall_c r cv s W3 (hR.below zb) (by omega) (by omega)
    by_cases hd : 50 ≤ s.depth
    · refine C.mono ?_
      rintro e' w' (⟨_, rfl, rfl⟩ | ⟨h, _⟩)
      · show EvPost X r cv w s (callV (ev n) (.clo j g e) vy s) (.panicked longC) _
        rw [show callV (ev n) (.clo j g e) vy s = .long from if_pos hd]
        exact ⟨rfl, cv, s, hR.below zb, Kep.below zb, rfl⟩
      · omega
    · refine C.mono ?_
      rintro e' w4 (⟨h, _⟩ | ⟨_, rfl, hR4, hK4⟩)
      · omega
      clear C
      have hs4 := hK4.size
      obtain ⟨_, _, _, _, _, _, r6, rf⟩ := hR4.at
      have hS1 : Safe X r cv W3 w.heap.size := hR.new (Nat.le_refl _) (by omega)
      have d1 := hK4.cell hS1 z1
      have d2 := hK4.cell ((Kep.below zb).safe hb).2 ((zb.cell (p := ⟨b, 0, none⟩) hbl).trans c0)
      have hr4 : w4.heap[r]? = some (.cells (runC { s with calls := s.calls + 1, depth := s.depth + 1, deepest := max s.deepest (s.depth + 1) } cv) 64 (0, 0)) := hR4.cells
      have hal : ∀ o, (w4.alloc o).drew.heap[r]? = w4.heap[r]? := fun o => ((Below.refl _ w4).alloc (Nat.le_refl _) o).block r (by omega)
      have r6' : (w4.alloc (.cells #[.int .i64 (j : Int)] 3)).cell? ⟨r, 6, none⟩ = some cv := (World.cell?_of_block (a := ⟨r, 6, none⟩) (hal _)).trans r6
      have hrow : (w4.alloc (.cells #[.int .i64 (j : Int)] 3)).drew.ownsRow (r + 1) 3 1 cv s.called.length (intsV s.called) :=
        World.ownsRow.kept (row := none) hR4.drew.row (World.grownBy_alloc w4.drew _ none) (by rcases ho : Value.ownBlock cv with _ | j; exact .inl rfl; exact .inr (by simp))
      have hlen : s.called.length ≤ 100000 := by omega
      have H7 := Lib.hid h7
      clear h7
      go_wp2_with fail
      refine wp_region_noPanic ?_
      go_region_law ((refine step_append_int (by rfl) _ _ (by rfl) (by rfl) hrow ⟨w4.heap.size, 0, none⟩ (by rfl) (one_new w4 _ _) (by rfl) (by simp; omega) hlen ?_; intro cv' w5 hrow5 hK5 hr5; obtain ⟨ka, kc, rfl⟩ := kidsV hrow5; obtain ⟨_, _, _, _, _, _, t6, tf⟩ := seven_of (hr5.trans ((hal _).trans hr4))))
      all_goals
        obtain ⟨hR6, hK6⟩ := RunAt.called hR4 hrow5 hK5 (hr5.trans (hal _))
        have hKw := ((Kep.below (r := r) (cv := cv) zb).trans hK4).trans hK6
        have hsz := hK6.size
        clear hrow5 hK5 hr5 t6 tf
        refine NoPanic.normal ?_
        generalize (w5.setCell ⟨r, 6, none⟩ (.slice ka (s.called.length + 1) kc)) = W6 at hR6 hK6 hKw hsz ⊢
        have H : ∀ g, Safe X r cv w g → W6.drew.heap[g]? = w.heap[g]? ∧ Safe (AndX X (w.heap.size + 1 + 1)) r (.slice ka (s.called.length + 1) kc) W6.drew g := hKw.hide (b := w.heap.size + 1 + 1) (by omega)
        have hf : isFun g = true := by cases hox; assumption
        have hbo : ∀ i, w.heap.size ≤ i → Value.ownBlock cv ≠ some i := fun i hi e => by have := (World.ownsRow.lt hR.row _ e).2; omega
        have hS : ∀ i, i < 3 → Safe X r cv W3 (w.heap.size + i) := fun i hi => hR.new (by omega) (by omega)
        have hK36 := hK4.trans hK6
        have D := clobody_c (X := AndX X (w.heap.size + 1 + 1)) n ih g j e vy (s.enter j) r (.slice ka (s.called.length + 1) kc) (.agg #[.int .i64 m, .pointer q]) W6.drew b br bp be bx pl0 ee e0 hn
          ⟨h1, by simp only [St.enter]; omega, h3, h4, by simp only [St.enter]; omega, by simp only [St.enter]; omega, by simp only [St.enter, List.length_append, List.length_cons, List.length_nil]; have := H7.out; omega⟩ hf (clo_body hox hoy) (hR6.drew.hide (by show _ < W6.heap.size; omega)) (hB.out.keep H) (H br hbr).2 (cell_keep H hbr cr) (H bp hbp).2 (cell_keep H hbp cp) (hp.keep H) (H be hbe).2 (cell_keep H hbe ce) (H bx hbx).2 (cell_keep H hbx cx) (hee.keep H) (he.keep H) (hy.keep H)
        have hW := ev_ok n _ _ _ (s.enter j) (clo_body hox hoy)
        have y1 : W6.cell? ⟨w.heap.size, 1, none⟩ = some (ptr b) := hK36.cell (hS 0 (by omega)) z1
        have y2 : W6.cell? ⟨w.heap.size + 1, 0, none⟩ = some (.int .i64 m) := hK36.cell (hS 1 (by omega)) z2
        have y3 : W6.cell? ⟨w.heap.size + 1, 1, none⟩ = some (.pointer q) := hK36.cell (hS 1 (by omega)) z3
        have y4 : W6.cell? ⟨b, 1, none⟩ = some (.func (.func 94) #[] #[ptr br, ptr bp, ptr be, ptr bx]) := hKw.cell hb c1
        have y5 : W6.heap[w.heap.size + 1 + 1]? = some (.cells #[z4, z5] 99 (0, 0)) := (hK36.safe (hS 2 (by omega))).1.trans zz
        have hcv : callV (ev n) (.clo j g e) vy s = (ev n (bodyOf g) (j + 1) (bodyEn g j e vy) (s.enter j)).next fun z s => .ok z s.leave := if_neg hd
        generalize ev n (bodyOf g) (j + 1) (bodyEn g j e vy) (s.enter j) = o at D hW hcv
        have HC := Lib.hid hcv
        have D2 : Calls Tryz.prog 94 #[.agg #[.int .i64 m, .pointer q], ptr br, ptr bp, ptr be, ptr bx] W6.drew fun e' w' => EvPost (AndX X (w.heap.size + 1 + 1)) r (.slice ka (s.called.length + 1) kc) W6.drew (s.enter j) o e' w' ∧ (∃ z0 z1, w'.heap[w.heap.size + 1 + 1]? = some (.cells #[z0, z1] 99 (0, 0))) ∧ w'.cell? ⟨w.heap.size, 1, none⟩ = some (ptr b) ∧ w'.cell? ⟨w.heap.size + 1, 0, none⟩ = some (.int .i64 m) ∧ w'.cell? ⟨w.heap.size + 1, 1, none⟩ = some (.pointer q) ∧ w'.cell? ⟨b, 1, none⟩ = some (.func (.func 94) #[] #[ptr br, ptr bp, ptr be, ptr bx]) := D.mono (by
          intro e' w' h
          obtain ⟨cv7, hk⟩ := evPost_kep h
          have s0 := (hK36.safe (hS 0 (by omega))).2
          have s1 := (hK36.safe (hS 1 (by omega))).2
          have s2 := (hK36.safe (hS 2 (by omega))).2
          exact ⟨h, ⟨z4, z5, (hk.safe (X := X) s2).1.trans y5⟩, hk.cell (X := X) s0 y1, hk.cell (X := X) s1 y2, hk.cell (X := X) s1 y3, hk.cell (X := X) (hKw.safe hb).2 y4⟩)
        have e1 : b ≠ w.heap.size + 1 + 1 := by omega
        have e2 : w.heap.size ≠ w.heap.size + 1 + 1 := by omega
        have e3 : w.heap.size + 1 ≠ w.heap.size + 1 + 1 := by omega
        clear D hcv hrow hr4 hal r6 rf r6' z0 z1 z2 z3 zz d1 d2 c0 c1 cr cp ce cx hee he hp hS
        rcases Ou.cases o with ⟨v, s3, rfl⟩ | ho
        · have hd3 : s3.depth = s.depth + 1 := hW.2.depth
          clear hW
          go_wp2_with fail
          refine wp_region_noPanic ?_
          go_region_held (fun w' => w'.cell? ⟨w.heap.size, 1, none⟩ = some (ptr b) ∧ w'.cell? ⟨w.heap.size + 1, 0, none⟩ = some (.int .i64 m) ∧ w'.cell? ⟨w.heap.size + 1, 1, none⟩ = some (.pointer q) ∧ w'.cell? ⟨b, 1, none⟩ = some (.func (.func 94) #[] #[ptr br, ptr bp, ptr be, ptr bx]))
            (first | (simp only [set_far _ _ _ _ _ _ e1, set_far _ _ _ _ _ _ e2, set_far _ _ _ _ _ _ e3]; refine ⟨?_, ?_, ?_, ?_⟩ <;> assumption) | (refine ⟨?_, ?_, ?_, ?_⟩ <;> assumption) | go_keep)
            (first | (refine D2.mono ?_; rintro e' w7 ⟨⟨x, cv7, rfl, hv, hR7, hK7⟩, ⟨q0, q1, hz⟩, k0, k1, k2, k3⟩; obtain ⟨u0, u1, rfl, ⟨mu, rfl⟩, ⟨qu, rfl⟩⟩ := hv.form; obtain ⟨t0, t1, t2, t3⟩ := two_of hz))
          have hKd := kep_drew hKw
          have hsz7 := hK7.size
          have hsz6 : W6.drew.heap.size = W6.heap.size := rfl
          have hbo7 : Value.ownBlock cv7 ≠ some (w.heap.size + 1 + 1) := fun e => by
            rcases hK7.own _ e with h | h
            · rcases hK36.own _ h with h | h
              · exact hbo _ (by omega) h
              · omega
            · omega
          obtain ⟨hv8, hR8, hK8⟩ := ev_out0 hR (b := w.heap.size + 1 + 1) (by omega) hv hR7 (hKd.trans hK7) (by omega) hbo7
          obtain ⟨j0, j1⟩ := set_two (u0 := .int .i64 mu) (u1 := .pointer qu) t0 t1
          refine NoPanic.normal ?_
          go_wp2_with fail
          refine leaves_cons (f := 96) (args := #[ptr r]) (by simp) (by simp [go_sem]) ?_
          refine (leaveCall_c r cv7 s3 _ hR8 (by omega) (by omega) _).mono ?_
          rintro e u' w9 ⟨rfl, rfl, hR9, hK9⟩
          have hsf : Safe X r cv7 ((w7.setCell ⟨w.heap.size + 1 + 1, 0, none⟩ (.int .i64 mu)).setCell ⟨w.heap.size + 1 + 1, 1, none⟩ (.pointer qu)) (w.heap.size + 1 + 1) := ⟨by simp; omega, by omega, hbo7, fun e => by have := hR.priv _ e; omega⟩
          refine ⟨.agg #[.int .i64 mu, .pointer qu], by simp [results, Tryz.results81, go_sem, hK9.cell hsf j0, hK9.cell hsf j1], ?_⟩
          rw [HC.out]
          exact ⟨_, cv7, rfl, hK9.rep hv8, hR9, hK8.trans hK9⟩
        · clear hW
          go_wp2_with fail
          refine wp_region_any_tmps ?_
          go_region_held (fun w' => w'.cell? ⟨w.heap.size, 1, none⟩ = some (ptr b) ∧ w'.cell? ⟨w.heap.size + 1, 0, none⟩ = some (.int .i64 m) ∧ w'.cell? ⟨w.heap.size + 1, 1, none⟩ = some (.pointer q) ∧ w'.cell? ⟨b, 1, none⟩ = some (.func (.func 94) #[] #[ptr br, ptr bp, ptr be, ptr bx]))
            (first | (simp only [set_far _ _ _ _ _ _ e1, set_far _ _ _ _ _ _ e2, set_far _ _ _ _ _ _ e3]; refine ⟨?_, ?_, ?_, ?_⟩ <;> assumption) | (refine ⟨?_, ?_, ?_, ?_⟩ <;> assumption) | go_keep)
            (first | (refine D2.mono ?_; rintro e' w7 ⟨h, ⟨q0, q1, hz⟩, k0, k1, k2, k3⟩; rcases e' with v | c | _; rotate_left; (exact fun tmps => bad_leave HC.out ho h (kep_drew hKw) rfl h6 tmps); (exact absurd ((evPost_bad ho _ _ _ _ _ _).1 h).1 (by simp)); have hF : RowKit.Hid False := Lib.hid (absurd ((evPost_bad ho _ _ _ _ _ _).1 h).1 (by simp)); obtain ⟨u0, u1, rfl⟩ : ∃ u0 u1, v = .agg #[.int .i64 u0, .pointer u1] := hF.out.elim; obtain ⟨t0, t1, t2, t3⟩ := two_of hz))
          exact hF.out.elim
end Go.Proofs.YtfjpkihebfdmpaaGreatDoor
