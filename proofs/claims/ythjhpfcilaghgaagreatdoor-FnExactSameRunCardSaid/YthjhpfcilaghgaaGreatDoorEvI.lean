import Derived.Test.YthjhpfcilaghgaaGreatDoorEvW
/- The program's closures: a call. -/
namespace Go.Proofs.YthjhpfcilaghgaaGreatDoor
open Go.RowKit Go.Shelf
open Ff
set_option linter.unusedVariables false
variable {X : Nat → Prop}
attribute [local irreducible] Calls
attribute [local go_sem] storeIF

/-- A method with an argument, called through the interface: it returns. -/
theorem wpList_invoke1 {P : Program} {ops : Array Oper} {rest : List Oper} {o : Oper} {a : Act} {Q : Exit → Act → World → Prop} {w : World} (hgd : o.guard = none) (r : Operand) (m : String) (t : TypeId) (v : Value) (x : Operand) (tx : TypeId) (y : Value)
    (ho : o.op = .call { callee := .invoke r m, args := #[x], argTypes := #[tx] }) (hr : a.eval r = .iface t v) (hx : a.eval x = y) (f : FuncId) (hm : (method (P.types.size + 100) t v m).run P w = .ok (f, v) w)
    (hf : (callFunc f #[v, y]).run P w = .ok (.enter f #[v, y]) w) (S : Value → World → Prop) (hC : Calls P f #[v, y] w fun e w' => ∃ z, e = .returned z ∧ S z w')
    (h : ∀ z w', S z w' → wpList P ops Q rest (a.put o.dst z) w') : wpList P ops Q (o :: rest) a w := by
  refine wpList_plain hgd fun K hK => ?_
  unfold Oper.wp execOp
  simp only [ho, resolve, invoke, callMethod, Sem.run_bind, Sem.run_pure, Result.andThen_ok, List.map_toArray, List.map_cons, List.map_nil, hr, hx]
  simp [hm, hf, Sem.run_bind, go_sem]
  refine hC.mono ?_
  rintro e w' ⟨z, rfl, hS⟩
  exact hK _ _ (h z w' hS)
/-- .. it panics. -/
theorem wpList_invoke1_bad {P : Program} {ops : Array Oper} {rest : List Oper} {o : Oper} {a : Act} {Q : Exit → Act → World → Prop} {w : World} (hgd : o.guard = none) (r : Operand) (m : String) (t : TypeId) (v : Value) (x : Operand) (tx : TypeId) (y : Value)
    (ho : o.op = .call { callee := .invoke r m, args := #[x], argTypes := #[tx] }) (hr : a.eval r = .iface t v) (hx : a.eval x = y) (f : FuncId) (hm : (method (P.types.size + 100) t v m).run P w = .ok (f, v) w)
    (hf : (callFunc f #[v, y]).run P w = .ok (.enter f #[v, y]) w) (S : List PanicEntry → World → Prop) (hC : Calls P f #[v, y] w fun e w' => ∃ c, e = .panicked c ∧ S c w')
    (h : ∀ c w', S c w' → Q (.panic c) a w') : wpList P ops Q (o :: rest) a w := by
  refine wpList_plain hgd fun K hK => ?_
  unfold Oper.wp execOp
  simp only [ho, resolve, invoke, callMethod, Sem.run_bind, Sem.run_pure, Result.andThen_ok, List.map_toArray, List.map_cons, List.map_nil, hr, hx]
  simp [hm, hf, Sem.run_bind, go_sem]
  refine hC.mono ?_
  rintro e w' ⟨c, rfl, hS⟩
  exact h c w' hS
def CallName (m : String) : Prop := (((Tryz.prog.info? 179).bind fun i => (i.methods[0]?).map (·.name)).getD "") = m
theorem call_m (b : Nat) (m : String) (hm : CallName m) (w : World) : (method (Tryz.prog.types.size + 100) 179 (ptr b) m).run Tryz.prog w = .ok (143, ptr b) w := by
  unfold CallName at hm
  subst hm
  kernel_rfl
theorem call_f (b : Nat) (y : Value) (w : World) : (callFunc 143 #[ptr b, y]).run Tryz.prog w = .ok (.enter 143 #[ptr b, y]) w := by kernel_rfl
theorem agg2 {a0 a1 b0 b1 : Value} (h : Value.agg #[a0, a1] = .agg #[b0, b1]) : a0 = b0 ∧ a1 = b1 := by
  simp only [Value.agg.injEq, Array.mk.injEq, List.cons.injEq, and_true] at h; exact h
/-- Three blocks: two values in boxes, and the result's. -/
def cW (w : World) (x0 x1 y0 y1 : Value) : World := ((w.alloc (.cells #[x0, x1] 105)).alloc (.cells #[y0, y1] 105)).alloc (.cells #[.int .i64 0, .nilIface] 105)
theorem cW_facts (w : World) (x0 x1 y0 y1 : Value) : ((cW w x0 x1 y0 y1).heap.size = w.heap.size + 3 ∧ Below w.heap.size w (cW w x0 x1 y0 y1)) ∧ (cW w x0 x1 y0 y1).cell? ⟨w.heap.size, 0, none⟩ = some x0 ∧ (cW w x0 x1 y0 y1).cell? ⟨w.heap.size, 1, none⟩ = some x1 ∧ (cW w x0 x1 y0 y1).cell? ⟨w.heap.size + 1, 0, none⟩ = some y0 ∧ (cW w x0 x1 y0 y1).cell? ⟨w.heap.size + 1, 1, none⟩ = some y1 ∧ ∃ z0 z1, (cW w x0 x1 y0 y1).heap[w.heap.size + 1 + 1]? = some (.cells #[z0, z1] 105 (0, 0)) := by
  refine ⟨⟨by simp [cW], (((Below.refl _ w).alloc (Nat.le_refl _) _).alloc (by simp) _).alloc (by simp; omega) _⟩, by simp [cW, go_sem], by simp [cW, go_sem], by simp [cW, go_sem], by simp [cW, go_sem], .int .i64 0, .nilIface, ?_⟩
  have := World.alloc_heap_new ((w.alloc (.cells #[x0, x1] 105)).alloc (.cells #[y0, y1] 105)) (.cells #[.int .i64 0, .nilIface] 105)
  simpa [cW] using this
set_option maxRecDepth 100000 in
set_option maxHeartbeats 4000000 in
theorem call_num (r : Nat) (cv : Rw) (s : St) (k : Nat) (pf y : Value) (vy : Vl) (w : World) (hR : RunAt X r cv w s) (hy : RepV r (Safe X r cv w) w vy y) :
    Calls Tryz.prog 73 #[ptr r, pf, .agg #[.int .i64 (k : Int), .nilIface], y] w (EvPost X r cv w s .fault) := by
  obtain ⟨a0, a1, rfl, ⟨m, rfl⟩, ⟨q, rfl⟩⟩ := hy.form
  go_enter Tryz.func73, Tryz.ntmps73
  go_wp2_with fail

  have hb := (cW_facts w (.int .i64 (k : Int)) (.nilIface) (.int .i64 m) (IF q)).1.2
  exact ⟨rfl, rfl, cv, s, hR.below hb, Kep.below hb, rfl⟩
set_option maxRecDepth 100000 in
set_option maxHeartbeats 4000000 in
theorem cloCall_c (n : Nat) (ih : EvC n) (g : Tm) (j : Nat) (e : En) (vy : Vl) (s : St) (p r : Nat) (cv : Rw) (y : Value) (w : World) (b : Nat) (hn : 1501 ≤ s.steps + n) (hB : StB s) (hcs : s.calls < s.steps) (hcl : w.cell? ⟨r, 9, none⟩ = some (.int .i64 (p : Int))) (hf : isFun g = true) (hok : TmOk (bodyOf g) (j + 1) (bodyEn g j e vy)) (hR : RunAt X r cv w s)
    (hx : RepV r (Safe X r cv w) w (.clo j g e) (.agg #[.int .i64 0, .iface 179 (ptr b)])) (hy : RepV r (Safe X r cv w) w vy y) :
    Calls Tryz.prog 143 #[ptr b, y] w (EvPost X r cv w s (callV (ev n) p (.clo j g e) vy s)) := by
  obtain ⟨a0, a1, rfl, ⟨m, rfl⟩, ⟨q, rfl⟩⟩ := hy.form
  have hX := hx
  have hr0 := hR.lt
  cases hx with
  | clo _ _ _ _ br bp be bx pl0 ee e0 hb c1 hbr cr hbp cp hp hbe ce hbx cx hee he =>
    have hbl := hb.1
    go_enter Tryz.func143, Tryz.ntmps143
    go_wp2_with fail
    have z := vW_facts w (.int .i64 m) (IF q)
    change Code.wp _ _ _ _ (vW w (.int .i64 m) (IF q))
    generalize vW w (.int .i64 m) (IF q) = W2 at z ⊢
    obtain ⟨⟨zs, zb⟩, z0, z1, zz0, zz1, z2⟩ := z
    have zd := zb.drew
    have K := Kep.below (r := r) (cv := cv) zd
    have H : ∀ g, Safe X r cv w g → W2.drew.heap[g]? = w.heap[g]? ∧ Safe (AndX X (w.heap.size + 1)) r cv W2.drew g := K.hide (Nat.le_succ _)
    have D := clobody_c (X := AndX X (w.heap.size + 1)) n ih g j e vy s p r cv (.agg #[.int .i64 m, IF q]) W2.drew b br bp be bx pl0 ee e0 hn hB hcs ((zd.cell (p := ⟨r, 9, none⟩) hr0).trans hcl) hf hok ((hR.below zd).hide (by show _ < W2.heap.size; omega)) (hX.keep H) (H br hbr).2 (cell_keep H hbr cr) (H bp hbp).2 (cell_keep H hbp cp) (hp.keep H) (H be hbe).2 (cell_keep H hbe ce) (H bx hbx).2 (cell_keep H hbx cx) (hee.keep H) (he.keep H) (hy.keep H)
    have d1 := (zb.cell (p := ⟨b, 0, none⟩) hbl).trans c1
    have sB := (K.safe hb).2
    have s0 : Safe X r cv W2.drew w.heap.size := hR.new (Nat.le_refl _) (by show _ < W2.heap.size; omega)
    have s1 : Safe X r cv W2.drew (w.heap.size + 1) := hR.new (Nat.le_succ _) (by show _ < W2.heap.size; omega)
    obtain ⟨o, ho⟩ : ∃ o, callV (ev n) p (.clo j g e) vy s = o := ⟨_, rfl⟩
    rw [ho] at D ⊢
    have D2 : Calls Tryz.prog 95 #[.agg #[.int .i64 m, IF q], ptr br, ptr bp, ptr be, ptr bx] W2.drew fun e' w' => EvPost (AndX X (w.heap.size + 1)) r cv W2.drew s o e' w' ∧ (∃ z0 z1, w'.heap[w.heap.size + 1]? = some (.cells #[z0, z1] 105 (0, 0))) ∧ w'.cell? ⟨w.heap.size, 0, none⟩ = some (.int .i64 m) ∧ w'.cell? ⟨w.heap.size, 1, none⟩ = some (IF q) ∧ w'.cell? ⟨b, 0, none⟩ = some (.func (.func 95) #[] #[ptr br, ptr bp, ptr be, ptr bx]) := D.mono (by
      intro e' w' h
      obtain ⟨cv7, hk⟩ := evPost_kep h
      exact ⟨h, ⟨zz0, zz1, (hk.safe s1).1.trans z2⟩, hk.cell s0 z0, hk.cell s0 z1, hk.cell sB d1⟩)
    have e1 : b ≠ w.heap.size + 1 := by omega
    have e2 : w.heap.size ≠ w.heap.size + 1 := by omega
    clear D c1 cr cp ce cx hee he hp hX hy hB hcl hn hcs
    rcases Ou.cases o with ⟨v, s3, hO⟩ | hbad
    · subst hO
      go_region_held3 (fun w' => w'.cell? ⟨w.heap.size, 0, none⟩ = some (.int .i64 m) ∧ w'.cell? ⟨w.heap.size, 1, none⟩ = some (IF q) ∧ w'.cell? ⟨b, 0, none⟩ = some (.func (.func 95) #[] #[ptr br, ptr bp, ptr be, ptr bx]))
        (first | (simp only [set_far _ _ _ _ _ _ e1, set_far _ _ _ _ _ _ e2]; refine ⟨?_, ?_, ?_⟩ <;> assumption) | (refine ⟨?_, ?_, ?_⟩ <;> assumption) | go_keep)
        (first | (refine D2.mono ?_; rintro e' w7 ⟨⟨x, cv7, rfl, hv, hR7, hK7⟩, ⟨q0, q1, hz⟩, k0, k1, k2⟩; obtain ⟨u0, u1, rfl, ⟨mu, rfl⟩, ⟨qu, rfl⟩⟩ := hv.form; obtain ⟨t0, t1, t2, t3⟩ := two_of hz))
      go_wp2_with fail
      refine bodyPost_ret (v := .agg #[.int .i64 mu, IF qu]) (by simp [results, Tryz.results143, go_sem, t0, t1]) rfl ?_
      rw [ho]
      refine ev_out (b := w.heap.size + 1) hR (Nat.le_succ _) hv hR7 (K.trans hK7) (by have := hK7.size; have : W2.drew.heap.size = W2.heap.size := rfl; omega) (fun e => ?_)
      rcases hK7.own _ e with h | h
      · have := (hR.owns _ h).2; omega
      · have : W2.drew.heap.size = W2.heap.size := rfl; omega
    · go_region_held (fun w' => w'.cell? ⟨w.heap.size, 0, none⟩ = some (.int .i64 m) ∧ w'.cell? ⟨w.heap.size, 1, none⟩ = some (IF q) ∧ w'.cell? ⟨b, 0, none⟩ = some (.func (.func 95) #[] #[ptr br, ptr bp, ptr be, ptr bx]))
        (first | (simp only [set_far _ _ _ _ _ _ e1, set_far _ _ _ _ _ _ e2]; refine ⟨?_, ?_, ?_⟩ <;> assumption) | (refine ⟨?_, ?_, ?_⟩ <;> assumption) | go_keep)
        (first | (refine D2.mono ?_; rintro e' w7 ⟨h, ⟨q0, q1, hz⟩, k0, k1, k2⟩; rcases e' with v | c | _; rotate_left; (obtain ⟨hc, cv', s', h2, h3, h4⟩ := (evPost_bad hbad _ _ _ _ _ _).1 h; injection hc with hc; subst hc; exact ⟨rfl, (evPost_bad hbad _ _ _ _ _ _).2 ⟨rfl, cv', s', h2.bare, K.trans h3, h4⟩⟩); (exact absurd ((evPost_bad hbad _ _ _ _ _ _).1 h).1 (by simp)); have hF : RowKit.Hid False := Lib.hid (absurd ((evPost_bad hbad _ _ _ _ _ _).1 h).1 (by simp)); obtain ⟨u0, u1, rfl⟩ : ∃ u0 u1, v = .agg #[.int .i64 u0, .pointer u1] := hF.out.elim; obtain ⟨t0, t1, t2, t3⟩ := two_of hz))
      exact hF.out.elim
theorem RunAt.setCaller {r : Nat} {cv : Rw} {W : World} {s : St} (h : RunAt X r cv W s) (z : Int) : RunAt X r cv (W.setCell ⟨r, 9, none⟩ (.int .i64 z)) s ∧ (W.setCell ⟨r, 9, none⟩ (.int .i64 z)).cell? ⟨r, 9, none⟩ = some (.int .i64 z) := by
  obtain ⟨_, _, _, _, _, _, _, _, _, ⟨z0, h9⟩, _⟩ := h.at
  exact ⟨h.set 9 _ (fun _ => ⟨z, rfl⟩) ⟨rfl, rfl, rfl⟩, World.cell?_setCell_same _ _ _ h9⟩
set_option maxRecDepth 100000 in
set_option maxHeartbeats 8000000 in
theorem call_clo (n : Nat) (ih : EvC n) (r : Nat) (cv : Rw) (s : St) (i j : Nat) (g : Tm) (e : En) (vy : Vl) (bf : Nat) (x y : Value) (w : World) (hn : 1501 ≤ s.steps + n) (hB : StB s) (hcs : s.calls < s.steps) (hox : VlOk (.clo j g e)) (hoy : VlOk vy) (hR : RunAt X r cv w s)
    (hsf : Safe X r cv w bf) (hfi : w.cell? ⟨bf, 1, none⟩ = some (.int .i64 (i : Int))) (hx : RepV r (Safe X r cv w) w (.clo j g e) x) (hy : RepV r (Safe X r cv w) w vy y) :
    Calls Tryz.prog 73 #[ptr r, ptr bf, x, y] w (EvPost X r cv w s (callV (ev n) i (.clo j g e) vy s)) := by
  obtain ⟨a0, a1, rfl, ⟨m, rfl⟩, ⟨q, rfl⟩⟩ := hy.form
  have hr0 := hR.lt
  have hf : isFun g = true := by cases hox; assumption
  obtain ⟨b, rfl⟩ : ∃ b, x = .agg #[.int .i64 0, .iface 179 (ptr b)] := by cases hx; exact ⟨_, rfl⟩
  have hfl := hsf.1
  go_enter Tryz.func73, Tryz.ntmps73
  obtain ⟨⟨zs, zb⟩, z0, z1, z2, z3, z4, z5, zz⟩ := cW_facts w (.int .i64 0) (.iface 179 (ptr b)) (.int .i64 m) (IF q)
  generalize hW : cW w (.int .i64 0) (.iface 179 (ptr b)) (.int .i64 m) (IF q) = W3 at zs zb z0 z1 z2 z3 zz
  unfold cW at hW
  have hR3 := hR.below zb
  obtain ⟨_, _, _, _, _, _, _, _, _, ⟨zc, r9⟩, rf⟩ := hR3.at
  have d1 := (zb.cell (p := ⟨bf, 1, none⟩) hfl).trans hfi
  obtain ⟨hR4, r94⟩ := hR3.setCaller (i : Int)
  have K := kep_set (Kep.below (r := r) (cv := cv) zb) 9 (.int .i64 (i : Int))
  have zs4 : (W3.setCell ⟨r, 9, none⟩ (.int .i64 (i : Int))).heap.size = w.heap.size + 3 := by simp [zs]
  have f0 := set_far W3 r 9 (.int .i64 (i : Int)) w.heap.size 1 (by omega)
  have f1 := set_far W3 r 9 (.int .i64 (i : Int)) (w.heap.size + 1) 0 (by omega)
  have f2 := set_far W3 r 9 (.int .i64 (i : Int)) (w.heap.size + 1) 1 (by omega)
  have y1 := f0.trans z1
  have y2 := f1.trans z2
  have y3 := f2.trans z3
  have y5 := (Below.heap_setCell W3 ⟨r, 9, none⟩ (.int .i64 (i : Int)) (w.heap.size + 1 + 1) (by show _ ≠ r; omega)).trans zz
  clear f0 f1 f2
  have H := K.hide (X := X) (b := w.heap.size + 1 + 1) (by omega)
  have D := cloCall_c (X := AndX X (w.heap.size + 1 + 1)) n ih g j e vy s i r cv (.agg #[.int .i64 m, IF q]) (W3.setCell ⟨r, 9, none⟩ (.int .i64 (i : Int))) b hn hB hcs r94 hf (clo_body hox hoy) (hR4.hide (by omega)) (hx.keep H) (hy.keep H)
  have s2 : Safe X r cv (W3.setCell ⟨r, 9, none⟩ (.int .i64 (i : Int))) (w.heap.size + 1 + 1) := hR.new (by omega) (by omega)
  obtain ⟨o, ho⟩ : ∃ o, callV (ev n) i (.clo j g e) vy s = o := ⟨_, rfl⟩
  rw [ho] at D ⊢
  have HP := Lib.hid (And.intro hR4 (And.intro K (And.intro y5 (And.intro zs4 s2))))
  clear hR4 K r94 y5 zs4 s2 H hx hy hox hoy hB hn hcs hfi
  rcases Ou.cases o with ⟨v, s3, hO⟩ | hbad
  · subst hO
    have D2 : Calls Tryz.prog 143 #[ptr b, .agg #[.int .i64 m, IF q]] (W3.setCell ⟨r, 9, none⟩ (.int .i64 (i : Int))) fun e' w' => ∃ z, e' = .returned z ∧ ∃ mu qu cv7, z = .agg #[.int .i64 mu, IF qu] ∧ RepV r (Safe (AndX X (w.heap.size + 1 + 1)) r cv7 w') w' v (.agg #[.int .i64 mu, IF qu]) ∧ RunAt (AndX X (w.heap.size + 1 + 1)) r cv7 w' s3 ∧ Kep r cv (W3.setCell ⟨r, 9, none⟩ (.int .i64 (i : Int))) cv7 w' ∧ ∃ z0 z1, w'.heap[w.heap.size + 1 + 1]? = some (.cells #[z0, z1] 105 (0, 0)) := D.mono (by
      rintro e' w' ⟨x, cv7, rfl, hv, hR7, hK7⟩
      obtain ⟨u0, u1, rfl, ⟨mu, rfl⟩, ⟨qu, rfl⟩⟩ := hv.form
      obtain ⟨_, K, y5, _, s2⟩ := HP.out
      exact ⟨_, rfl, mu, qu, cv7, rfl, hv, hR7, hK7, z4, z5, (hK7.safe s2).1.trans y5⟩)
    clear D
    go_wp2_with (refine wpList_invoke1 rfl _ _ 179 (ptr b) _ _ (.agg #[.int .i64 m, IF q]) rfl rfl rfl 143 (call_m b _ (by unfold CallName; kernel_rfl) _) (call_f b _ _) _ D2 ?_; rintro z w7 ⟨mu, qu, cv7, rfl, hv, hR7, hK7, q0, q1, hz⟩; obtain ⟨t0, t1, t2, t3⟩ := two_of hz)
    obtain ⟨hR4, K, y5, zs4, s2⟩ := HP.out
    refine bodyPost_ret (v := .agg #[.int .i64 mu, IF qu]) (by simp [results, Tryz.results73, go_sem, t0, t1]) rfl ?_
    refine ev_out (b := w.heap.size + 1 + 1) hR (by omega) hv hR7 (K.trans hK7) (by have := hK7.size; omega) (fun e => ?_)
    rcases (K.trans hK7).own _ e with h | h
    · have := (hR.owns _ h).2; omega
    · rcases hK7.own _ e with h | h
      · have := (hR.owns _ h).2; omega
      · omega
  · have D2 : Calls Tryz.prog 143 #[ptr b, .agg #[.int .i64 m, IF q]] (W3.setCell ⟨r, 9, none⟩ (.int .i64 (i : Int))) fun e' w' => ∃ c, e' = .panicked c ∧ EvPost X r cv w s o (.panicked c) w' := D.mono (by
      intro e' w' h
      obtain ⟨_, K, y5, _, s2⟩ := HP.out
      obtain ⟨hc, cv', s', h2, h3, h4⟩ := (evPost_bad hbad _ _ _ _ _ _).1 h
      exact ⟨_, hc, (evPost_bad hbad _ _ _ _ _ _).2 ⟨rfl, cv', s', h2.bare, K.trans h3, h4⟩⟩)
    clear D
    go_wp2_with (refine wpList_invoke1_bad rfl _ _ 179 (ptr b) _ _ (.agg #[.int .i64 m, IF q]) rfl rfl rfl 143 (call_m b _ (by unfold CallName; kernel_rfl) _) (call_f b _ _) _ D2 ?_; intro c w7 h; first | exact ⟨rfl, h⟩ | exact ⟨rfl, by rw [ho]; exact h⟩)
end Go.Proofs.YthjhpfcilaghgaaGreatDoor
