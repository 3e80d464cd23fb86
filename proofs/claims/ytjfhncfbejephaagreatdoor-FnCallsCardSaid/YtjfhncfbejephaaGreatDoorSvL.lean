import Derived.Test.YtjfhncfbejephaaGreatDoorMVd
import Derived.Deep.RegionLaw
import Derived.Deep.RegionHeld3
/- The specification's eval: a call. Written by genS.py. -/
namespace Go.Proofs.YtjfhncfbejephaaGreatDoor
open Go.RowKit Go.Shelf
open Ff
set_option linter.unusedVariables false
variable {X : Nat → Prop}
attribute [local irreducible] Calls

/-- The boxes with which a call begins. -/
def c8W (w : World) (x0 x1 x2 x3 x4 x5 x6 x7 y0 y1 y2 y3 y4 y5 y6 y7 : Value) : World := ((w.alloc (.cells #[x0, x1, x2, x3, x4, x5, x6, x7] 114)).alloc (.cells #[y0, y1, y2, y3, y4, y5, y6, y7] 114)).alloc (.cells #[.bool false, .int .i64 0, .int .u8 0, .int .i64 0, .string ⟨#[]⟩, .slice none 0 0, .int .i64 0, .slice none 0 0] 114)
theorem c8W_facts (w : World) (x0 x1 x2 x3 x4 x5 x6 x7 y0 y1 y2 y3 y4 y5 y6 y7 : Value) : (c8W w x0 x1 x2 x3 x4 x5 x6 x7 y0 y1 y2 y3 y4 y5 y6 y7).heap.size = w.heap.size + 3 ∧ Below w.heap.size w (c8W w x0 x1 x2 x3 x4 x5 x6 x7 y0 y1 y2 y3 y4 y5 y6 y7) ∧ (c8W w x0 x1 x2 x3 x4 x5 x6 x7 y0 y1 y2 y3 y4 y5 y6 y7).heap[w.heap.size]? = some (.cells #[x0, x1, x2, x3, x4, x5, x6, x7] 114 (0, 0)) ∧ (c8W w x0 x1 x2 x3 x4 x5 x6 x7 y0 y1 y2 y3 y4 y5 y6 y7).heap[w.heap.size + 1]? = some (.cells #[y0, y1, y2, y3, y4, y5, y6, y7] 114 (0, 0)) ∧ (c8W w x0 x1 x2 x3 x4 x5 x6 x7 y0 y1 y2 y3 y4 y5 y6 y7).heap[w.heap.size + 1 + 1]? = some (.cells #[.bool false, .int .i64 0, .int .u8 0, .int .i64 0, .string ⟨#[]⟩, .slice none 0 0, .int .i64 0, .slice none 0 0] 114 (0, 0)) := by
  refine ⟨by simp [c8W], (((Below.refl _ w).alloc (Nat.le_refl _) _).alloc (by simp) _).alloc (by simp; omega) _, alloc_old (alloc_old (alloc_at w _)), alloc_old (alloc_at2 w _ _), ?_⟩
  have := alloc_at2 (w.alloc (.cells #[x0, x1, x2, x3, x4, x5, x6, x7] 114)) (.cells #[y0, y1, y2, y3, y4, y5, y6, y7] 114) (.cells #[.bool false, .int .i64 0, .int .u8 0, .int .i64 0, .string ⟨#[]⟩, .slice none 0 0, .int .i64 0, .slice none 0 0] 114)
  simpa [c8W] using this
set_option maxHeartbeats 4000000 in
theorem scall_num (rb : Nat) (cv av : Value) (s : St) (k : Nat) (pp : Nat) (y : Value) (vy : Vl) (w : World) (hR : RunS X rb cv av w s 0) (hy : SV (SafeS X rb cv av w) w vy y) :
    Calls Tryz.prog 72 #[ptr rb, .int .i64 (pp : Int), num8 k, y] w (SPost X rb cv av w .fault) := by
  obtain ⟨bw, nw, kw, mw, sw, aw2, lw, cw2, iw, aw3, lw3, cw3, rfl⟩ := hy.form
  obtain ⟨ws, wb, x0, y0, z0⟩ := c8W_facts w (.bool false) (.int .i64 (k : Int)) (.int .u8 0) (.int .i64 0) (.string ⟨#[]⟩) (.slice none 0 0) (.int .i64 0) (.slice none 0 0) (.bool bw) (.int .i64 nw) (.int .u8 kw) (.int .i64 mw) (.string sw) (.slice aw2 lw cw2) (.int .i64 iw) (.slice aw3 lw3 cw3)
  obtain ⟨f0, f1, _⟩ := eight_of x0
  have hrb := hR.lt
  have hR1 := hR.below wb
  go_enter Tryz.func72, Tryz.ntmps72
  generalize hW : c8W w (.bool false) (.int .i64 (k : Int)) (.int .u8 0) (.int .i64 0) (.string ⟨#[]⟩) (.slice none 0 0) (.int .i64 0) (.slice none 0 0) (.bool bw) (.int .i64 nw) (.int .u8 kw) (.int .i64 mw) (.string sw) (.slice aw2 lw cw2) (.int .i64 iw) (.slice aw3 lw3 cw3) = W at ws wb x0 y0 z0 f0 f1 hR1
  unfold c8W at hW
  have ST := stop_live rb 1 W hR1.at.1 (hR1.fz 0)
  have hDs : DeadS X rb (W.setCell ⟨rb, 0, none⟩ (.int .i64 1)) 1 := (hR1.set (s' := s) (en' := 1) 0 (.int .i64 1) (by decide) (by simp [runL]) rfl).dead (by decide)
  have hbz := (Below.refl _ (W.setCell ⟨rb, 0, none⟩ (.int .i64 1))).alloc (Nat.le_refl _) (.cells #[.bool false, .int .i64 0, .int .u8 0, .int .i64 0, .string ⟨#[]⟩, .slice none 0 0, .int .i64 0, .slice none 0 0] 114)
  have hD6 := hDs.below hbz
  have hKs := ((KepS.below (rb := rb) (cv := cv) (av := av) wb).set 0 (.int .i64 1)).trans (KepS.below (rb := rb) hbz)
  have hz6 := (hbz.block (w.heap.size + 1 + 1) (by simp; omega)).trans ((Below.heap_setCell W ⟨rb, 0, none⟩ (.int .i64 1) (w.heap.size + 1 + 1) (by show _ ≠ rb; omega)).trans z0)
  go_wp2_with fail
  refine ST.mono ?_
  rintro e' w8 ⟨rfl, hw8⟩
  rw [← hw8] at hD6 hKs hz6
  obtain ⟨t0, t1, t2, t3, t4, t5, t6, t7, tff⟩ := eight_of hz6
  clear hw8 hbz hW
  go_wp2_with fail
  have h8 := eight_of (set8_at hz6 (.bool false) (.int .i64 0) (.int .u8 0) (.int .i64 0) (.string ⟨#[]⟩) (.slice none 0 0) (.int .i64 0) (.slice none 0 0))
  obtain ⟨r0, r1, r2, r3, r4, r5, r6, r7, _⟩ := h8
  unfold set8 at r0 r1 r2 r3 r4 r5 r6 r7
  refine bodyPost_ret (v := zero8) (by simp [results, Tryz.results72, go_sem, r0, r1, r2, r3, r4, r5, r6, r7]) rfl ?_
  exact ⟨rfl, hD6.set8 (by omega) _ _ _ _ _ _ _ _, cv, av, hKs.set8 (by omega) _ _ _ _ _ _ _ _⟩
theorem sPost_size {rb : Nat} {cv av : Value} {w w' : World} {o : Ou} {e' : Ending} (h : SPost X rb cv av w o e' w') : w.heap.size ≤ w'.heap.size := by
  obtain ⟨_, _, hk⟩ := sPost_kep h
  exact hk.size
theorem drew_far {W : World} {o : Obj} {g k : Nat} {v : Value} (hg : g < W.heap.size) (h : W.drew.cell? ⟨g, k, none⟩ = some v) : (W.alloc o).drew.cell? ⟨g, k, none⟩ = some v := (World.cell?_alloc_lt W o ⟨g, k, none⟩ hg).trans h
theorem set8x_far (W : World) (g b : Nat) (hne : g ≠ b) {u0 u1 u2 u3 u4 u5 u6 u7 v : Value} {k : Nat} (h : W.cell? ⟨g, k, none⟩ = some v) : ((((((((W.setCell ⟨b, 0, none⟩ u0).setCell ⟨b, 1, none⟩ u1).setCell ⟨b, 2, none⟩ u2).setCell ⟨b, 3, none⟩ u3).setCell ⟨b, 4, none⟩ u4).setCell ⟨b, 5, none⟩ u5).setCell ⟨b, 6, none⟩ u6).setCell ⟨b, 7, none⟩ u7).cell? ⟨g, k, none⟩ = some v := by
  rw [set_far _ _ _ _ _ _ hne, set_far _ _ _ _ _ _ hne, set_far _ _ _ _ _ _ hne, set_far _ _ _ _ _ _ hne, set_far _ _ _ _ _ _ hne, set_far _ _ _ _ _ _ hne, set_far _ _ _ _ _ _ hne, set_far _ _ _ _ _ _ hne]; exact h
theorem RunS.rowUp {rb : Nat} {cv av : Value} {W : World} {s : St} {en : Int} (hR : RunS X rb cv av W s en) (o : Obj) : (W.alloc o).drew.ownsRow (rb + 1) 3 1 cv s.called.length (intsV s.called) :=
  World.ownsRow.kept (row := none) hR.row (grown_none (((Below.refl _ W).alloc (Nat.le_refl _) o).drew)) (by rcases ho : cv.ownBlock with _ | j; exact .inl rfl; exact .inr (by simp))
theorem RunS.grown7 {rb : Nat} {cv av : Value} {W w5 : World} {s : St} {en : Int} {o : Obj} (hR : RunS X rb cv av W s en) (hg : (W.alloc o).drew.grownBy w5 cv.ownBlock) : w5.cell? ⟨rb, 7, none⟩ = some cv ∧ w5.frozen? ⟨rb, 7, none⟩ = false := by
  have hrb := hR.lt
  have hz : (W.alloc o).drew.heap.size = W.heap.size + 1 := by simp
  have hrbh : w5.heap[rb]? = W.heap[rb]? := (hg.block rb (by omega) (fun e => row_not2 hR.row e.symm)).trans (((Below.refl _ W).alloc (Nat.le_refl _) o).drew.block rb hrb)
  exact ⟨(World.cell?_of_block (a := ⟨rb, 7, none⟩) hrbh).trans (hR.cs 7 _ rfl), (World.frozen?_of_block (a := ⟨rb, 7, none⟩) hrbh).trans (hR.fz 7)⟩
theorem RunS.grown8 {rb na : Nat} {cv av : Value} {xs : List Value} {W w5 : World} {s : St} {en : Int} {o : Obj} (hR : RunS X rb cv av W s en) (hA : W.ownsRow (rb + 1) 194 2 av na xs) (hg : (W.alloc o).drew.grownBy w5 av.ownBlock) : w5.cell? ⟨rb, 8, none⟩ = some av ∧ w5.frozen? ⟨rb, 8, none⟩ = false := by
  have hrb := hR.lt
  have hz : (W.alloc o).drew.heap.size = W.heap.size + 1 := by simp
  have hrbh : w5.heap[rb]? = W.heap[rb]? := (hg.block rb (by omega) (fun e => row_not2 hA e.symm)).trans (((Below.refl _ W).alloc (Nat.le_refl _) o).drew.block rb hrb)
  exact ⟨(World.cell?_of_block (a := ⟨rb, 8, none⟩) hrbh).trans (hR.cs 8 _ rfl), (World.frozen?_of_block (a := ⟨rb, 8, none⟩) hrbh).trans (hR.fz 8)⟩
theorem sPost_form {X : Nat → Prop} {rb : Nat} {cv av : Value} {w w' : World} {o : Ou} {e' : Ending} (h : SPost X rb cv av w o e' w') : ∃ b n k m s a l c i a2 l2 c2, e' = .returned (v8 b n k m s a l c i a2 l2 c2) := by
  cases o with
  | ok v s' => obtain ⟨x, _, _, rfl, hv, _⟩ := h; obtain ⟨b, n, k, m, s, a, l, c, i, a2, l2, c2, rfl⟩ := hv.form; exact ⟨b, n, k, m, s, a, l, c, i, a2, l2, c2, rfl⟩
  | fault => obtain ⟨rfl, _⟩ := h; exact ⟨_, _, _, _, _, _, _, _, _, _, _, _, rfl⟩
  | long => obtain ⟨rfl, _⟩ := h; exact ⟨_, _, _, _, _, _, _, _, _, _, _, _, rfl⟩
theorem sPost_from {X : Nat → Prop} {rb : Nat} {cv av c1 a1 : Value} {w w1 w' : World} {o : Ou} {e' : Ending} (K : KepS rb cv av w c1 a1 w1) (h : SPost X rb c1 a1 w1 o e' w') : SPost X rb cv av w o e' w' := by
  cases o with
  | ok v s' => obtain ⟨x, c2, a2, h1, h2, h3, h4⟩ := h; exact ⟨x, c2, a2, h1, h2, h3, K.trans h4⟩
  | fault => obtain ⟨h1, h2, c2, a2, h4⟩ := h; exact ⟨h1, h2, c2, a2, K.trans h4⟩
  | long => obtain ⟨h1, h2, c2, a2, h4⟩ := h; exact ⟨h1, h2, c2, a2, K.trans h4⟩
theorem sPost_below {X : Nat → Prop} {rb : Nat} {cv av : Value} {w w1 w' : World} {o : Ou} {e' : Ending} (h : SPost X rb cv av w o e' w1) (hb : Below w1.heap.size w1 w') : SPost X rb cv av w o e' w' := by
  cases o with
  | ok v s' => obtain ⟨x, c2, a2, h1, h2, h3, h4⟩ := h; exact ⟨x, c2, a2, h1, h2.keep (fun q hq => (KepS.below (rb := rb) (cv := c2) (av := a2) hb).safe hq), h3.below hb, h4.trans (KepS.below hb)⟩
  | fault => obtain ⟨h1, h2, c2, a2, h4⟩ := h; exact ⟨h1, h2.below hb, c2, a2, h4.trans (KepS.below hb)⟩
  | long => obtain ⟨h1, h2, c2, a2, h4⟩ := h; exact ⟨h1, h2.below hb, c2, a2, h4.trans (KepS.below hb)⟩
theorem sPost_set8 {Y : Nat → Prop} {rb g : Nat} {cv av : Value} {w w1 : World} {o : Ou} {b : Bool} {n k m : Int} {ss : ByteArray} {a : Option Addr} {l c : Nat} {i : Int} {a2 : Option Addr} {l2 c2 : Nat} (hrb : rb < g) (hgl : g < w.heap.size) (hco : ∀ m, cv.ownBlock = some m ∨ av.ownBlock = some m → m < g) (h : SPost (AndX Y g) rb cv av w o (.returned (v8 b n k m ss a l c i a2 l2 c2)) w1) {w0 : World} (h0 : w0.heap.size ≤ g) (K0 : KepS rb cv av w0 cv av w) :
    SPost Y rb cv av w0 o (.returned (v8 b n k m ss a l c i a2 l2 c2)) (set8 w1 g (.bool b) (.int .i64 n) (.int .u8 k) (.int .i64 m) (.string ss) (.slice a l c) (.int .i64 i) (.slice a2 l2 c2)) := by
  have own : ∀ c' a', KepS rb cv av w c' a' w1 → ∀ j, c'.ownBlock = some j ∨ a'.ownBlock = some j → j ≠ g := fun c' a' hK j hj e => by
    rcases hK.own j hj with h | h | h
    · have := hco j (.inl h); omega
    · have := hco j (.inr h); omega
    · omega
  cases o with
  | ok v s' =>
    obtain ⟨x, c3, a3, h1, h2, h3, h4⟩ := h
    injection h1 with h1; subst h1
    exact ⟨_, c3, a3, rfl, h2.keep (fun q hq => ⟨set8_heap _ _ _ _ _ _ _ _ _ _ (fun e => hq.2.2.2.2 (.inr e)), by rw [set8_size]; exact hq.1, hq.2.1, hq.2.2.1, hq.2.2.2.1, fun e => hq.2.2.2.2 (.inl e)⟩), (h3.bare).set8 (by omega) (fun e => own _ _ h4 g (.inl e) rfl) (fun e => own _ _ h4 g (.inr e) rfl) _ _ _ _ _ _ _ _, (K0.trans h4).set8 h0 _ _ _ _ _ _ _ _⟩
  | fault =>
    obtain ⟨h1, h2, c3, a3, h4⟩ := h
    exact ⟨h1, (DeadS.mk h2.c0 h2.c1 h2.c6 h2.fz h2.ne : DeadS Y rb w1 1).set8 (by omega) _ _ _ _ _ _ _ _, c3, a3, (K0.trans h4).set8 h0 _ _ _ _ _ _ _ _⟩
  | long =>
    obtain ⟨h1, h2, c3, a3, h4⟩ := h
    exact ⟨h1, (DeadS.mk h2.c0 h2.c1 h2.c6 h2.fz h2.ne : DeadS Y rb w1 2).set8 (by omega) _ _ _ _ _ _ _ _, c3, a3, (K0.trans h4).set8 h0 _ _ _ _ _ _ _ _⟩
theorem wp_cutV {P : Program} {cd : Code} {K : Act → World → Prop} {R : Exit → Act → World → Prop} {a0 : Act} {w0 : World} {G : Nat → Addr → Nat → Bool → Int → Int → Int → ByteArray → Option Addr → Nat → Nat → Int → Option Addr → Nat → Nat → Act} (Φ : Nat → Addr → Nat → Bool → Int → Int → Int → ByteArray → Option Addr → Nat → Nat → Int → Option Addr → Nat → Nat → World → Prop)
    (h : cd.wp P (Exit.then (fun a' w' => ∃ b ay cy bq n k m s a l c i a2 l2 c2, Φ b ay cy bq n k m s a l c i a2 l2 c2 w' ∧ a' = G b ay cy bq n k m s a l c i a2 l2 c2) R) a0 w0) (hk : ∀ b ay cy bq n k m s a l c i a2 l2 c2 w', Φ b ay cy bq n k m s a l c i a2 l2 c2 w' → K (G b ay cy bq n k m s a l c i a2 l2 c2) w') : cd.wp P (Exit.then K R) a0 w0 :=
  Code.wp_mono (fun e a w q => by cases e <;> first | exact q | (obtain ⟨b, ay, cy, bq, n, k, m, s, a, l, c, i, a2, l2, c2, q1, rfl⟩ := q; exact hk _ _ _ _ _ _ _ _ _ _ _ _ _ _ _ _ q1)) h
theorem step_max {ops : Array Oper} {o : Oper} {a : Act} {K : Act → World → Prop} {Q : Exit → Act → World → Prop} {E : Prop} (W : World) (hgd : o.guard = none) (s x : Operand)
    (ho : o.op = .call { callee := .builtin .max, args := #[s, x], argTypes := #[3, 3] }) (m n : Nat) (hs : a.eval s = .int .i64 (m : Int)) (hx : a.eval x = .int .i64 (n : Int)) (h : K (a.put o.dst (.int .i64 ((max m n : Nat) : Int))) W) :
    if Region.wanted o (yielded ops a.tmps) = true then Oper.wp Tryz.prog o a W K Q else E := by
  have hw : Region.wanted o (yielded ops a.tmps) = true := by simp [Region.wanted, hgd]
  rw [if_pos hw]
  have hm : ((max m n : Nat) : Int) = if (m : Int) < n then (n : Int) else m := by omega
  unfold Oper.wp execOp
  simp only [ho, resolve, invoke, builtin, Sem.run_bind, Sem.run_pure, Result.andThen_ok, List.map_toArray, List.map_cons, List.map_nil, hs, hx]
  by_cases hc : (m : Int) < n
  · simp [go_sem, hc]
    rw [hm, if_pos hc] at h
    exact h
  · simp [go_sem, hc]
    rw [hm, if_neg hc] at h
    exact h
set_option maxRecDepth 100000 in
set_option maxHeartbeats 8000000 in
theorem scall_fn (n : Nat) (ih : SEvC n) (c : UInt8) (b0 : Tm) (j : Nat) (e : En) (vy : Vl) (s : St) (rb : Nat) (cv av : Value) (pp : Nat) (fv yv : Value) (w : World) (hn : 1501 ≤ s.steps + n) (hB : StB s) (hcs : s.calls < s.steps) (hox : VlOk (.clo j (.fn c b0) e)) (hoy : VlOk vy) (hR : RunS X rb cv av w s 0) (hf : SV (SafeS X rb cv av w) w (.clo j (.fn c b0) e) fv) (hy : SV (SafeS X rb cv av w) w vy yv) :
    Calls Tryz.prog 72 #[ptr rb, .int .i64 (pp : Int), fv, yv] w (SPost X rb cv av w (callV (ev n) pp (.clo j (.fn c b0) e) vy s)) := by
  obtain ⟨bw, nw, kw, mw, sw, aw2, lw, cw2, iw, aw3, lw3, cw3, rfl⟩ := hy.form
  have hok := clo_body hox hoy
  have hlen := hok.room
  obtain ⟨h1, h2, h3, h4, h5, h6, h7, h8, h9⟩ := id hB
  have hcl2 : s.called.length ≤ 1500 := by omega
  clear h7 h8 h9
  have hF := Lib.hid hf
  cases hf with
  | clo _ _ _ k m ss0 a l cap a2 l2 ce ht he =>
  obtain ⟨g, cap', heq, hg, hkids⟩ := ht.head
  obtain ⟨ae, ce', heq2⟩ := he.form
  unfold tmHeadA at heq
  simp only [Value.agg.injEq, Array.mk.injEq, List.cons.injEq, and_true, Value.int.injEq, Value.string.injEq, Value.slice.injEq, true_and] at heq heq2
  obtain ⟨rfl, rfl, rfl, rfl, rfl, rfl⟩ := heq
  obtain ⟨rfl, rfl, rfl⟩ := heq2
  obtain ⟨kk, mm, ss, aa, ll, cc, n0, n1, n2, n3, hk⟩ := skid (j := j + 1) hkids (k := 0) rfl (by rw [before_len0]) (q := 0) rfl
  have n0 : w.cell? ⟨g, 0, none⟩ = _ := n0
  have n1 : w.cell? ⟨g, 1, none⟩ = _ := n1
  have n2 : w.cell? ⟨g, 2, none⟩ = _ := n2
  have n3 : w.cell? ⟨g, 3, none⟩ = _ := n3
  have hrb := hR.lt
  have hgl := hg.1
  obtain ⟨ws, wb, x0, y0, z0⟩ := c8W_facts w (.bool true) (.int .i64 0) (.int .u8 92) (.int .i64 (j : Int)) (.string ⟨#[c]⟩) (.slice (some ⟨g, 0, none⟩) 1 cap) (.int .i64 (j : Int)) (.slice (some ae) e.ents.length ce) (.bool bw) (.int .i64 nw) (.int .u8 kw) (.int .i64 mw) (.string sw) (.slice aw2 lw cw2) (.int .i64 iw) (.slice aw3 lw3 cw3)
  have hR1 := (hR.below wb).hide (b := w.heap.size + 1 + 1) (by omega)
  show Calls Tryz.prog 72 #[ptr rb, .int .i64 (pp : Int), .agg #[.bool true, .int .i64 0, .int .u8 92, .int .i64 (j : Int), .string ⟨#[c]⟩, .slice (some ⟨g, 0, none⟩) 1 cap, .int .i64 (j : Int), .slice (some ae) e.ents.length ce], v8 bw nw kw mw sw aw2 lw cw2 iw aw3 lw3 cw3] w _
  go_enter Tryz.func72, Tryz.ntmps72
  generalize hW : c8W w (.bool true) (.int .i64 0) (.int .u8 92) (.int .i64 (j : Int)) (.string ⟨#[c]⟩) (.slice (some ⟨g, 0, none⟩) 1 cap) (.int .i64 (j : Int)) (.slice (some ae) e.ents.length ce) (.bool bw) (.int .i64 nw) (.int .u8 kw) (.int .i64 mw) (.string sw) (.slice aw2 lw cw2) (.int .i64 iw) (.slice aw3 lw3 cw3) = W at ws wb x0 y0 z0 hR1
  unfold c8W at hW
  obtain ⟨_, _, c2, _, _, _, _, _, _⟩ := hR1.at
  have fz := hR1.fz
  have o0 : w.heap.size ≠ rb := by omega
  have o1 : w.heap.size + 1 ≠ rb := by omega
  have o2 : w.heap.size + 1 + 1 ≠ rb := by omega
  have hcl : s.calls ≤ 1500 := by omega
  obtain ⟨f0, _, _⟩ := eight_of x0
  have hR2 : RunS (AndX X (w.heap.size + 1 + 1)) rb cv av (W.setCell ⟨rb, 2, none⟩ (.int .i64 ((s.calls : Int) + 1))) { s with calls := s.calls + 1 } 0 := hR1.set 2 _ (by decide) (by simp [runL]) rfl
  have K2 := (KepS.below (rb := rb) (cv := cv) (av := av) wb).set 2 (.int .i64 ((s.calls : Int) + 1))
  have x2 := (Below.heap_setCell W ⟨rb, 2, none⟩ (.int .i64 ((s.calls : Int) + 1)) w.heap.size o0).trans x0
  have y2 := (Below.heap_setCell W ⟨rb, 2, none⟩ (.int .i64 ((s.calls : Int) + 1)) (w.heap.size + 1) o1).trans y0
  have z2 := (Below.heap_setCell W ⟨rb, 2, none⟩ (.int .i64 ((s.calls : Int) + 1)) (w.heap.size + 1 + 1) o2).trans z0
  have hz : (W.setCell ⟨rb, 2, none⟩ (.int .i64 ((s.calls : Int) + 1))).heap.size = w.heap.size + 3 := by simp [ws]
  go_wp2_with fail
  generalize (W.setCell ⟨rb, 2, none⟩ (.int .i64 ((s.calls : Int) + 1))) = w2 at hR2 K2 x2 y2 z2 hz ⊢
  clear f0 c2 fz hR1 wb x0 y0 z0 hW ws
  have H2 := K2.hide (X := X) (b := w.heap.size + 1 + 1) (by omega)
  have hown : ∀ (cv2 av2 : Value) (w4 : World), KepS rb cv av w2 cv2 av2 w4 → ∀ j, cv2.ownBlock = some j ∨ av2.ownBlock = some j → j ≠ w.heap.size + 1 + 1 := fun cv2 av2 w4 hK j hj e => by
    rcases hK.own j hj with h | h | h
    · have := (hR.owns j (.inl h)).2; omega
    · have := (hR.owns j (.inr h)).2; omega
    · omega
  have sF : SafeS X rb cv av w2 w.heap.size := hR.new (Nat.le_refl _) (by omega)
  have sV : SafeS X rb cv av w2 (w.heap.size + 1) := hR.new (Nat.le_succ _) (by omega)
  have sB : SafeS X rb cv av w2 (w.heap.size + 1 + 1) := hR.new (by omega) (by omega)
  have sg := (K2.safe hg).2
  have hfF : ∀ (cv2 av2 : Value) (w4 : World), KepS rb cv av w2 cv2 av2 w4 → w4.heap[w.heap.size]? = some (.cells #[.bool true, .int .i64 0, .int .u8 92, .int .i64 (j : Int), .string ⟨#[c]⟩, .slice (some ⟨g, 0, none⟩) 1 cap, .int .i64 (j : Int), .slice (some ae) e.ents.length ce] 114 (0, 0)) := fun cv2 av2 w4 hK => (hK.safe sF).1.trans x2
  have hfV : ∀ (cv2 av2 : Value) (w4 : World), KepS rb cv av w2 cv2 av2 w4 → w4.heap[w.heap.size + 1]? = some (.cells #[.bool bw, .int .i64 nw, .int .u8 kw, .int .i64 mw, .string sw, .slice aw2 lw cw2, .int .i64 iw, .slice aw3 lw3 cw3] 114 (0, 0)) := fun cv2 av2 w4 hK => (hK.safe sV).1.trans y2
  have hfin : ∀ (cv2 av2 : Value) (w4 : World), KepS rb cv av w2 cv2 av2 w4 → w4.heap[w.heap.size + 1 + 1]? = some (.cells #[.bool false, .int .i64 0, .int .u8 0, .int .i64 0, .string ⟨#[]⟩, .slice none 0 0, .int .i64 0, .slice none 0 0] 114 (0, 0)) := fun cv2 av2 w4 hK => (hK.safe sB).1.trans z2
  clear y2 z2
  obtain ⟨_, _, _, _, _, _, _, c7, _⟩ := hR2.at
  have fz := hR2.fz
  obtain ⟨_, _, _, _, _, _, f6, _, _⟩ := eight_of x2
  have lrb : rb < w2.heap.size := by omega
  have lF : w.heap.size < w2.heap.size := by omega
  have lV : w.heap.size + 1 < w2.heap.size := by omega
  have lB : w.heap.size + 1 + 1 < w2.heap.size := by omega
  have lrr : rb + 1 ≤ ((w2.alloc (.cells #[.int .i64 (j : Int)] 3)).drew).heap.size := by simp; omega
  clear hz
  have nF : some w.heap.size ≠ cv.ownBlock := fun e => by have := (hR.owns _ (.inl e.symm)).2; omega
  apply wp_cut (fun gr cr w5 => w5.ownsRow (rb + 1) 3 1 (.slice (some ⟨gr, 0, none⟩) (s.called.length + 1) cr) (s.called.length + 1) (intsV s.called ++ [.int .i64 (j : Int)]) ∧ (w2.alloc (.cells #[.int .i64 (j : Int)] 3)).drew.grownBy w5 cv.ownBlock ∧ ((Value.slice (some ⟨gr, 0, none⟩) (s.called.length + 1) cr).ownBlock = cv.ownBlock ∨ (Value.slice (some ⟨gr, 0, none⟩) (s.called.length + 1) cr).ownBlock = some (w2.alloc (.cells #[.int .i64 (j : Int)] 3)).drew.heap.size)) (fun gr cr w5 => w5.setCell ⟨rb, 7, none⟩ (.slice (some ⟨gr, 0, none⟩) (s.called.length + 1) cr))
  case h =>
    go_region_law (first | ((refine step_app_int _ (by rfl) _ _ (by rfl) (rb + 1) cv s.called.length (intsV s.called) (by rfl) (hR2.rowUp _) ⟨w2.heap.size, 0, none⟩ [.int .i64 (j : Int)] (by rfl) rfl (nine_block (cs := [.int .i64 (j : Int)]) (alloc_at w2 _)) (by simp [Value.oneCell']) (by omega) lrr ?_); intro gr cr w5 hrow5 hgr5 hwh5; obtain ⟨c57, fz57⟩ := hR2.grown7 hgr5))
    all_goals exact ⟨gr, cr, w5, ⟨hrow5, hgr5, hwh5⟩, rfl, rfl⟩
  rintro gr cr w5 ⟨hrow5, hgr5, hwh5⟩
  go_wp2_with fail
  obtain ⟨hR3, K3, na, xsA, hna, hA3⟩ := hR2.addCalled hrow5 hgr5 hwh5
  have hna : na ≤ s.called.length := hna
  have lr3 := K3.size
  generalize (w5.setCell ⟨rb, 7, none⟩ (.slice (some ⟨gr, 0, none⟩) (s.called.length + 1) cr)) = w3 at hR3 K3 hA3 lr3 ⊢
  clear hrow5 hgr5 hwh5
  obtain ⟨_, _, _, _, _, _, _, _, c8⟩ := hR3.at
  have fz := hR3.fz
  obtain ⟨_, _, _, _, _, _, f6, _, _⟩ := eight_of (hfF _ _ _ K3)
  have lrb : rb < w3.heap.size := by omega
  have lF3 : w.heap.size < w3.heap.size := by omega
  have lrr : rb + 1 ≤ ((w3.alloc (.cells #[.int .i64 (pp : Int), .int .i64 (j : Int)] 194)).drew).heap.size := by simp; omega
  apply wp_cut (fun ga ca w5 => w5.ownsRow (rb + 1) 194 2 (.slice (some ⟨ga, 0, none⟩) (na + 1) ca) (na + 1) (xsA ++ [.int .i64 (pp : Int), .int .i64 (j : Int)]) ∧ (w3.alloc (.cells #[.int .i64 (pp : Int), .int .i64 (j : Int)] 194)).drew.grownBy w5 av.ownBlock ∧ ((Value.slice (some ⟨ga, 0, none⟩) (na + 1) ca).ownBlock = av.ownBlock ∨ (Value.slice (some ⟨ga, 0, none⟩) (na + 1) ca).ownBlock = some (w3.alloc (.cells #[.int .i64 (pp : Int), .int .i64 (j : Int)] 194)).drew.heap.size)) (fun ga ca w5 => w5.setCell ⟨rb, 8, none⟩ (.slice (some ⟨ga, 0, none⟩) (na + 1) ca))
  case h =>
    go_region_law (first | ((refine step_app_at _ (by rfl) _ _ (by rfl) (rb + 1) av na xsA (by rfl) (row_up hA3 _) ⟨w3.heap.size, 0, none⟩ [.int .i64 (pp : Int), .int .i64 (j : Int)] (by rfl) rfl (nine_block (cs := [.int .i64 (pp : Int), .int .i64 (j : Int)]) (alloc_at w3 _)) (by simp [Value.oneCell']) (by omega) lrr ?_); intro gr cr w5 hrow5 hgr5 hwh5; obtain ⟨c57, fz57⟩ := hR3.grown8 hA3 hgr5))
    all_goals exact ⟨gr, cr, w5, ⟨hrow5, hgr5, hwh5⟩, rfl, rfl⟩
  rintro ga ca w5 ⟨hrow5, hgr5, hwh5⟩
  obtain ⟨hR4, K4⟩ := hR3.addAt hA3 (by simp; omega) hrow5 hgr5 hwh5
  have K4 := K3.trans K4
  have lr4 := K4.size
  generalize (w5.setCell ⟨rb, 8, none⟩ (.slice (some ⟨ga, 0, none⟩) (na + 1) ca)) = w4 at hR4 K4 lr4 ⊢
  clear hrow5 hgr5 hwh5 hA3 c8 fz f6 lr3 lF3 lrb lrr K3 hR3 hR2
  generalize (Value.slice (some ⟨gr, 0, none⟩) (s.called.length + 1) cr) = cv1 at hR4 K4 ⊢
  generalize (Value.slice (some ⟨ga, 0, none⟩) (na + 1) ca) = av1 at hR4 K4 ⊢
  obtain ⟨_, _, _, _, _, _, c6, _, _⟩ := hR4.at
  have fz := hR4.fz
  have hR5 : RunS (AndX X (w.heap.size + 1 + 1)) rb cv1 av1 (w4.setCell ⟨rb, 6, none⟩ (.int .i64 ((s.depth : Int) + 1))) { s with calls := s.calls + 1, called := s.called ++ [j], depth := s.depth + 1 } 0 := hR4.set 6 _ (by decide) (by simp [runL]) rfl
  have K5 := K4.set 6 (.int .i64 ((s.depth : Int) + 1))
  have lr5 : w2.heap.size ≤ (w4.setCell ⟨rb, 6, none⟩ (.int .i64 ((s.depth : Int) + 1))).heap.size := by simpa using lr4
  go_wp2_with fail
  generalize (w4.setCell ⟨rb, 6, none⟩ (.int .i64 ((s.depth : Int) + 1))) = w5 at hR5 K5 lr5 ⊢
  clear c6 fz hR4 K4 lr4
  obtain ⟨_, _, _, _, _, c5, c6, _, _⟩ := hR5.at
  have fz := hR5.fz
  have K6 := (K5.set 5 (.int .i64 ((max s.deepest (s.depth + 1) : Nat) : Int))).trans (KepS.below (rb := rb) (cv := cv1) (av := av1) ((Below.refl _ (w5.setCell ⟨rb, 5, none⟩ (.int .i64 ((max s.deepest (s.depth + 1) : Nat) : Int)))).drew))
  have hR6 : RunS (AndX X (w.heap.size + 1 + 1)) rb cv1 av1 (w5.setCell ⟨rb, 5, none⟩ (.int .i64 ((max s.deepest (s.depth + 1) : Nat) : Int))).drew (s.enter pp j) 0 := (hR5.set (s' := s.enter pp j) (en' := 0) 5 (.int .i64 ((max s.deepest (s.depth + 1) : Nat) : Int)) (by decide) (by simp [runL, St.enter]) rfl).below ((Below.refl _ _).drew)
  have lr6 : w2.heap.size ≤ (w5.setCell ⟨rb, 5, none⟩ (.int .i64 ((max s.deepest (s.depth + 1) : Nat) : Int))).drew.heap.size := by simpa using lr5
  apply wp_cut (fun g cr w' => w' = (w5.setCell ⟨rb, 5, none⟩ (.int .i64 ((max s.deepest (s.depth + 1) : Nat) : Int))).drew) (fun g cr w' => w')
  case h =>
    obtain ⟨q1, q2, _⟩ : ∃ q1 q2 : Nat, True := ⟨0, 0, trivial⟩
    go_region_law (refine step_max _ (by rfl) _ _ (by rfl) s.deepest (s.depth + 1) (by rfl) (by rfl) ?_)
    all_goals exact ⟨q1, q2, _, rfl, rfl, rfl⟩
  rintro q1 q2 w6 rfl
  generalize (w5.setCell ⟨rb, 5, none⟩ (.int .i64 ((max s.deepest (s.depth + 1) : Nat) : Int))).drew = w6 at hR6 K6 lr6 ⊢
  clear hR5 K5 lr5 c5 c6 fz
  have six : ∀ (c0 a0 : Value) (w' : World), KepS rb cv av w2 c0 a0 w' → w'.cell? ⟨g, 0, none⟩ = some (.int .u8 kk) ∧ w'.cell? ⟨g, 1, none⟩ = some (.int .i64 mm) ∧ w'.cell? ⟨g, 2, none⟩ = some (.string ss) ∧ w'.cell? ⟨g, 3, none⟩ = some (.slice aa ll cc) ∧ w'.cell? ⟨w.heap.size, 4, none⟩ = some (.string ⟨#[c]⟩) ∧ w'.cell? ⟨w.heap.size, 5, none⟩ = some (.slice (some ⟨g, 0, none⟩) 1 cap) ∧ w'.cell? ⟨w.heap.size + 1, 0, none⟩ = some (.bool bw) ∧ w'.cell? ⟨w.heap.size + 1, 1, none⟩ = some (.int .i64 nw) ∧ w'.cell? ⟨w.heap.size + 1, 2, none⟩ = some (.int .u8 kw) ∧ w'.cell? ⟨w.heap.size + 1, 3, none⟩ = some (.int .i64 mw) ∧ w'.cell? ⟨w.heap.size + 1, 4, none⟩ = some (.string sw) ∧ w'.cell? ⟨w.heap.size + 1, 5, none⟩ = some (.slice aw2 lw cw2) ∧ w'.cell? ⟨w.heap.size + 1, 6, none⟩ = some (.int .i64 iw) ∧ w'.cell? ⟨w.heap.size + 1, 7, none⟩ = some (.slice aw3 lw3 cw3) := fun c0 a0 w' hK => by
    obtain ⟨_, _, _, _, f4, f5, _, _, _⟩ := eight_of (hfF _ _ _ hK)
    obtain ⟨v0, v1, v2, v3, v4, v5, v6, v7, _⟩ := eight_of (hfV _ _ _ hK)
    have q := K2.trans hK
    exact ⟨q.cell hg n0, q.cell hg n1, q.cell hg n2, q.cell hg n3, f4, f5, v0, v1, v2, v3, v4, v5, v6, v7⟩
  obtain ⟨c0, _, _, _, _, _, c6o, _, _⟩ := hR6.at
  have c6 : w6.cell? ⟨rb, 6, none⟩ = some (.int .i64 ((s.depth : Int) + 1)) := c6o
  clear c6o
  have fz := hR6.fz
  obtain ⟨_, _, f2, _, f4, f5, _, f7, _⟩ := eight_of (hfF _ _ _ K6)
  have hle : e.ents.length ≤ 900 := by rw [En.ents_len]; simp only [bodyEn, En.names, List.length_cons] at hlen; omega
  by_cases hd : 50 ≤ s.depth
  · have hd2 : (50 : Int) < (s.depth : Int) + 1 := by omega
    have ST := stop_live rb 2 w6 c0 (fz 0)
    go_wp2_with fail
    refine ST.mono ?_
    rintro e' w7 ⟨rfl, hw7⟩
    have hDs : DeadS (AndX X (w.heap.size + 1 + 1)) rb (w6.setCell ⟨rb, 0, none⟩ (.int .i64 2)) 2 := (hR6.set (s' := s.enter pp j) (en' := 2) 0 (.int .i64 2) (by decide) (by simp [runL]) rfl).dead (by decide)
    have hbz := (Below.refl _ (w6.setCell ⟨rb, 0, none⟩ (.int .i64 2))).alloc (Nat.le_refl _) (.cells #[.bool false, .int .i64 0, .int .u8 0, .int .i64 0, .string ⟨#[]⟩, .slice none 0 0, .int .i64 0, .slice none 0 0] 114)
    have hD7 := hDs.below hbz
    have K7 := (K6.set 0 (.int .i64 2)).trans (KepS.below (rb := rb) (cv := cv1) (av := av1) hbz)
    have hs67 := hbz.size
    have hco7 : ∀ m, cv1.ownBlock = some m ∨ av1.ownBlock = some m → m < w7.heap.size := fun m hm => by have := (hR6.owns m hm).2; rw [hw7]; simp at hs67 ⊢; omega
    rw [← hw7] at hD7 K7
    clear ST hw7 hbz hDs f2 f4 f5 f7 hs67
    obtain ⟨_, _, f2, _, f4, f5, _, f7, _⟩ := eight_of (hfF _ _ _ K7)
    go_wp2_with fail
    obtain ⟨o2, ho2⟩ : ∃ o, Ou.long = o := ⟨_, rfl⟩
    have H7 := (K2.trans K7).hide (X := X) (b := w.heap.size + 1 + 1) (by omega)
    have sz7 := K7.size
    have lr7 : rb < w7.heap.size := by omega
    have gA : g < w7.heap.size := by omega
    have vA : w.heap.size < w7.heap.size := by omega
    have uA : w.heap.size + 1 < w7.heap.size := by omega
    have gD : g < w7.drew.heap.size := gA
    have vD : w.heap.size < w7.drew.heap.size := vA
    have uD : w.heap.size + 1 < w7.drew.heap.size := uA
    have bf : ∀ w', Below w7.heap.size w7 w' → KepS rb cv av w2 cv1 av1 w' := fun w' hb => K7.trans (KepS.below (rb := rb) (cv := cv1) (av := av1) hb)
    have nw7 : ∀ w', Below w7.heap.size w7 w' → ∀ q, w7.heap.size ≤ q → q < w'.heap.size → (SafeS (AndX X (w.heap.size + 1 + 1)) rb cv1 av1 w' q) := fun w' hb q h1 h2 => ⟨h2, by omega, fun e => by have := hco7 q (.inl e); omega, fun e => by have := hco7 q (.inr e); omega, fun hx => by rcases hx with hx | hx; (have := hR.priv q hx; omega); omega⟩
    have WITH : ∀ W', Below w7.heap.size w7 W' → Calls Tryz.prog 71 #[.slice (some ae) e.ents.length ce, .string ((⟨#[c]⟩ : ByteArray).extract 0 1), v8 bw nw kw mw sw aw2 lw cw2 iw aw3 lw3 cw3] W' fun e' w' => ∃ ay cy, e' = .returned (.slice (some ay) ((.cons c vy e) : En).ents.length cy) ∧ Below W'.heap.size W' w' ∧ SE (fun q => (SafeS (AndX X (w.heap.size + 1 + 1)) rb cv1 av1 W') q ∧ (w7.heap.size ≤ q → False) ∨ W'.heap.size ≤ q ∧ q < w'.heap.size) w' (.cons c vy e) (.slice (some ay) ((.cons c vy e) : En).ents.length cy) := fun W' hb => by
      have kb := KepS.below (rb := rb) (cv := cv1) (av := av1) hb
      rw [show ((⟨#[c]⟩ : ByteArray).extract 0 1) = ⟨#[c]⟩ from rfl]
      refine (swith_c (fun q => (SafeS (AndX X (w.heap.size + 1 + 1)) rb cv1 av1 W') q ∧ (w7.heap.size ≤ q → False)) e c vy _ _ W' (SE.keep (fun q hq => ⟨(kb.safe hq).1, (kb.safe hq).2, by have := hq.1; omega⟩) (he.keep H7)) (SV.keep (fun q hq => ⟨(kb.safe hq).1, (kb.safe hq).2, by have := hq.1; omega⟩) (hy.keep H7)) (fun q hq => hq.1.1) hle).mono ?_
      rintro e' w' ⟨y, rfl, hb2, hse⟩
      obtain ⟨ay, cy, rfl⟩ := hse.form
      exact ⟨ay, cy, rfl, hb2, hse⟩
    have C2A : Calls Tryz.prog 71 #[.slice (some ae) e.ents.length ce, .string ((⟨#[c]⟩ : ByteArray).extract 0 1), v8 bw nw kw mw sw aw2 lw cw2 iw aw3 lw3 cw3] w7.drew fun e' w' => ∃ y, e' = .returned y ∧ (∃ ay cy, y = .slice (some ay) ((.cons c vy e) : En).ents.length cy ∧ Below w7.heap.size w7 w' ∧ SE (SafeS (AndX X (w.heap.size + 1 + 1)) rb cv1 av1 w') w' (.cons c vy e) (.slice (some ay) ((.cons c vy e) : En).ents.length cy)) ∧ w'.cell? ⟨g, 0, none⟩ = some (.int .u8 kk) ∧ w'.cell? ⟨g, 1, none⟩ = some (.int .i64 mm) ∧ w'.cell? ⟨g, 2, none⟩ = some (.string ss) ∧ w'.cell? ⟨g, 3, none⟩ = some (.slice aa ll cc) ∧ w'.cell? ⟨w.heap.size, 4, none⟩ = some (.string ⟨#[c]⟩) ∧ w'.cell? ⟨w.heap.size, 5, none⟩ = some (.slice (some ⟨g, 0, none⟩) 1 cap) ∧ w'.cell? ⟨w.heap.size + 1, 0, none⟩ = some (.bool bw) ∧ w'.cell? ⟨w.heap.size + 1, 1, none⟩ = some (.int .i64 nw) ∧ w'.cell? ⟨w.heap.size + 1, 2, none⟩ = some (.int .u8 kw) ∧ w'.cell? ⟨w.heap.size + 1, 3, none⟩ = some (.int .i64 mw) ∧ w'.cell? ⟨w.heap.size + 1, 4, none⟩ = some (.string sw) ∧ w'.cell? ⟨w.heap.size + 1, 5, none⟩ = some (.slice aw2 lw cw2) ∧ w'.cell? ⟨w.heap.size + 1, 6, none⟩ = some (.int .i64 iw) ∧ w'.cell? ⟨w.heap.size + 1, 7, none⟩ = some (.slice aw3 lw3 cw3) := (WITH _ ((Below.refl _ w7).drew)).mono (by
      rintro e' w' ⟨ay, cy, rfl, hb, hse⟩
      have hb2 : Below w7.heap.size w7 w' := ((Below.refl _ w7).drew).trans hb
      exact ⟨_, rfl, ⟨ay, cy, rfl, hb2, hse.keep (fun q hq => ⟨rfl, hq.elim (fun h => ((KepS.below (rb := rb) (cv := cv1) (av := av1) hb).safe h.1).2) (fun h => nw7 _ hb2 q h.1 h.2)⟩)⟩, six _ _ _ (bf _ hb2)⟩)
    have C2C : Calls Tryz.prog 71 #[.slice (some ae) e.ents.length ce, .string ((⟨#[c]⟩ : ByteArray).extract 0 1), v8 bw nw kw mw sw aw2 lw cw2 iw aw3 lw3 cw3] (w7.alloc (.cells #[.bool false, .int .i64 0, .int .u8 0, .int .i64 0, .string ⟨#[]⟩, .slice none 0 0, .int .i64 0, .slice none 0 0] 114)).drew fun e' w' => ∃ y, e' = .returned y ∧ (∃ ay cy, y = .slice (some ay) ((.cons c vy e) : En).ents.length cy ∧ Below w7.heap.size w7 w' ∧ w7.heap.size < w'.heap.size ∧ w'.heap[w7.heap.size]? = some (.cells #[.bool false, .int .i64 0, .int .u8 0, .int .i64 0, .string ⟨#[]⟩, .slice none 0 0, .int .i64 0, .slice none 0 0] 114 (0, 0)) ∧ SE (SafeS (AndX (AndX X (w.heap.size + 1 + 1)) w7.heap.size) rb cv1 av1 w') w' (.cons c vy e) (.slice (some ay) ((.cons c vy e) : En).ents.length cy)) ∧ w'.cell? ⟨g, 0, none⟩ = some (.int .u8 kk) ∧ w'.cell? ⟨g, 1, none⟩ = some (.int .i64 mm) ∧ w'.cell? ⟨g, 2, none⟩ = some (.string ss) ∧ w'.cell? ⟨g, 3, none⟩ = some (.slice aa ll cc) ∧ w'.cell? ⟨w.heap.size, 4, none⟩ = some (.string ⟨#[c]⟩) ∧ w'.cell? ⟨w.heap.size, 5, none⟩ = some (.slice (some ⟨g, 0, none⟩) 1 cap) ∧ w'.cell? ⟨w.heap.size + 1, 0, none⟩ = some (.bool bw) ∧ w'.cell? ⟨w.heap.size + 1, 1, none⟩ = some (.int .i64 nw) ∧ w'.cell? ⟨w.heap.size + 1, 2, none⟩ = some (.int .u8 kw) ∧ w'.cell? ⟨w.heap.size + 1, 3, none⟩ = some (.int .i64 mw) ∧ w'.cell? ⟨w.heap.size + 1, 4, none⟩ = some (.string sw) ∧ w'.cell? ⟨w.heap.size + 1, 5, none⟩ = some (.slice aw2 lw cw2) ∧ w'.cell? ⟨w.heap.size + 1, 6, none⟩ = some (.int .i64 iw) ∧ w'.cell? ⟨w.heap.size + 1, 7, none⟩ = some (.slice aw3 lw3 cw3) := (WITH _ (((Below.refl _ w7).alloc (Nat.le_refl _) (.cells #[.bool false, .int .i64 0, .int .u8 0, .int .i64 0, .string ⟨#[]⟩, .slice none 0 0, .int .i64 0, .slice none 0 0] 114)).drew)).mono (by
      rintro e' w' ⟨ay, cy, rfl, hb, hse⟩
      have hb1 := ((Below.refl _ w7).alloc (Nat.le_refl _) (.cells #[.bool false, .int .i64 0, .int .u8 0, .int .i64 0, .string ⟨#[]⟩, .slice none 0 0, .int .i64 0, .slice none 0 0] 114)).drew
      have hb2 : Below w7.heap.size w7 w' := hb1.trans (hb.mono hb1.size)
      have hs1 : (w7.alloc (.cells #[.bool false, .int .i64 0, .int .u8 0, .int .i64 0, .string ⟨#[]⟩, .slice none 0 0, .int .i64 0, .slice none 0 0] 114)).drew.heap.size = w7.heap.size + 1 := by simp
      have hsw := hb.size
      exact ⟨_, rfl, ⟨ay, cy, rfl, hb2, by omega, (hb.block w7.heap.size (by omega)).trans (alloc_at w7 _), hse.keep (fun q hq => ⟨rfl, hq.elim (fun h => (let z := ((KepS.below (rb := rb) (cv := cv1) (av := av1) hb).safe h.1).2; ⟨z.1, z.2.1, z.2.2.1, z.2.2.2.1, fun hx => hx.elim z.2.2.2.2 (fun e => h.2 (by omega))⟩)) (fun h => (let z := nw7 _ hb2 q (by omega) h.2; ⟨z.1, z.2.1, z.2.2.1, z.2.2.2.1, fun hx => hx.elim z.2.2.2.2 (fun e => by omega)⟩))⟩)⟩, six _ _ _ (bf _ hb2)⟩)
    obtain ⟨k0, k1, k2, k3, k4, k5, k6, k7, k8, k9, k10, k11, k12, k13⟩ := six _ _ _ (bf _ ((Below.refl _ w7).drew))
    have DG : ∀ (Y : Nat → Prop) w8 y, (∀ q, Y q → q < w8.heap.size) → Below w7.heap.size w7 w8 → SE (SafeS Y rb cv1 av1 w8) w8 (.cons c vy e) y → RepN (SafeS Y rb cv1 av1 w8) w8 b0 (j + 1) (t4 kk mm ss aa ll cc) → Calls Tryz.prog 47 #[ptr rb, t4 kk mm ss aa ll cc, y] w8 fun e' w' => SPost Y rb cv1 av1 w8 o2 e' w' := by
      intro Y w8 y hY hb8 hse hkk
      obtain ⟨ay, cy, rfl⟩ := hse.form
      rw [← ho2]
      have hD8 := hD7.below hb8
      exact dead_eval (X := Y) rb 2 kk mm ss aa ll cc (some ay) _ cy cv1 av1 w8 ⟨hD8.c0, hD8.c1, hD8.c6, hD8.fz, hD8.ne⟩
    have DA : ∀ w8 y, Below w7.heap.size w7 w8 → SE (SafeS (AndX X (w.heap.size + 1 + 1)) rb cv1 av1 w8) w8 (.cons c vy e) y → Calls Tryz.prog 47 #[ptr rb, t4 kk mm ss aa ll cc, y] w8 fun e' w' => (∃ bq nq kq mq sq aq lq cq iq aq2 lq2 cq2, e' = .returned (v8 bq nq kq mq sq aq lq cq iq aq2 lq2 cq2) ∧ SPost (AndX X (w.heap.size + 1 + 1)) rb cv1 av1 w7 o2 (.returned (v8 bq nq kq mq sq aq lq cq iq aq2 lq2 cq2)) w') ∧ w'.cell? ⟨g, 0, none⟩ = some (.int .u8 kk) ∧ w'.cell? ⟨g, 1, none⟩ = some (.int .i64 mm) ∧ w'.cell? ⟨g, 2, none⟩ = some (.string ss) ∧ w'.cell? ⟨g, 3, none⟩ = some (.slice aa ll cc) ∧ w'.cell? ⟨w.heap.size, 4, none⟩ = some (.string ⟨#[c]⟩) ∧ w'.cell? ⟨w.heap.size, 5, none⟩ = some (.slice (some ⟨g, 0, none⟩) 1 cap) ∧ w'.cell? ⟨w.heap.size + 1, 0, none⟩ = some (.bool bw) ∧ w'.cell? ⟨w.heap.size + 1, 1, none⟩ = some (.int .i64 nw) ∧ w'.cell? ⟨w.heap.size + 1, 2, none⟩ = some (.int .u8 kw) ∧ w'.cell? ⟨w.heap.size + 1, 3, none⟩ = some (.int .i64 mw) ∧ w'.cell? ⟨w.heap.size + 1, 4, none⟩ = some (.string sw) ∧ w'.cell? ⟨w.heap.size + 1, 5, none⟩ = some (.slice aw2 lw cw2) ∧ w'.cell? ⟨w.heap.size + 1, 6, none⟩ = some (.int .i64 iw) ∧ w'.cell? ⟨w.heap.size + 1, 7, none⟩ = some (.slice aw3 lw3 cw3) := by
      intro w8 y hb8 hse
      have kb := KepS.below (rb := rb) (cv := cv1) (av := av1) hb8
      refine (DG (AndX X (w.heap.size + 1 + 1)) w8 y (fun q hq => by have := hb8.size; rcases hq with hq | hq; (have := hR.priv q hq; omega); omega) hb8 hse ((hk.keep H7).keep (fun q hq => kb.safe hq))).mono ?_
      intro e' w' h
      obtain ⟨cv9, av9, hk9⟩ : ∃ cv9 av9, KepS rb cv1 av1 w8 cv9 av9 w' := sPost_kep h
      obtain ⟨bq, nq, kq, mq, sq, aq, lq, cq, iq, aq2, lq2, cq2, rfl⟩ := sPost_form h
      exact ⟨⟨bq, nq, kq, mq, sq, aq, lq, cq, iq, aq2, lq2, cq2, rfl, sPost_from kb h⟩, six _ _ _ ((bf _ hb8).trans hk9)⟩
    have DH : ∀ w8 gb y, Below w7.heap.size w7 w8 → w7.heap.size ≤ gb → gb < w8.heap.size → w8.heap[gb]? = some (.cells #[.bool false, .int .i64 0, .int .u8 0, .int .i64 0, .string ⟨#[]⟩, .slice none 0 0, .int .i64 0, .slice none 0 0] 114 (0, 0)) → SE (SafeS (AndX (AndX X (w.heap.size + 1 + 1)) gb) rb cv1 av1 w8) w8 (.cons c vy e) y → Calls Tryz.prog 47 #[ptr rb, t4 kk mm ss aa ll cc, y] w8 fun e' w' => (∃ bq nq kq mq sq aq lq cq iq aq2 lq2 cq2, e' = .returned (v8 bq nq kq mq sq aq lq cq iq aq2 lq2 cq2) ∧ SPost (AndX X (w.heap.size + 1 + 1)) rb cv1 av1 w7 o2 (.returned (v8 bq nq kq mq sq aq lq cq iq aq2 lq2 cq2)) (set8 w' gb (.bool bq) (.int .i64 nq) (.int .u8 kq) (.int .i64 mq) (.string sq) (.slice aq lq cq) (.int .i64 iq) (.slice aq2 lq2 cq2)) ∧ w'.heap[gb]? = some (.cells #[.bool false, .int .i64 0, .int .u8 0, .int .i64 0, .string ⟨#[]⟩, .slice none 0 0, .int .i64 0, .slice none 0 0] 114 (0, 0))) ∧ w'.cell? ⟨g, 0, none⟩ = some (.int .u8 kk) ∧ w'.cell? ⟨g, 1, none⟩ = some (.int .i64 mm) ∧ w'.cell? ⟨g, 2, none⟩ = some (.string ss) ∧ w'.cell? ⟨g, 3, none⟩ = some (.slice aa ll cc) ∧ w'.cell? ⟨w.heap.size, 4, none⟩ = some (.string ⟨#[c]⟩) ∧ w'.cell? ⟨w.heap.size, 5, none⟩ = some (.slice (some ⟨g, 0, none⟩) 1 cap) ∧ w'.cell? ⟨w.heap.size + 1, 0, none⟩ = some (.bool bw) ∧ w'.cell? ⟨w.heap.size + 1, 1, none⟩ = some (.int .i64 nw) ∧ w'.cell? ⟨w.heap.size + 1, 2, none⟩ = some (.int .u8 kw) ∧ w'.cell? ⟨w.heap.size + 1, 3, none⟩ = some (.int .i64 mw) ∧ w'.cell? ⟨w.heap.size + 1, 4, none⟩ = some (.string sw) ∧ w'.cell? ⟨w.heap.size + 1, 5, none⟩ = some (.slice aw2 lw cw2) ∧ w'.cell? ⟨w.heap.size + 1, 6, none⟩ = some (.int .i64 iw) ∧ w'.cell? ⟨w.heap.size + 1, 7, none⟩ = some (.slice aw3 lw3 cw3) := by
      intro w8 gb y hb8 hg1 hg2 hz hse
      have kb := KepS.below (rb := rb) (cv := cv1) (av := av1) hb8
      refine (DG (AndX (AndX X (w.heap.size + 1 + 1)) gb) w8 y (fun q hq => by have := hb8.size; rcases hq with (hq | hq) | hq; (have := hR.priv q hq; omega); omega; omega) hb8 hse ((hk.keep H7).keep (fun q hq => (let z := kb.safe hq; ⟨z.1, z.2.1, z.2.2.1, z.2.2.2.1, z.2.2.2.2.1, fun hx => hx.elim z.2.2.2.2.2 (fun e => by have := hq.1; omega)⟩)))).mono ?_
      intro e' w' h
      obtain ⟨cv9, av9, hk9⟩ : ∃ cv9 av9, KepS rb cv1 av1 w8 cv9 av9 w' := sPost_kep h
      obtain ⟨bq, nq, kq, mq, sq, aq, lq, cq, iq, aq2, lq2, cq2, rfl⟩ := sPost_form h
      exact ⟨⟨bq, nq, kq, mq, sq, aq, lq, cq, iq, aq2, lq2, cq2, rfl, sPost_set8 (by omega) hg2 (fun m hm => by have := hco7 m hm; omega) h hg1 kb, (hk9.safe (nw7 _ hb8 gb hg1 hg2)).1.trans hz⟩, six _ _ _ ((bf _ hb8).trans hk9)⟩
    have DB : ∀ w8 y, Below w7.heap.size w7 w8 → SE (SafeS (AndX X (w.heap.size + 1 + 1)) rb cv1 av1 w8) w8 (.cons c vy e) y → Calls Tryz.prog 47 #[ptr rb, t4 kk mm ss aa ll cc, y] (w8.alloc (.cells #[.bool false, .int .i64 0, .int .u8 0, .int .i64 0, .string ⟨#[]⟩, .slice none 0 0, .int .i64 0, .slice none 0 0] 114)) fun e' w' => (∃ bq nq kq mq sq aq lq cq iq aq2 lq2 cq2, e' = .returned (v8 bq nq kq mq sq aq lq cq iq aq2 lq2 cq2) ∧ SPost (AndX X (w.heap.size + 1 + 1)) rb cv1 av1 w7 o2 (.returned (v8 bq nq kq mq sq aq lq cq iq aq2 lq2 cq2)) (set8 w' w8.heap.size (.bool bq) (.int .i64 nq) (.int .u8 kq) (.int .i64 mq) (.string sq) (.slice aq lq cq) (.int .i64 iq) (.slice aq2 lq2 cq2)) ∧ w'.heap[w8.heap.size]? = some (.cells #[.bool false, .int .i64 0, .int .u8 0, .int .i64 0, .string ⟨#[]⟩, .slice none 0 0, .int .i64 0, .slice none 0 0] 114 (0, 0))) ∧ w'.cell? ⟨g, 0, none⟩ = some (.int .u8 kk) ∧ w'.cell? ⟨g, 1, none⟩ = some (.int .i64 mm) ∧ w'.cell? ⟨g, 2, none⟩ = some (.string ss) ∧ w'.cell? ⟨g, 3, none⟩ = some (.slice aa ll cc) ∧ w'.cell? ⟨w.heap.size, 4, none⟩ = some (.string ⟨#[c]⟩) ∧ w'.cell? ⟨w.heap.size, 5, none⟩ = some (.slice (some ⟨g, 0, none⟩) 1 cap) ∧ w'.cell? ⟨w.heap.size + 1, 0, none⟩ = some (.bool bw) ∧ w'.cell? ⟨w.heap.size + 1, 1, none⟩ = some (.int .i64 nw) ∧ w'.cell? ⟨w.heap.size + 1, 2, none⟩ = some (.int .u8 kw) ∧ w'.cell? ⟨w.heap.size + 1, 3, none⟩ = some (.int .i64 mw) ∧ w'.cell? ⟨w.heap.size + 1, 4, none⟩ = some (.string sw) ∧ w'.cell? ⟨w.heap.size + 1, 5, none⟩ = some (.slice aw2 lw cw2) ∧ w'.cell? ⟨w.heap.size + 1, 6, none⟩ = some (.int .i64 iw) ∧ w'.cell? ⟨w.heap.size + 1, 7, none⟩ = some (.slice aw3 lw3 cw3) := by
      intro w8 y hb8 hse
      have hb1 := (Below.refl _ w8).alloc (Nat.le_refl _) (.cells #[.bool false, .int .i64 0, .int .u8 0, .int .i64 0, .string ⟨#[]⟩, .slice none 0 0, .int .i64 0, .slice none 0 0] 114)
      exact DH _ w8.heap.size y (hb8.trans (hb1.mono hb8.size)) hb8.size (by simp) (alloc_at w8 _) (hse.keep (fun q hq => (let z := (KepS.below (rb := rb) (cv := cv1) (av := av1) hb1).safe hq; ⟨z.1, z.2.1, z.2.2.1, z.2.2.2.1, z.2.2.2.2.1, fun hx => hx.elim z.2.2.2.2.2 (fun e => by have := hq.1; omega)⟩)))
    apply wp_cutV (fun gb ay cy bq nq kq mq sq aq lq cq iq aq2 lq2 cq2 w' => SPost (AndX X (w.heap.size + 1 + 1)) rb cv1 av1 w7 o2 (.returned (v8 bq nq kq mq sq aq lq cq iq aq2 lq2 cq2)) w' ∧ w'.heap[gb]? = some (.cells #[.bool bq, .int .i64 nq, .int .u8 kq, .int .i64 mq, .string sq, .slice aq lq cq, .int .i64 iq, .slice aq2 lq2 cq2] 114 (0, 0)))
    case h =>
      go_region_held3 (fun w' => w'.cell? ⟨g, 0, none⟩ = some (.int .u8 kk) ∧ w'.cell? ⟨g, 1, none⟩ = some (.int .i64 mm) ∧ w'.cell? ⟨g, 2, none⟩ = some (.string ss) ∧ w'.cell? ⟨g, 3, none⟩ = some (.slice aa ll cc) ∧ w'.cell? ⟨w.heap.size, 4, none⟩ = some (.string ⟨#[c]⟩) ∧ w'.cell? ⟨w.heap.size, 5, none⟩ = some (.slice (some ⟨g, 0, none⟩) 1 cap) ∧ w'.cell? ⟨w.heap.size + 1, 0, none⟩ = some (.bool bw) ∧ w'.cell? ⟨w.heap.size + 1, 1, none⟩ = some (.int .i64 nw) ∧ w'.cell? ⟨w.heap.size + 1, 2, none⟩ = some (.int .u8 kw) ∧ w'.cell? ⟨w.heap.size + 1, 3, none⟩ = some (.int .i64 mw) ∧ w'.cell? ⟨w.heap.size + 1, 4, none⟩ = some (.string sw) ∧ w'.cell? ⟨w.heap.size + 1, 5, none⟩ = some (.slice aw2 lw cw2) ∧ w'.cell? ⟨w.heap.size + 1, 6, none⟩ = some (.int .i64 iw) ∧ w'.cell? ⟨w.heap.size + 1, 7, none⟩ = some (.slice aw3 lw3 cw3))
        (first | (refine ⟨?_, ?_, ?_, ?_, ?_, ?_, ?_, ?_, ?_, ?_, ?_, ?_, ?_, ?_⟩ <;> with_reducible assumption) | (refine ⟨?_, ?_, ?_, ?_, ?_, ?_, ?_, ?_, ?_, ?_, ?_, ?_, ?_, ?_⟩ <;> (first | with_reducible refine set8x_far _ _ _ m1 ?_ | with_reducible refine set8x_far _ _ _ m2 ?_ | with_reducible refine set8x_far _ _ _ m3 ?_ | with_reducible refine alloc_far g9 ?_ | with_reducible refine alloc_far h9 ?_ | with_reducible refine alloc_far u9 ?_ | with_reducible refine alloc_far g8 ?_ | with_reducible refine alloc_far h8 ?_ | with_reducible refine alloc_far u8 ?_ | with_reducible refine alloc_far gD ?_ | with_reducible refine alloc_far vD ?_ | with_reducible refine alloc_far uD ?_ | with_reducible refine drew_far gA ?_ | with_reducible refine drew_far vA ?_ | with_reducible refine drew_far uA ?_) <;> with_reducible assumption))
        (first
          | (go_at_call 71; with_reducible refine C2A.mono ?_; rintro e' w8 ⟨_, rfl, ⟨ay, cy, rfl, hb8, hSE⟩, k0, k1, k2, k3, k4, k5, k6, k7, k8, k9, k10, k11, k12, k13⟩; have hs8 := hb8.size; have g8 := Nat.lt_of_lt_of_le gA hs8; have h8 := Nat.lt_of_lt_of_le vA hs8; have u8 := Nat.lt_of_lt_of_le uA hs8)
          | (go_at_call 71; with_reducible refine C2C.mono ?_; rintro e' w8 ⟨_, rfl, ⟨ay, cy, rfl, hb8, hl8, hz8, hSEc⟩, k0, k1, k2, k3, k4, k5, k6, k7, k8, k9, k10, k11, k12, k13⟩; have hs8 := hb8.size; have g8 := Nat.lt_of_lt_of_le gA hs8; have h8 := Nat.lt_of_lt_of_le vA hs8; have u8 := Nat.lt_of_lt_of_le uA hs8)
          | (go_at_call 47; with_reducible refine (DA _ _ hb8 hSE).mono ?_; rintro e' w9 ⟨⟨bq, nq, kq, mq, sq, aq, lq, cq, iq, aq2, lq2, cq2, rfl, hP9⟩, k0, k1, k2, k3, k4, k5, k6, k7, k8, k9, k10, k11, k12, k13⟩; have hs9 := sPost_size hP9; have g9 := Nat.lt_of_lt_of_le gA hs9; have h9 := Nat.lt_of_lt_of_le vA hs9; have u9 := Nat.lt_of_lt_of_le uA hs9; have m1 := Nat.ne_of_lt (Nat.lt_of_lt_of_le gA hs9); have m2 := Nat.ne_of_lt (Nat.lt_of_lt_of_le vA hs9); have m3 := Nat.ne_of_lt (Nat.lt_of_lt_of_le uA hs9))
          | (go_at_call 47; with_reducible refine (DB _ _ hb8 hSE).mono ?_; rintro e' w9 ⟨⟨bq, nq, kq, mq, sq, aq, lq, cq, iq, aq2, lq2, cq2, rfl, hP9, hz9⟩, k0, k1, k2, k3, k4, k5, k6, k7, k8, k9, k10, k11, k12, k13⟩; obtain ⟨t0, t1, t2, t3, t4, t5, t6, t7, tff⟩ := eight_of hz9; have m1 := Nat.ne_of_lt (Nat.lt_of_lt_of_le gA hs8); have m2 := Nat.ne_of_lt (Nat.lt_of_lt_of_le vA hs8); have m3 := Nat.ne_of_lt (Nat.lt_of_lt_of_le uA hs8))
          | (go_at_call 47; with_reducible refine (DH _ _ _ hb8 (Nat.le_refl _) hl8 hz8 hSEc).mono ?_; rintro e' w9 ⟨⟨bq, nq, kq, mq, sq, aq, lq, cq, iq, aq2, lq2, cq2, rfl, hP9, hz9⟩, k0, k1, k2, k3, k4, k5, k6, k7, k8, k9, k10, k11, k12, k13⟩; obtain ⟨t0, t1, t2, t3, t4, t5, t6, t7, tff⟩ := eight_of hz9; have m1 := Nat.ne_of_lt gA; have m2 := Nat.ne_of_lt vA; have m3 := Nat.ne_of_lt uA))
      all_goals first
        | (obtain ⟨gb, hgb⟩ : ∃ gb, w9.heap.size = gb := ⟨_, rfl⟩; rw [hgb]; exact ⟨gb, ay, cy, bq, nq, kq, mq, sq, aq, lq, cq, iq, aq2, lq2, cq2, ⟨sPost_below hP9 ((Below.refl _ _).alloc (Nat.le_refl _) _), hgb ▸ alloc_at w9 _⟩, rfl⟩)
        | (obtain ⟨gb, hgb⟩ : ∃ gb, w8.heap.size = gb := ⟨_, rfl⟩; rw [hgb] at hz9 hP9 ⊢; exact ⟨gb, ay, cy, bq, nq, kq, mq, sq, aq, lq, cq, iq, aq2, lq2, cq2, ⟨hP9, set8_at hz9 _ _ _ _ _ _ _ _⟩, rfl⟩)
        | (obtain ⟨gb, hgb⟩ : ∃ gb, w7.heap.size = gb := ⟨_, rfl⟩; rw [hgb] at hz9 hP9 ⊢; exact ⟨gb, ay, cy, bq, nq, kq, mq, sq, aq, lq, cq, iq, aq2, lq2, cq2, ⟨hP9, set8_at hz9 _ _ _ _ _ _ _ _⟩, rfl⟩)
    rintro gb ay cy bq nq kq mq sq aq lq cq iq aq2 lq2 cq2 w9 ⟨hP9, hgb⟩
    clear C2A C2C DA DB DH DG WITH k0 k1 k2 k3 k4 k5 k6 k7 k8 k9 k10 k11 k12 k13 f2 f4 f5 f7 six ih
    rw [← ho2] at hP9
    obtain ⟨hq, hD9, cv9, av9, hK9⟩ := hP9
    injection hq with hq
    simp only [Value.agg.injEq, Array.mk.injEq, List.cons.injEq, and_true, Value.bool.injEq, Value.int.injEq, Value.string.injEq, Value.slice.injEq, true_and] at hq
    obtain ⟨rfl, rfl, rfl, rfl, rfl, ⟨rfl, rfl, rfl⟩, rfl, rfl, rfl, rfl⟩ := hq
    obtain ⟨n6, h6⟩ := hD9.c6
    have fz := hD9.fz
    have hne : gb ≠ rb := fun e => by
      subst e
      have h0 := hD9.c0
      rw [(eight_of hgb).1] at h0
      cases h0
    have hz10 := (Below.heap_setCell w9 ⟨rb, 6, none⟩ (.int .i64 (wrap64 (n6 - 1))) (w.heap.size + 1 + 1) (by show _ ≠ rb; omega)).trans (hfin _ _ _ (K7.trans hK9))
    have hg10 := (Below.heap_setCell w9 ⟨rb, 6, none⟩ (.int .i64 (wrap64 (n6 - 1))) gb hne).trans hgb
    have hD10 := hD9.set 6 (wrap64 (n6 - 1)) (by decide)
    have K10 := (K7.trans hK9).set 6 (.int .i64 (wrap64 (n6 - 1)))
    obtain ⟨g0, g1, g2, g3, g4, g5, g6, g7, _⟩ := eight_of hg10
    obtain ⟨t0, t1, t2, t3, t4, t5, t6, t7, tff⟩ := eight_of hz10
    go_wp2_with fail
    have h8 := eight_of (set8_at hz10 (.bool false) (.int .i64 0) (.int .u8 0) (.int .i64 0) (.string ⟨#[]⟩) (.slice none 0 0) (.int .i64 0) (.slice none 0 0))
    obtain ⟨r0, r1, r2, r3, r4, r5, r6, r7, _⟩ := h8
    unfold set8 at r0 r1 r2 r3 r4 r5 r6 r7
    refine bodyPost_ret (v := zero8) (by simp [results, Tryz.results72, go_sem, r0, r1, r2, r3, r4, r5, r6, r7]) rfl ?_
    rw [show callV (ev n) pp (.clo j (.fn c b0) e) vy s = .long from if_pos hd]
    exact dead_out (by omega) hrb K2 ⟨rfl, hD10, _, _, K10⟩
  · have hd2 : ¬ (50 : Int) < (s.depth : Int) + 1 := by omega
    go_wp2_with fail
    have K7 := K6
    have hco7 : ∀ m, cv1.ownBlock = some m ∨ av1.ownBlock = some m → m < w6.heap.size := fun m hm => (hR6.owns m hm).2
    have H7 := (K2.trans K7).hide (X := X) (b := w.heap.size + 1 + 1) (by omega)
    have sz7 := K7.size
    have lr7 : rb < w6.heap.size := by omega
    have gA : g < w6.heap.size := by omega
    have vA : w.heap.size < w6.heap.size := by omega
    have uA : w.heap.size + 1 < w6.heap.size := by omega
    have gD : g < w6.drew.heap.size := gA
    have vD : w.heap.size < w6.drew.heap.size := vA
    have uD : w.heap.size + 1 < w6.drew.heap.size := uA
    have bf : ∀ w', Below w6.heap.size w6 w' → KepS rb cv av w2 cv1 av1 w' := fun w' hb => K7.trans (KepS.below (rb := rb) (cv := cv1) (av := av1) hb)
    have nw7 : ∀ w', Below w6.heap.size w6 w' → ∀ q, w6.heap.size ≤ q → q < w'.heap.size → (SafeS (AndX X (w.heap.size + 1 + 1)) rb cv1 av1 w' q) := fun w' hb q h1 h2 => ⟨h2, by omega, fun e => by have := hco7 q (.inl e); omega, fun e => by have := hco7 q (.inr e); omega, fun hx => by rcases hx with hx | hx; (have := hR.priv q hx; omega); omega⟩
    have WITH : ∀ W', Below w6.heap.size w6 W' → Calls Tryz.prog 71 #[.slice (some ae) e.ents.length ce, .string ((⟨#[c]⟩ : ByteArray).extract 0 1), v8 bw nw kw mw sw aw2 lw cw2 iw aw3 lw3 cw3] W' fun e' w' => ∃ ay cy, e' = .returned (.slice (some ay) ((.cons c vy e) : En).ents.length cy) ∧ Below W'.heap.size W' w' ∧ SE (fun q => (SafeS (AndX X (w.heap.size + 1 + 1)) rb cv1 av1 W') q ∧ (w6.heap.size ≤ q → False) ∨ W'.heap.size ≤ q ∧ q < w'.heap.size) w' (.cons c vy e) (.slice (some ay) ((.cons c vy e) : En).ents.length cy) := fun W' hb => by
      have kb := KepS.below (rb := rb) (cv := cv1) (av := av1) hb
      rw [show ((⟨#[c]⟩ : ByteArray).extract 0 1) = ⟨#[c]⟩ from rfl]
      refine (swith_c (fun q => (SafeS (AndX X (w.heap.size + 1 + 1)) rb cv1 av1 W') q ∧ (w6.heap.size ≤ q → False)) e c vy _ _ W' (SE.keep (fun q hq => ⟨(kb.safe hq).1, (kb.safe hq).2, by have := hq.1; omega⟩) (he.keep H7)) (SV.keep (fun q hq => ⟨(kb.safe hq).1, (kb.safe hq).2, by have := hq.1; omega⟩) (hy.keep H7)) (fun q hq => hq.1.1) hle).mono ?_
      rintro e' w' ⟨y, rfl, hb2, hse⟩
      obtain ⟨ay, cy, rfl⟩ := hse.form
      exact ⟨ay, cy, rfl, hb2, hse⟩
    have C2A : Calls Tryz.prog 71 #[.slice (some ae) e.ents.length ce, .string ((⟨#[c]⟩ : ByteArray).extract 0 1), v8 bw nw kw mw sw aw2 lw cw2 iw aw3 lw3 cw3] w6.drew fun e' w' => ∃ y, e' = .returned y ∧ (∃ ay cy, y = .slice (some ay) ((.cons c vy e) : En).ents.length cy ∧ Below w6.heap.size w6 w' ∧ SE (SafeS (AndX X (w.heap.size + 1 + 1)) rb cv1 av1 w') w' (.cons c vy e) (.slice (some ay) ((.cons c vy e) : En).ents.length cy)) ∧ w'.cell? ⟨g, 0, none⟩ = some (.int .u8 kk) ∧ w'.cell? ⟨g, 1, none⟩ = some (.int .i64 mm) ∧ w'.cell? ⟨g, 2, none⟩ = some (.string ss) ∧ w'.cell? ⟨g, 3, none⟩ = some (.slice aa ll cc) ∧ w'.cell? ⟨w.heap.size, 4, none⟩ = some (.string ⟨#[c]⟩) ∧ w'.cell? ⟨w.heap.size, 5, none⟩ = some (.slice (some ⟨g, 0, none⟩) 1 cap) ∧ w'.cell? ⟨w.heap.size + 1, 0, none⟩ = some (.bool bw) ∧ w'.cell? ⟨w.heap.size + 1, 1, none⟩ = some (.int .i64 nw) ∧ w'.cell? ⟨w.heap.size + 1, 2, none⟩ = some (.int .u8 kw) ∧ w'.cell? ⟨w.heap.size + 1, 3, none⟩ = some (.int .i64 mw) ∧ w'.cell? ⟨w.heap.size + 1, 4, none⟩ = some (.string sw) ∧ w'.cell? ⟨w.heap.size + 1, 5, none⟩ = some (.slice aw2 lw cw2) ∧ w'.cell? ⟨w.heap.size + 1, 6, none⟩ = some (.int .i64 iw) ∧ w'.cell? ⟨w.heap.size + 1, 7, none⟩ = some (.slice aw3 lw3 cw3) := (WITH _ ((Below.refl _ w6).drew)).mono (by
      rintro e' w' ⟨ay, cy, rfl, hb, hse⟩
      have hb2 : Below w6.heap.size w6 w' := ((Below.refl _ w6).drew).trans hb
      exact ⟨_, rfl, ⟨ay, cy, rfl, hb2, hse.keep (fun q hq => ⟨rfl, hq.elim (fun h => ((KepS.below (rb := rb) (cv := cv1) (av := av1) hb).safe h.1).2) (fun h => nw7 _ hb2 q h.1 h.2)⟩)⟩, six _ _ _ (bf _ hb2)⟩)
    have C2C : Calls Tryz.prog 71 #[.slice (some ae) e.ents.length ce, .string ((⟨#[c]⟩ : ByteArray).extract 0 1), v8 bw nw kw mw sw aw2 lw cw2 iw aw3 lw3 cw3] (w6.alloc (.cells #[.bool false, .int .i64 0, .int .u8 0, .int .i64 0, .string ⟨#[]⟩, .slice none 0 0, .int .i64 0, .slice none 0 0] 114)).drew fun e' w' => ∃ y, e' = .returned y ∧ (∃ ay cy, y = .slice (some ay) ((.cons c vy e) : En).ents.length cy ∧ Below w6.heap.size w6 w' ∧ w6.heap.size < w'.heap.size ∧ w'.heap[w6.heap.size]? = some (.cells #[.bool false, .int .i64 0, .int .u8 0, .int .i64 0, .string ⟨#[]⟩, .slice none 0 0, .int .i64 0, .slice none 0 0] 114 (0, 0)) ∧ SE (SafeS (AndX (AndX X (w.heap.size + 1 + 1)) w6.heap.size) rb cv1 av1 w') w' (.cons c vy e) (.slice (some ay) ((.cons c vy e) : En).ents.length cy)) ∧ w'.cell? ⟨g, 0, none⟩ = some (.int .u8 kk) ∧ w'.cell? ⟨g, 1, none⟩ = some (.int .i64 mm) ∧ w'.cell? ⟨g, 2, none⟩ = some (.string ss) ∧ w'.cell? ⟨g, 3, none⟩ = some (.slice aa ll cc) ∧ w'.cell? ⟨w.heap.size, 4, none⟩ = some (.string ⟨#[c]⟩) ∧ w'.cell? ⟨w.heap.size, 5, none⟩ = some (.slice (some ⟨g, 0, none⟩) 1 cap) ∧ w'.cell? ⟨w.heap.size + 1, 0, none⟩ = some (.bool bw) ∧ w'.cell? ⟨w.heap.size + 1, 1, none⟩ = some (.int .i64 nw) ∧ w'.cell? ⟨w.heap.size + 1, 2, none⟩ = some (.int .u8 kw) ∧ w'.cell? ⟨w.heap.size + 1, 3, none⟩ = some (.int .i64 mw) ∧ w'.cell? ⟨w.heap.size + 1, 4, none⟩ = some (.string sw) ∧ w'.cell? ⟨w.heap.size + 1, 5, none⟩ = some (.slice aw2 lw cw2) ∧ w'.cell? ⟨w.heap.size + 1, 6, none⟩ = some (.int .i64 iw) ∧ w'.cell? ⟨w.heap.size + 1, 7, none⟩ = some (.slice aw3 lw3 cw3) := (WITH _ (((Below.refl _ w6).alloc (Nat.le_refl _) (.cells #[.bool false, .int .i64 0, .int .u8 0, .int .i64 0, .string ⟨#[]⟩, .slice none 0 0, .int .i64 0, .slice none 0 0] 114)).drew)).mono (by
      rintro e' w' ⟨ay, cy, rfl, hb, hse⟩
      have hb1 := ((Below.refl _ w6).alloc (Nat.le_refl _) (.cells #[.bool false, .int .i64 0, .int .u8 0, .int .i64 0, .string ⟨#[]⟩, .slice none 0 0, .int .i64 0, .slice none 0 0] 114)).drew
      have hb2 : Below w6.heap.size w6 w' := hb1.trans (hb.mono hb1.size)
      have hs1 : (w6.alloc (.cells #[.bool false, .int .i64 0, .int .u8 0, .int .i64 0, .string ⟨#[]⟩, .slice none 0 0, .int .i64 0, .slice none 0 0] 114)).drew.heap.size = w6.heap.size + 1 := by simp
      have hsw := hb.size
      exact ⟨_, rfl, ⟨ay, cy, rfl, hb2, by omega, (hb.block w6.heap.size (by omega)).trans (alloc_at w6 _), hse.keep (fun q hq => ⟨rfl, hq.elim (fun h => (let z := ((KepS.below (rb := rb) (cv := cv1) (av := av1) hb).safe h.1).2; ⟨z.1, z.2.1, z.2.2.1, z.2.2.2.1, fun hx => hx.elim z.2.2.2.2 (fun e => h.2 (by omega))⟩)) (fun h => (let z := nw7 _ hb2 q (by omega) h.2; ⟨z.1, z.2.1, z.2.2.1, z.2.2.2.1, fun hx => hx.elim z.2.2.2.2 (fun e => by omega)⟩))⟩)⟩, six _ _ _ (bf _ hb2)⟩)
    obtain ⟨k0, k1, k2, k3, k4, k5, k6, k7, k8, k9, k10, k11, k12, k13⟩ := six _ _ _ (bf _ ((Below.refl _ w6).drew))
    have hBe : StB (s.enter pp j) := ⟨h1, by simp only [St.enter]; omega, h3, h4, by simp only [St.enter]; omega, by simp only [St.enter]; omega, by have := hB.called; simp [St.enter]; omega, by have := hB.froms; simp [St.enter]; omega, hB.encl⟩
    obtain ⟨o2, ho2⟩ : ∃ o, ev n b0 (j + 1) (.cons c vy e) (s.enter pp j) = o := ⟨_, rfl⟩
    have HE : Hid (callV (ev n) pp (.clo j (.fn c b0) e) vy s = o2.next fun z s => .ok z s.leave) := Lib.hid (by show (if 50 ≤ s.depth then Ou.long else _) = _; rw [if_neg hd, ← ho2]; rfl)
    have DG : ∀ (Y : Nat → Prop) w8 y, (∀ q, Y q → q < w8.heap.size) → Below w6.heap.size w6 w8 → SE (SafeS Y rb cv1 av1 w8) w8 (.cons c vy e) y → RepN (SafeS Y rb cv1 av1 w8) w8 b0 (j + 1) (t4 kk mm ss aa ll cc) → Calls Tryz.prog 47 #[ptr rb, t4 kk mm ss aa ll cc, y] w8 fun e' w' => SPost Y rb cv1 av1 w8 o2 e' w' := by
      intro Y w8 y hY hb8 hse hkk
      have hR8 := hR6.below hb8
      have C3 := ih Y b0 (j + 1) (.cons c vy e) (s.enter pp j) rb cv1 av1 _ y w8 (by simpa [St.enter] using hn) hBe hok ⟨hR8.cs, hR8.made, hR8.fz, hR8.row, hR8.rowA, hR8.sep, hY⟩ hkk hse
      rw [ho2] at C3
      exact C3
    have DA : ∀ w8 y, Below w6.heap.size w6 w8 → SE (SafeS (AndX X (w.heap.size + 1 + 1)) rb cv1 av1 w8) w8 (.cons c vy e) y → Calls Tryz.prog 47 #[ptr rb, t4 kk mm ss aa ll cc, y] w8 fun e' w' => (∃ bq nq kq mq sq aq lq cq iq aq2 lq2 cq2, e' = .returned (v8 bq nq kq mq sq aq lq cq iq aq2 lq2 cq2) ∧ SPost (AndX X (w.heap.size + 1 + 1)) rb cv1 av1 w6 o2 (.returned (v8 bq nq kq mq sq aq lq cq iq aq2 lq2 cq2)) w') ∧ w'.cell? ⟨g, 0, none⟩ = some (.int .u8 kk) ∧ w'.cell? ⟨g, 1, none⟩ = some (.int .i64 mm) ∧ w'.cell? ⟨g, 2, none⟩ = some (.string ss) ∧ w'.cell? ⟨g, 3, none⟩ = some (.slice aa ll cc) ∧ w'.cell? ⟨w.heap.size, 4, none⟩ = some (.string ⟨#[c]⟩) ∧ w'.cell? ⟨w.heap.size, 5, none⟩ = some (.slice (some ⟨g, 0, none⟩) 1 cap) ∧ w'.cell? ⟨w.heap.size + 1, 0, none⟩ = some (.bool bw) ∧ w'.cell? ⟨w.heap.size + 1, 1, none⟩ = some (.int .i64 nw) ∧ w'.cell? ⟨w.heap.size + 1, 2, none⟩ = some (.int .u8 kw) ∧ w'.cell? ⟨w.heap.size + 1, 3, none⟩ = some (.int .i64 mw) ∧ w'.cell? ⟨w.heap.size + 1, 4, none⟩ = some (.string sw) ∧ w'.cell? ⟨w.heap.size + 1, 5, none⟩ = some (.slice aw2 lw cw2) ∧ w'.cell? ⟨w.heap.size + 1, 6, none⟩ = some (.int .i64 iw) ∧ w'.cell? ⟨w.heap.size + 1, 7, none⟩ = some (.slice aw3 lw3 cw3) := by
      intro w8 y hb8 hse
      have kb := KepS.below (rb := rb) (cv := cv1) (av := av1) hb8
      refine (DG (AndX X (w.heap.size + 1 + 1)) w8 y (fun q hq => by have := hb8.size; rcases hq with hq | hq; (have := hR.priv q hq; omega); omega) hb8 hse ((hk.keep H7).keep (fun q hq => kb.safe hq))).mono ?_
      intro e' w' h
      obtain ⟨cv9, av9, hk9⟩ : ∃ cv9 av9, KepS rb cv1 av1 w8 cv9 av9 w' := sPost_kep h
      obtain ⟨bq, nq, kq, mq, sq, aq, lq, cq, iq, aq2, lq2, cq2, rfl⟩ := sPost_form h
      exact ⟨⟨bq, nq, kq, mq, sq, aq, lq, cq, iq, aq2, lq2, cq2, rfl, sPost_from kb h⟩, six _ _ _ ((bf _ hb8).trans hk9)⟩
    have DH : ∀ w8 gb y, Below w6.heap.size w6 w8 → w6.heap.size ≤ gb → gb < w8.heap.size → w8.heap[gb]? = some (.cells #[.bool false, .int .i64 0, .int .u8 0, .int .i64 0, .string ⟨#[]⟩, .slice none 0 0, .int .i64 0, .slice none 0 0] 114 (0, 0)) → SE (SafeS (AndX (AndX X (w.heap.size + 1 + 1)) gb) rb cv1 av1 w8) w8 (.cons c vy e) y → Calls Tryz.prog 47 #[ptr rb, t4 kk mm ss aa ll cc, y] w8 fun e' w' => (∃ bq nq kq mq sq aq lq cq iq aq2 lq2 cq2, e' = .returned (v8 bq nq kq mq sq aq lq cq iq aq2 lq2 cq2) ∧ SPost (AndX X (w.heap.size + 1 + 1)) rb cv1 av1 w6 o2 (.returned (v8 bq nq kq mq sq aq lq cq iq aq2 lq2 cq2)) (set8 w' gb (.bool bq) (.int .i64 nq) (.int .u8 kq) (.int .i64 mq) (.string sq) (.slice aq lq cq) (.int .i64 iq) (.slice aq2 lq2 cq2)) ∧ w'.heap[gb]? = some (.cells #[.bool false, .int .i64 0, .int .u8 0, .int .i64 0, .string ⟨#[]⟩, .slice none 0 0, .int .i64 0, .slice none 0 0] 114 (0, 0))) ∧ w'.cell? ⟨g, 0, none⟩ = some (.int .u8 kk) ∧ w'.cell? ⟨g, 1, none⟩ = some (.int .i64 mm) ∧ w'.cell? ⟨g, 2, none⟩ = some (.string ss) ∧ w'.cell? ⟨g, 3, none⟩ = some (.slice aa ll cc) ∧ w'.cell? ⟨w.heap.size, 4, none⟩ = some (.string ⟨#[c]⟩) ∧ w'.cell? ⟨w.heap.size, 5, none⟩ = some (.slice (some ⟨g, 0, none⟩) 1 cap) ∧ w'.cell? ⟨w.heap.size + 1, 0, none⟩ = some (.bool bw) ∧ w'.cell? ⟨w.heap.size + 1, 1, none⟩ = some (.int .i64 nw) ∧ w'.cell? ⟨w.heap.size + 1, 2, none⟩ = some (.int .u8 kw) ∧ w'.cell? ⟨w.heap.size + 1, 3, none⟩ = some (.int .i64 mw) ∧ w'.cell? ⟨w.heap.size + 1, 4, none⟩ = some (.string sw) ∧ w'.cell? ⟨w.heap.size + 1, 5, none⟩ = some (.slice aw2 lw cw2) ∧ w'.cell? ⟨w.heap.size + 1, 6, none⟩ = some (.int .i64 iw) ∧ w'.cell? ⟨w.heap.size + 1, 7, none⟩ = some (.slice aw3 lw3 cw3) := by
      intro w8 gb y hb8 hg1 hg2 hz hse
      have kb := KepS.below (rb := rb) (cv := cv1) (av := av1) hb8
      refine (DG (AndX (AndX X (w.heap.size + 1 + 1)) gb) w8 y (fun q hq => by have := hb8.size; rcases hq with (hq | hq) | hq; (have := hR.priv q hq; omega); omega; omega) hb8 hse ((hk.keep H7).keep (fun q hq => (let z := kb.safe hq; ⟨z.1, z.2.1, z.2.2.1, z.2.2.2.1, z.2.2.2.2.1, fun hx => hx.elim z.2.2.2.2.2 (fun e => by have := hq.1; omega)⟩)))).mono ?_
      intro e' w' h
      obtain ⟨cv9, av9, hk9⟩ : ∃ cv9 av9, KepS rb cv1 av1 w8 cv9 av9 w' := sPost_kep h
      obtain ⟨bq, nq, kq, mq, sq, aq, lq, cq, iq, aq2, lq2, cq2, rfl⟩ := sPost_form h
      exact ⟨⟨bq, nq, kq, mq, sq, aq, lq, cq, iq, aq2, lq2, cq2, rfl, sPost_set8 (by omega) hg2 (fun m hm => by have := hco7 m hm; omega) h hg1 kb, (hk9.safe (nw7 _ hb8 gb hg1 hg2)).1.trans hz⟩, six _ _ _ ((bf _ hb8).trans hk9)⟩
    have DB : ∀ w8 y, Below w6.heap.size w6 w8 → SE (SafeS (AndX X (w.heap.size + 1 + 1)) rb cv1 av1 w8) w8 (.cons c vy e) y → Calls Tryz.prog 47 #[ptr rb, t4 kk mm ss aa ll cc, y] (w8.alloc (.cells #[.bool false, .int .i64 0, .int .u8 0, .int .i64 0, .string ⟨#[]⟩, .slice none 0 0, .int .i64 0, .slice none 0 0] 114)) fun e' w' => (∃ bq nq kq mq sq aq lq cq iq aq2 lq2 cq2, e' = .returned (v8 bq nq kq mq sq aq lq cq iq aq2 lq2 cq2) ∧ SPost (AndX X (w.heap.size + 1 + 1)) rb cv1 av1 w6 o2 (.returned (v8 bq nq kq mq sq aq lq cq iq aq2 lq2 cq2)) (set8 w' w8.heap.size (.bool bq) (.int .i64 nq) (.int .u8 kq) (.int .i64 mq) (.string sq) (.slice aq lq cq) (.int .i64 iq) (.slice aq2 lq2 cq2)) ∧ w'.heap[w8.heap.size]? = some (.cells #[.bool false, .int .i64 0, .int .u8 0, .int .i64 0, .string ⟨#[]⟩, .slice none 0 0, .int .i64 0, .slice none 0 0] 114 (0, 0))) ∧ w'.cell? ⟨g, 0, none⟩ = some (.int .u8 kk) ∧ w'.cell? ⟨g, 1, none⟩ = some (.int .i64 mm) ∧ w'.cell? ⟨g, 2, none⟩ = some (.string ss) ∧ w'.cell? ⟨g, 3, none⟩ = some (.slice aa ll cc) ∧ w'.cell? ⟨w.heap.size, 4, none⟩ = some (.string ⟨#[c]⟩) ∧ w'.cell? ⟨w.heap.size, 5, none⟩ = some (.slice (some ⟨g, 0, none⟩) 1 cap) ∧ w'.cell? ⟨w.heap.size + 1, 0, none⟩ = some (.bool bw) ∧ w'.cell? ⟨w.heap.size + 1, 1, none⟩ = some (.int .i64 nw) ∧ w'.cell? ⟨w.heap.size + 1, 2, none⟩ = some (.int .u8 kw) ∧ w'.cell? ⟨w.heap.size + 1, 3, none⟩ = some (.int .i64 mw) ∧ w'.cell? ⟨w.heap.size + 1, 4, none⟩ = some (.string sw) ∧ w'.cell? ⟨w.heap.size + 1, 5, none⟩ = some (.slice aw2 lw cw2) ∧ w'.cell? ⟨w.heap.size + 1, 6, none⟩ = some (.int .i64 iw) ∧ w'.cell? ⟨w.heap.size + 1, 7, none⟩ = some (.slice aw3 lw3 cw3) := by
      intro w8 y hb8 hse
      have hb1 := (Below.refl _ w8).alloc (Nat.le_refl _) (.cells #[.bool false, .int .i64 0, .int .u8 0, .int .i64 0, .string ⟨#[]⟩, .slice none 0 0, .int .i64 0, .slice none 0 0] 114)
      exact DH _ w8.heap.size y (hb8.trans (hb1.mono hb8.size)) hb8.size (by simp) (alloc_at w8 _) (hse.keep (fun q hq => (let z := (KepS.below (rb := rb) (cv := cv1) (av := av1) hb1).safe hq; ⟨z.1, z.2.1, z.2.2.1, z.2.2.2.1, z.2.2.2.2.1, fun hx => hx.elim z.2.2.2.2.2 (fun e => by have := hq.1; omega)⟩)))
    apply wp_cutV (fun gb ay cy bq nq kq mq sq aq lq cq iq aq2 lq2 cq2 w' => SPost (AndX X (w.heap.size + 1 + 1)) rb cv1 av1 w6 o2 (.returned (v8 bq nq kq mq sq aq lq cq iq aq2 lq2 cq2)) w' ∧ w'.heap[gb]? = some (.cells #[.bool bq, .int .i64 nq, .int .u8 kq, .int .i64 mq, .string sq, .slice aq lq cq, .int .i64 iq, .slice aq2 lq2 cq2] 114 (0, 0)))
    case h =>
      go_region_held3 (fun w' => w'.cell? ⟨g, 0, none⟩ = some (.int .u8 kk) ∧ w'.cell? ⟨g, 1, none⟩ = some (.int .i64 mm) ∧ w'.cell? ⟨g, 2, none⟩ = some (.string ss) ∧ w'.cell? ⟨g, 3, none⟩ = some (.slice aa ll cc) ∧ w'.cell? ⟨w.heap.size, 4, none⟩ = some (.string ⟨#[c]⟩) ∧ w'.cell? ⟨w.heap.size, 5, none⟩ = some (.slice (some ⟨g, 0, none⟩) 1 cap) ∧ w'.cell? ⟨w.heap.size + 1, 0, none⟩ = some (.bool bw) ∧ w'.cell? ⟨w.heap.size + 1, 1, none⟩ = some (.int .i64 nw) ∧ w'.cell? ⟨w.heap.size + 1, 2, none⟩ = some (.int .u8 kw) ∧ w'.cell? ⟨w.heap.size + 1, 3, none⟩ = some (.int .i64 mw) ∧ w'.cell? ⟨w.heap.size + 1, 4, none⟩ = some (.string sw) ∧ w'.cell? ⟨w.heap.size + 1, 5, none⟩ = some (.slice aw2 lw cw2) ∧ w'.cell? ⟨w.heap.size + 1, 6, none⟩ = some (.int .i64 iw) ∧ w'.cell? ⟨w.heap.size + 1, 7, none⟩ = some (.slice aw3 lw3 cw3))
        (first | (refine ⟨?_, ?_, ?_, ?_, ?_, ?_, ?_, ?_, ?_, ?_, ?_, ?_, ?_, ?_⟩ <;> with_reducible assumption) | (refine ⟨?_, ?_, ?_, ?_, ?_, ?_, ?_, ?_, ?_, ?_, ?_, ?_, ?_, ?_⟩ <;> (first | with_reducible refine set8x_far _ _ _ m1 ?_ | with_reducible refine set8x_far _ _ _ m2 ?_ | with_reducible refine set8x_far _ _ _ m3 ?_ | with_reducible refine alloc_far g9 ?_ | with_reducible refine alloc_far h9 ?_ | with_reducible refine alloc_far u9 ?_ | with_reducible refine alloc_far g8 ?_ | with_reducible refine alloc_far h8 ?_ | with_reducible refine alloc_far u8 ?_ | with_reducible refine alloc_far gD ?_ | with_reducible refine alloc_far vD ?_ | with_reducible refine alloc_far uD ?_ | with_reducible refine drew_far gA ?_ | with_reducible refine drew_far vA ?_ | with_reducible refine drew_far uA ?_) <;> with_reducible assumption))
        (first
          | (go_at_call 71; with_reducible refine C2A.mono ?_; rintro e' w8 ⟨_, rfl, ⟨ay, cy, rfl, hb8, hSE⟩, k0, k1, k2, k3, k4, k5, k6, k7, k8, k9, k10, k11, k12, k13⟩; have hs8 := hb8.size; have g8 := Nat.lt_of_lt_of_le gA hs8; have h8 := Nat.lt_of_lt_of_le vA hs8; have u8 := Nat.lt_of_lt_of_le uA hs8)
          | (go_at_call 71; with_reducible refine C2C.mono ?_; rintro e' w8 ⟨_, rfl, ⟨ay, cy, rfl, hb8, hl8, hz8, hSEc⟩, k0, k1, k2, k3, k4, k5, k6, k7, k8, k9, k10, k11, k12, k13⟩; have hs8 := hb8.size; have g8 := Nat.lt_of_lt_of_le gA hs8; have h8 := Nat.lt_of_lt_of_le vA hs8; have u8 := Nat.lt_of_lt_of_le uA hs8)
          | (go_at_call 47; with_reducible refine (DA _ _ hb8 hSE).mono ?_; rintro e' w9 ⟨⟨bq, nq, kq, mq, sq, aq, lq, cq, iq, aq2, lq2, cq2, rfl, hP9⟩, k0, k1, k2, k3, k4, k5, k6, k7, k8, k9, k10, k11, k12, k13⟩; have hs9 := sPost_size hP9; have g9 := Nat.lt_of_lt_of_le gA hs9; have h9 := Nat.lt_of_lt_of_le vA hs9; have u9 := Nat.lt_of_lt_of_le uA hs9; have m1 := Nat.ne_of_lt (Nat.lt_of_lt_of_le gA hs9); have m2 := Nat.ne_of_lt (Nat.lt_of_lt_of_le vA hs9); have m3 := Nat.ne_of_lt (Nat.lt_of_lt_of_le uA hs9))
          | (go_at_call 47; with_reducible refine (DB _ _ hb8 hSE).mono ?_; rintro e' w9 ⟨⟨bq, nq, kq, mq, sq, aq, lq, cq, iq, aq2, lq2, cq2, rfl, hP9, hz9⟩, k0, k1, k2, k3, k4, k5, k6, k7, k8, k9, k10, k11, k12, k13⟩; obtain ⟨t0, t1, t2, t3, t4, t5, t6, t7, tff⟩ := eight_of hz9; have m1 := Nat.ne_of_lt (Nat.lt_of_lt_of_le gA hs8); have m2 := Nat.ne_of_lt (Nat.lt_of_lt_of_le vA hs8); have m3 := Nat.ne_of_lt (Nat.lt_of_lt_of_le uA hs8))
          | (go_at_call 47; with_reducible refine (DH _ _ _ hb8 (Nat.le_refl _) hl8 hz8 hSEc).mono ?_; rintro e' w9 ⟨⟨bq, nq, kq, mq, sq, aq, lq, cq, iq, aq2, lq2, cq2, rfl, hP9, hz9⟩, k0, k1, k2, k3, k4, k5, k6, k7, k8, k9, k10, k11, k12, k13⟩; obtain ⟨t0, t1, t2, t3, t4, t5, t6, t7, tff⟩ := eight_of hz9; have m1 := Nat.ne_of_lt gA; have m2 := Nat.ne_of_lt vA; have m3 := Nat.ne_of_lt uA))
      all_goals first
        | (obtain ⟨gb, hgb⟩ : ∃ gb, w9.heap.size = gb := ⟨_, rfl⟩; rw [hgb]; exact ⟨gb, ay, cy, bq, nq, kq, mq, sq, aq, lq, cq, iq, aq2, lq2, cq2, ⟨sPost_below hP9 ((Below.refl _ _).alloc (Nat.le_refl _) _), hgb ▸ alloc_at w9 _⟩, rfl⟩)
        | (obtain ⟨gb, hgb⟩ : ∃ gb, w8.heap.size = gb := ⟨_, rfl⟩; rw [hgb] at hz9 hP9 ⊢; exact ⟨gb, ay, cy, bq, nq, kq, mq, sq, aq, lq, cq, iq, aq2, lq2, cq2, ⟨hP9, set8_at hz9 _ _ _ _ _ _ _ _⟩, rfl⟩)
        | (obtain ⟨gb, hgb⟩ : ∃ gb, w6.heap.size = gb := ⟨_, rfl⟩; rw [hgb] at hz9 hP9 ⊢; exact ⟨gb, ay, cy, bq, nq, kq, mq, sq, aq, lq, cq, iq, aq2, lq2, cq2, ⟨hP9, set8_at hz9 _ _ _ _ _ _ _ _⟩, rfl⟩)
    rintro gb ay cy bq nq kq mq sq aq lq cq iq aq2 lq2 cq2 w9 ⟨hP9, hgb⟩
    clear C2A C2C DA DB DH DG WITH k0 k1 k2 k3 k4 k5 k6 k7 k8 k9 k10 k11 k12 k13 f2 f4 f5 f7 six ih
    have hw2 := ev_ok n b0 (j + 1) (.cons c vy e) (s.enter pp j) hok
    rw [ho2] at hw2
    rcases Ou.cases o2 with ⟨v3, s3, rfl⟩ | hbad
    · obtain ⟨x9, cv9, av9, hq, hv9, hR9, hK9⟩ := hP9
      injection hq with hq
      subst hq
      have hdep : s3.depth = s.depth + 1 := hw2.2.depth
      have h6 : w9.cell? ⟨rb, 6, none⟩ = some (.int .i64 ((s.depth : Int) + 1)) := by
        have h := hR9.at.2.2.2.2.2.2.1
        rw [hdep] at h
        exact h
      have HD := Lib.hid hdep
      have fz := hR9.fz
      have hs9 := hK9.size
      have hne : gb ≠ rb := fun e => by
        subst e
        have h0 := hR9.at.1
        rw [(eight_of hgb).1] at h0
        cases h0
      have hz10 := (Below.heap_setCell w9 ⟨rb, 6, none⟩ (.int .i64 (s.depth : Int)) (w.heap.size + 1 + 1) (by show _ ≠ rb; omega)).trans (hfin _ _ _ (K7.trans hK9))
      have hg10 := (Below.heap_setCell w9 ⟨rb, 6, none⟩ (.int .i64 (s.depth : Int)) gb hne).trans hgb
      have hR10 : RunS (AndX X (w.heap.size + 1 + 1)) rb cv9 av9 (w9.setCell ⟨rb, 6, none⟩ (.int .i64 (s.depth : Int))) s3.leave 0 := hR9.set 6 _ (by decide) (by simp [runL, St.leave, hdep]) rfl
      have K10 := (K7.trans hK9).set 6 (.int .i64 (s.depth : Int))
      have hv10 := hv9.keep (fun q hq => ((KepS.refl rb cv9 av9 w9).set 6 (.int .i64 (s.depth : Int))).safe hq)
      clear hdep hv9 hR9 hw2
      obtain ⟨g0, g1, g2, g3, g4, g5, g6, g7, _⟩ := eight_of hg10
      obtain ⟨t0, t1, t2, t3, t4, t5, t6, t7, tff⟩ := eight_of hz10
      go_wp2_with fail
      have h8 := eight_of (set8_at hz10 (.bool bq) (.int .i64 nq) (.int .u8 kq) (.int .i64 mq) (.string sq) (.slice aq lq cq) (.int .i64 iq) (.slice aq2 lq2 cq2))
      obtain ⟨r0, r1, r2, r3, r4, r5, r6, r7, _⟩ := h8
      unfold set8 at r0 r1 r2 r3 r4 r5 r6 r7
      refine bodyPost_ret (v := v8 bq nq kq mq sq aq lq cq iq aq2 lq2 cq2) (by simp [results, Tryz.results72, go_sem, r0, r1, r2, r3, r4, r5, r6, r7]) rfl ?_
      rw [HE.out]
      exact sv_out hR (by omega) (by simp; omega) hv10 hR10 (K2.trans K10) (hown _ _ _ K10)
    · obtain ⟨hq, hD9, cv9, av9, hK9⟩ := (sPost_bad hbad _ _ _ _ _ _).1 hP9
      injection hq with hq
      simp only [Value.agg.injEq, Array.mk.injEq, List.cons.injEq, and_true, Value.bool.injEq, Value.int.injEq, Value.string.injEq, Value.slice.injEq, true_and] at hq
      obtain ⟨rfl, rfl, rfl, rfl, rfl, ⟨rfl, rfl, rfl⟩, rfl, rfl, rfl, rfl⟩ := hq
      obtain ⟨n6, h6⟩ := hD9.c6
      have fz := hD9.fz
      have hne : gb ≠ rb := fun e => by
        subst e
        have h0 := hD9.c0
        rw [(eight_of hgb).1] at h0
        cases h0
      have hz10 := (Below.heap_setCell w9 ⟨rb, 6, none⟩ (.int .i64 (wrap64 (n6 - 1))) (w.heap.size + 1 + 1) (by show _ ≠ rb; omega)).trans (hfin _ _ _ (K7.trans hK9))
      have hg10 := (Below.heap_setCell w9 ⟨rb, 6, none⟩ (.int .i64 (wrap64 (n6 - 1))) gb hne).trans hgb
      have hD10 := hD9.set 6 (wrap64 (n6 - 1)) (by decide)
      have K10 := (K7.trans hK9).set 6 (.int .i64 (wrap64 (n6 - 1)))
      obtain ⟨g0, g1, g2, g3, g4, g5, g6, g7, _⟩ := eight_of hg10
      obtain ⟨t0, t1, t2, t3, t4, t5, t6, t7, tff⟩ := eight_of hz10
      go_wp2_with fail
      have h8 := eight_of (set8_at hz10 (.bool false) (.int .i64 0) (.int .u8 0) (.int .i64 0) (.string ⟨#[]⟩) (.slice none 0 0) (.int .i64 0) (.slice none 0 0))
      obtain ⟨r0, r1, r2, r3, r4, r5, r6, r7, _⟩ := h8
      unfold set8 at r0 r1 r2 r3 r4 r5 r6 r7
      refine bodyPost_ret (v := zero8) (by simp [results, Tryz.results72, go_sem, r0, r1, r2, r3, r4, r5, r6, r7]) rfl ?_
      rw [HE.out, show (o2.next fun z s => .ok z s.leave) = o2 by cases o2; exact hbad.elim; rfl; rfl]
      exact (sPost_bad hbad _ _ _ _ _ _).2 (dead_out (by omega) hrb K2 ⟨rfl, hD10, _, _, K10⟩)
end Go.Proofs.YtjfhncfbejephaaGreatDoor
