import Derived.Test.YtefmmgccdpfnaaaGreatDoorMSh
import Derived.Test.YtefmmgccdpfnaaaGreatDoorMSk
/- The program's StateAfter. -/
namespace Go.Proofs.YtefmmgccdpfnaaaGreatDoor
open Go.RowKit Go.Shelf
open Ff
set_option linter.unusedVariables false
attribute [local go_sem] Oper.semAt_some
attribute [local irreducible] goT runN

/-- The state after so many steps, if there is one. -/
def saT (t : Tm) (k : Int) : Option Tm := if 0 ≤ k ∧ k ≤ 300 ∧ (goT t k.toNat).2 = k.toNat then some (goT t k.toNat).1 else none
def saO (s : Text) (k : Int) : Option Tm := (closedS s).bind fun t => saT t k
def saV : Option Tm → Value
  | some T => .tuple #[.string ⟨(textN T).toArray⟩, .bool true]
  | none => .tuple #[.string ⟨#[]⟩, .bool false]
theorem runL_mem {t : Tm} {h : StateOk t} {x : RunX} (hx : x ∈ runL t h) : ∃ i, i ≤ 300 ∧ (goT t i).2 = i ∧ x = stX t h i := by
  obtain ⟨i, hi⟩ := List.getElem?_of_mem hx
  have hlt := (List.getElem?_eq_some_iff.1 hi).1
  rw [runN_at 300 t h hlt] at hi
  have hl : i < (runN 300 t h).length := hlt
  rw [runN_len] at hl
  have := goT_le t 300
  exact ⟨i, by omega, goT_same 300 t (by omega), (Option.some.inj hi).symm⟩
theorem sa_some {t : Tm} {h : StateOk t} {x : RunX} {k : Int} (hx : x ∈ runL t h) (hk : ((x.1.1 : Nat) : Int) = k) : saT t k = some x.1.2 := by
  obtain ⟨i, h1, h2, rfl⟩ := runL_mem hx
  have e : (stX t h i).1.1 = i := rfl
  rw [e] at hk
  subst hk
  unfold saT
  rw [if_pos ⟨by omega, by omega, by simpa using h2⟩]
  rfl
theorem sa_none {t : Tm} {h : StateOk t} {k : Int} (hn : ∀ x ∈ runL t h, ¬ ((x.1.1 : Nat) : Int) = k) : saT t k = none := by
  unfold saT
  rw [if_neg]
  rintro ⟨h1, h2, h3⟩
  have hr := goT_reach t h3 (300 - k.toNat)
  rw [show k.toNat + (300 - k.toNat) = 300 by omega] at hr
  have hl : k.toNat < (runL t h).length := by show k.toNat < (runN 300 t h).length; rw [runN_len]; omega
  refine hn _ (List.mem_of_getElem? (runN_at 300 t h hl)) ?_
  show ((k.toNat : Nat) : Int) = k
  omega
/-- A method called through the interface, within a round. -/
theorem wpListIn_invokeR {n l : Nat} {P : Program} {ops : Array Oper} {rest : List Oper} {o : Oper} {a : Act} {Q : Exit → Act → World → Prop} {w : World} (hgd : o.guard = none) (r : Operand) (m : String) (t : TypeId) (v : Value)
    (ho : o.op = .call { callee := .invoke r m, args := #[], argTypes := #[] }) (hr : a.eval r = .iface t v) (f : FuncId) (hm : (method (P.types.size + 100) t v m).run P w = .ok (f, v) w)
    (hf : (callFunc f #[v]).run P w = .ok (.enter f #[v]) w) (S : Value → World → Prop) (hC : Calls P f #[v] w fun e w' => ∃ x, e = .returned x ∧ S x w')
    (h : ∀ x w', S x w' → wpListIn (Fence.wide.inRound l) n P ops Q rest (a.put o.dst x) w') : wpListIn (Fence.wide.inRound l) n P ops Q (o :: rest) a w := by
  refine wpListIn_plain hgd fun K hK => ?_
  have hrun : (execOp a.eval o).run P w = .ok (.enter f #[v]) w := by
    unfold execOp
    simp only [ho, resolve, invoke, callMethod, Sem.run_bind, Sem.run_pure, Result.andThen_ok, List.map_toArray, List.map_nil, hr]
    simp [hm, hf, Sem.run_bind, go_sem]
  unfold Oper.wpIn
  refine ⟨fun _ _ => trivial, ?_⟩
  have hs : o.semAt (Fence.wide.inRound l).round a.eval = execOp a.eval o := by
    show o.semAt (some l) a.eval = _
    rw [Oper.semAt_some]
    simp [ho]
  rw [hs, hrun, Oper.uponIn_enter]
  refine ⟨fun h => (by cases h), ?_⟩
  refine CallsIn.inRound l (callsIn_wide.2 (hC.mono ?_))
  rintro e w' ⟨x, rfl, hS⟩
  exact hK _ _ (h x w' hS)
theorem three_boxes {w w1 : World} {u v x : Value} {p q r : TypeId} (h : Below (((w.alloc (.cells #[u] p)).alloc (.cells #[v] q)).alloc (.cells #[x] r)).heap.size (((w.alloc (.cells #[u] p)).alloc (.cells #[v] q)).alloc (.cells #[x] r)) w1) : Boxed w1 w.heap.size p u ∧ Boxed w1 (w.heap.size + 1) q v ∧ Boxed w1 (w.heap.size + 1 + 1) r x ∧ Below w.heap.size w w1 := by
  have h1 := ((Boxed.new w p u).alloc (.cells #[v] q)).alloc (.cells #[x] r)
  have h2 := (Boxed.new (w.alloc (.cells #[u] p)) q v).alloc (.cells #[x] r)
  have h3 := Boxed.new ((w.alloc (.cells #[u] p)).alloc (.cells #[v] q)) r x
  rw [World.size_alloc] at h2 h3
  rw [World.size_alloc] at h3
  exact ⟨(h.block _ h1.lt).trans h1, (h.block _ h2.lt).trans h2, (h.block _ h3.lt).trans h3, (below_three w _ _ _).trans (h.mono (by simp; omega))⟩
/-- The boxes of 'StateAfter'. -/
structure SaW (w : World) (k : Int) (u v : Value) (W : World) : Prop where
  b0 : Boxed W w.heap.size 3 (.int .i64 k)
  b1 : Boxed W (w.heap.size + 1) 9 u
  b2 : Boxed W (w.heap.size + 1 + 1) 4 v
  below : Below w.heap.size w W
theorem SaW.grown {w W W' : World} {k : Int} {u v : Value} {row : Option Nat} (h : SaW w k u v W) (hg : W.grownBy W' row) (hr : ∀ j, row = some j → w.heap.size + 3 ≤ j) : SaW w k u v W' :=
  ⟨h.b0.kept hg (fun e => by have := hr _ e.symm; omega), h.b1.kept hg (fun e => by have := hr _ e.symm; omega), h.b2.kept hg (fun e => by have := hr _ e.symm; omega), h.below.grown hg h.below.size (fun j hj => by have := hr j hj; omega)⟩
theorem SaW.keep {w W W' : World} {k : Int} {u v : Value} (h : SaW w k u v W) (hb : Below W.heap.size W W') : SaW w k u v W' := h.grown (grown_none hb) (fun j e => by cases e)
theorem SaW.set {w W : World} {k : Int} {u v : Value} (h : SaW w k u v W) (u' v' : Value) : SaW w k u' v' ((W.setCell ⟨w.heap.size + 1, 0, none⟩ u').setCell ⟨w.heap.size + 1 + 1, 0, none⟩ v') :=
  ⟨(h.b0.other (B' := w.heap.size + 1) (by omega) u').other (B' := w.heap.size + 1 + 1) (by omega) v', (h.b1.set u').other (B' := w.heap.size + 1 + 1) (by omega) v', (h.b2.other (B' := w.heap.size + 1) (by omega) u').set v', (h.below.setCell (p := ⟨w.heap.size + 1, 0, none⟩) (by show w.heap.size ≤ w.heap.size + 1; omega) _).setCell (p := ⟨w.heap.size + 1 + 1, 0, none⟩) (by show w.heap.size ≤ w.heap.size + 1 + 1; omega) _⟩
theorem SaW.from {w W : World} {B : Nat} (hB : w.heap.size + 3 ≤ B) (u' v' : Value) : KeepsFrom B W ((W.setCell ⟨w.heap.size + 1, 0, none⟩ u').setCell ⟨w.heap.size + 1 + 1, 0, none⟩ v') :=
  (KeepsFrom.of_grownBy (B := B) (grownBy_setCell' W (w.heap.size + 1) u') (fun j e => by cases e; omega)).trans (KeepsFrom.of_grownBy (B := B) (grownBy_setCell' _ (w.heap.size + 1 + 1) v') (fun j e => by cases e; omega))
/-- The state that was asked for has come. -/
def SaIx (w : World) (k : Int) (xs : List RunX) (W : World) : Prop := ∃ (pre : List RunX) (x : RunX), xs = pre ++ [x] ∧ ((x.1.1 : Nat) : Int) = k ∧ SaW w k (.string ⟨(textN x.1.2).toArray⟩) (.bool true) W
theorem keepsFrom_below {W W' : World} {B : Nat} (hb : Below W.heap.size W W') : KeepsFrom B W W' := KeepsFrom.of_grownBy (grown_none hb) (fun j e => by cases e)
theorem KeepT_refl {T : Nat → Prop} (W : World) : KeepT (fun _ j => T j) W W := keepT_grow (Below.refl _ W)
set_option maxRecDepth 100000 in
set_option maxHeartbeats 4000000 in
theorem iStateAfter_c (s : Text) (k : Int) (w : World) (hl : s.length ≤ 9223372036854775807) :
    Calls Tryz.prog 18 #[.string ⟨s.toArray⟩, .int .i64 k] w fun e w' => e = .returned (saV (saO s k)) ∧ Below w.heap.size w w' := by
  have C := fun W => iclosed_c s W hl
  refine (callsIn_wide (n := 9)).1 ?_
  refine callsIn_of_wp_marks Tryz.func18 rfl trivial ?_ rfl
  simp only [Tryz.ntmps18, List.size_toArray, List.length_cons, List.length_nil, Nat.reduceAdd, Nat.reduceSub, Array.replicate_succ, Array.replicate_zero, List.push_toArray, List.append_toArray, List.nil_append, List.cons_append]
  unfold saO
  rcases hs : closedS s with _ | t
  · simp only [hs, icl] at C
    simp only [Option.bind_none, saV]
    clear hs
    gi_wp2_with (refine ⟨trivial, ?_⟩; gi_at_call 46; refine (callsIn_wide.2 (C _)).mono ?_; clear C; rintro e w1 ⟨rfl, hb1⟩; obtain ⟨b0, b1, b2, hB⟩ := three_boxes hb1; (have A1 : SaW w k _ _ w1 := ⟨b0, b1, b2, hB⟩); (have c1 := b1.cell); (have c2 := b2.cell); (have f1 := b1.frozen); (have f2 := b2.frozen); clear b0 b1 b2 hB hb1)
    have A2 := A1.set (.string ⟨#[]⟩) (.bool false)
    have k1 := A2.b1.cell
    have k2 := A2.b2.cell
    exact ⟨.tuple #[.string ⟨#[]⟩, .bool false], by simp [results, Tryz.results18, go_sem, k1, k2], rfl, A2.below⟩
  · simp only [hs, icl] at C
    simp only [Option.bind_some]
    have h := closed_state hs
    clear hs
    have P := fun W => statesFrom_c 8 t W
    obtain ⟨t0, t1, ht⟩ := enc_gen t
    simp only [ht] at C P
    gi_wp2_with (first | (refine ⟨trivial, ?_⟩; gi_at_call 46; refine (callsIn_wide.2 (C _)).mono ?_; clear C; rintro e w1 ⟨rfl, hb1⟩; obtain ⟨b0, b1, b2, hB⟩ := three_boxes hb1; (have A1 : SaW w k _ _ w1 := ⟨b0, b1, b2, hB⟩); clear b0 b1 b2 hB hb1) | (refine ⟨trivial, ?_⟩; gi_at_call 47; refine (P _).mono ?_; clear P; rintro e w2 ⟨rfl, rfl⟩))
    have hb1s : w.heap.size + 3 ≤ w1.heap.size := A1.b2.lt
    have A2 := A1.keep ((Below.refl _ w1).alloc (Nat.le_refl _) (.cells #[.iface t0 t1] 44))
    have BT := (Boxed.new w1 44 (.iface t0 t1)).cell
    have hsz : (w1.alloc (.cells #[.iface t0 t1] 44)).heap.size = w1.heap.size + 1 := by simp
    generalize w1.alloc (.cells #[.iface t0 t1] 44) = W0 at *
    rw [← ht] at BT
    clear A1
    refine range_owns rfl (by decide) (gf := 76) (lb := #[.pointer (some ⟨w1.heap.size, 0, none⟩)]) rfl trivial (enters_of Tryz.func76 (by kernel_rfl) rfl)
      (states_owns 8 t h (fun _ => False) w1.heap.size W0 (by omega) (fun j hj => hj.elim) BT) (fun _ => rfl)
      (fun pre W => SaW w k (.string ⟨#[]⟩) (.bool false) W ∧ ∀ x ∈ pre, ¬ ((x.1.1 : Nat) : Int) = k) (SaIx w k)
      (fun pre W W' row hs hg hr => ⟨hs.1.grown hg (fun j hj => by have := hr j hj; omega), hs.2⟩) (fun xs W W' row hs hg hr => by obtain ⟨pre, x, e1, e2, e3⟩ := hs; exact ⟨pre, x, e1, e2, e3.grown hg (fun j hj => by have := hr j hj; omega)⟩) ⟨A2, fun x hx => by cases hx⟩
      (fun x W a1 W1 => a1 = { tmps := #[.string ⟨s.toArray⟩, .int .i64 k, undef, .pointer (some ⟨w.heap.size, 0, none⟩), .pointer (some ⟨w.heap.size + 1, 0, none⟩), .pointer (some ⟨w.heap.size + 1 + 1, 0, none⟩), .iface t0 t1, .bool true, .int .i64 ((x.1.1 : Nat) : Int), .pointer (some ⟨W.heap.size, 0, none⟩), .tuple #[.iface t0 t1, .bool true], .string ⟨s.toArray⟩, .tuple #[.iface t0 t1, .bool true], .iface t0 t1, .bool true, .bool true, .bool false, .iface t0 t1, .func (.func 76) #[] #[.pointer (some ⟨w1.heap.size, 0, none⟩)], .int .i64 ((x.1.1 : Nat) : Int), .agg #[enc x.1.2], undef, undef, undef, undef, undef, undef], defers := [] } ∧ W1 = W.alloc (.cells #[enc x.1.2] 46))
      (fun x W a1 W1 h => by rw [h.2]; exact (Below.refl _ W).alloc (Nat.le_refl _) _) ?assign ?body ?done ?stop
    case assign =>
      intro x W K hK
      have ez : (#[19, 20] : Array Tmp).zip (encX x) = #[(19, .int .i64 ((x.1.1 : Nat) : Int)), (20, .agg #[enc x.1.2])] := by simp [encX]
      rw [ez]
      obtain ⟨s0, s1, hx⟩ := enc_gen x.1.2
      rw [hx] at hK ⊢
      gi_wp2
    case body =>
      rintro pre x W a1 W1 W2 _ hpre hW ⟨rfl, rfl⟩ hg ⟨I2, hne⟩
      have hbx := (Boxed.new W 46 (enc x.1.2)).kept hg (fun e => by injection e with e; omega)
      have hz := I2.below.size
      have c0 := I2.b0.cell
      have c1 := I2.b1.cell
      have c2 := I2.b2.cell
      have f1 := I2.b1.frozen
      have f2 := I2.b2.frozen
      have c3 := hbx.cell
      by_cases hk : ((x.1.1 : Nat) : Int) = k
      · have KT := text_c x.1.2.depth x.1.2 (Nat.le_refl _) x.2.good (by have := x.2.many; omega)
        rw [enc_ty x.1.2] at c3 ⊢
        have HK := Lib.hid hk
        subst hk
        gi_wp2_with (refine wpListIn_invokeR rfl _ _ (ty x.1.2) (pl x.1.2) rfl rfl (tf x.1.2) (text_m x.1.2 _ (by unfold TextName; kernel_rfl) _) (text_f x.1.2 _) (fun rv w' => rv = .string ⟨(textN x.1.2).toArray⟩ ∧ Below W2.heap.size W2 w') ((KT _).mono fun e w' ⟨h1, h2⟩ => ⟨_, h1, rfl, h2⟩) ?_; rintro rv w9 ⟨rfl, hb9⟩; (have I9 := I2.keep hb9); (have d1 := I9.b1.cell); (have d2 := I9.b2.cell); (have g1 := I9.b1.frozen); (have g2 := I9.b2.frozen))
        have hf := SaW.from (w := w) (W := w9) (B := w1.heap.size + 1) (by omega) (.string ⟨(textN x.1.2).toArray⟩) (.bool true)
        refine ⟨KeepsFrom.trans (keepsFrom_below hb9) hf, pre, x, rfl, rfl, I9.set _ _⟩
      · gi_wp2
        exact ⟨KeepsFrom.refl _ _, KeepT_refl _, I2, fun y hy => by rcases List.mem_append.1 hy with h | h; exact hne y h; rw [List.mem_singleton.1 h]; exact hk⟩
    case done =>
      rintro W hW ⟨I2, hne⟩ hK
      have hn : saT t k = none := sa_none (h := h) hne
      have HN := Lib.hid hn
      clear hn hne
      have c1 := I2.b1.cell
      have c2 := I2.b2.cell
      have f1 := I2.b1.frozen
      have f2 := I2.b2.frozen
      gi_wp2
      have A3 := I2.set (.string ⟨#[]⟩) (.bool false)
      have xK : ((W.setCell ⟨w.heap.size + 1, 0, none⟩ (.string ⟨#[]⟩)).setCell ⟨w.heap.size + 1 + 1, 0, none⟩ (.bool false)).heap[W0.heap.size]? = some (.deferred (some [])) := by
        rw [Below.heap_setCell _ _ _ _ (by show W0.heap.size ≠ w.heap.size + 1 + 1; omega), Below.heap_setCell _ _ _ _ (by show W0.heap.size ≠ w.heap.size + 1; omega)]
        exact hK
      generalize ((W.setCell ⟨w.heap.size + 1, 0, none⟩ (.string ⟨#[]⟩)).setCell ⟨w.heap.size + 1 + 1, 0, none⟩ (.bool false)) = X at *
      refine ⟨by simp, .inl ⟨_, _, rfl, run_takeDeferred xK, ?_⟩⟩
      have A4 := A3.grown (grownBy_putObj' X (W0.heap.size) (.deferred none)) (fun j e => by injection e with e; omega)
      have y1 := A4.b1.cell
      have y2 := A4.b2.cell
      exact ⟨.tuple #[.string ⟨#[]⟩, .bool false], by simp [results, Tryz.results18, go_sem, y1, y2], by rw [HN.out]; rfl, A4.below⟩
    case stop =>
      rintro xs W hW hpre ⟨pre, x, rfl, hk, I2⟩ hK
      have hm : x ∈ runL t h := hpre.subset (by simp)
      have hn : saT t k = some x.1.2 := sa_some hm hk
      have HN := Lib.hid hn
      clear hn hm hk hpre
      gi_wp2
      refine ⟨by simp, .inl ⟨_, _, rfl, run_takeDeferred hK, ?_⟩⟩
      have A4 := I2.grown (grownBy_putObj' W (W0.heap.size) (.deferred none)) (fun j e => by injection e with e; omega)
      have y1 := A4.b1.cell
      have y2 := A4.b2.cell
      exact ⟨.tuple #[.string ⟨(textN x.1.2).toArray⟩, .bool true], by simp [results, Tryz.results18, go_sem, y1, y2], by rw [HN.out]; rfl, A4.below⟩
end Go.Proofs.YtefmmgccdpfnaaaGreatDoor

/- The specification's StateAfter; the law. -/
namespace Go.Proofs.YtefmmgccdpfnaaaGreatDoor
open Go.RowKit
open Ff
set_option linter.unusedVariables false
attribute [local irreducible] goT runN Calls

set_option maxRecDepth 100000 in
set_option maxHeartbeats 4000000 in
theorem sStateAfter_c (s : Text) (k : Int) (w : World) (hl : s.length ≤ 9223372036854775807) :
    Calls Tryz.prog 19 #[.string ⟨s.toArray⟩, .int .i64 k] w fun e w' => e = .returned (saV (saO s k)) ∧ Below w.heap.size w w' := by
  have C := fun W => sclosed_c s W hl
  have KI := fun W => l1In_c k 0 300 W
  unfold saO
  unfold ClosedPost at C
  rcases hs : closedS s with _ | t
  · rw [hs] at C
    simp only [Option.bind_none, saV]
    clear hs
    go_enter Tryz.func19, Tryz.ntmps19
    go_wp2_with (go_at_call 48; refine (C _).mono ?_; clear C; rintro e w1 ⟨hb1, v, ⟨x0, x1, x2, x3, x4, x5, rfl⟩, rfl, _⟩)
    go_ret2
    exact ⟨rfl, hb1.alloc hb1.size _⟩
  · rw [hs] at C
    simp only [Option.bind_some]
    have h := closed_state hs
    clear hs
    by_cases hk : 0 ≤ k ∧ k ≤ 300
    · obtain ⟨n, rfl⟩ : ∃ n : Nat, k = (n : Int) := ⟨k.toNat, by omega⟩
      have hn : n ≤ 300 := by omega
      have hdec : (decide ((0 : Int) ≤ (n : Int)) && decide ((n : Int) ≤ 300)) = true := by simp; omega
      have hle := goT_le t n
      have hok := goT_ok h n
      have hsa : saT t (n : Int) = if (goT t n).2 = n then some (goT t n).1 else none := by
        unfold saT
        simp only [Int.toNat_natCast]
        by_cases hq : (goT t n).2 = n
        · rw [if_pos ⟨by omega, by omega, hq⟩, if_pos hq]
        · rw [if_neg (fun e => hq e.2.2), if_neg hq]
      rw [hsa]
      simp only [hdec] at KI
      have KG := fun w1 x0 x1 x2 x3 x4 x5 hr W hW => going (w := w) (w1 := w1) h x0 x1 x2 x3 x4 x5 hr n hn W hW
      have KT := fun (z0 z1 : Int) z2 z3 z4 z5 (W : World) (hr : Rep (fun g => g < W.heap.size) W (goT t n).1 (.agg #[.int .u8 z0, .int .i64 z1, .string z2, .slice z3 z4 z5])) => stext_c 4000 (goT t n).1 W.heap.size _ W (by have := hok.deep; omega) (Nat.le_refl _) (by have := hok.many; omega) hr (Nat.le_refl _) hok.good
      clear hsa hdec hok h hk
      generalize (goT t n).1 = T at *
      generalize (goT t n).2 = N at *
      by_cases hq : N = n
      · subst hq
        simp only [if_true, saV]
        go_enter Tryz.func19, Tryz.ntmps19
        go_wp2_with (first
          | (go_at_call 48; refine (C _).mono ?_; clear C; rintro e w1 ⟨hb1, v, ⟨x0, x1, x2, x3, x4, x5, rfl⟩, rfl, hr1⟩; (have t1 : Below w1.heap.size w1 (w1.alloc (tmO x0 x1 x2 x3 x4 x5)) := (Below.refl _ _).alloc (Nat.le_refl _) _); (have K1 := KG w1 x0 x1 x2 x3 x4 x5 (hr1 t rfl) _ t1); clear KG hr1)
          | (go_at_call 49; refine (KI _).mono ?_; clear KI; rintro e w9 ⟨rfl, rfl⟩)
          | (go_at_call 50; refine K1.mono ?_; clear K1; rintro e w2 ⟨z0, z1, z2, z3, z4, z5, rfl, hb2, hr2⟩; (have K2 := KT z0 z1 z2 z3 z4 z5 _ (low_alloc hr2 (tmO z0 z1 z2 z3 z4 z5))); clear KT)
          | (go_at_call 37; refine K2.mono ?_; clear K2; rintro e w3 ⟨rfl, hb3⟩))
        go_ret2
        have q2 := (hb1.trans ((t1.trans (hb2.mono t1.size)).mono hb1.size)).alloc (by have := hb1.size; have := t1.size; have := hb2.size; omega) (tmO z0 z1 z2 z3 z4 z5)
        exact ⟨rfl, q2.trans (hb3.mono q2.size)⟩
      · have hlt : (N : Int) < (n : Int) := by omega
        rw [if_neg hq]
        simp only [saV]
        clear KT hq
        go_enter Tryz.func19, Tryz.ntmps19
        go_wp2_with (first
          | (go_at_call 48; refine (C _).mono ?_; clear C; rintro e w1 ⟨hb1, v, ⟨x0, x1, x2, x3, x4, x5, rfl⟩, rfl, hr1⟩; (have t1 : Below w1.heap.size w1 (w1.alloc (tmO x0 x1 x2 x3 x4 x5)) := (Below.refl _ _).alloc (Nat.le_refl _) _); (have K1 := KG w1 x0 x1 x2 x3 x4 x5 (hr1 t rfl) _ t1); clear KG hr1)
          | (go_at_call 49; refine (KI _).mono ?_; clear KI; rintro e w9 ⟨rfl, rfl⟩)
          | (go_at_call 50; refine K1.mono ?_; clear K1; rintro e w2 ⟨z0, z1, z2, z3, z4, z5, rfl, hb2, hr2⟩))
        go_ret2
        exact ⟨rfl, (hb1.trans ((t1.trans (hb2.mono t1.size)).mono hb1.size)).alloc (by have := hb1.size; have := t1.size; have := hb2.size; omega) _⟩
    · have hsa : saT t k = none := by
        unfold saT
        rw [if_neg (fun e => hk ⟨e.1, e.2.1⟩)]
      have hdec : (decide ((0 : Int) ≤ k) && decide (k ≤ 300)) = false := by
        rw [Bool.and_eq_false_iff, decide_eq_false_iff_not, decide_eq_false_iff_not]
        omega
      rw [hsa]
      simp only [hdec] at KI
      simp only [saV]
      clear hsa hdec hk
      go_enter Tryz.func19, Tryz.ntmps19
      go_wp2_with (first
        | (go_at_call 48; refine (C _).mono ?_; clear C; rintro e w1 ⟨hb1, v, ⟨x0, x1, x2, x3, x4, x5, rfl⟩, rfl, hr1⟩)
        | (go_at_call 49; refine (KI _).mono ?_; clear KI; rintro e w9 ⟨rfl, rfl⟩))
      go_ret2
      exact ⟨rfl, hb1.alloc hb1.size _⟩
end Go.Proofs.YtefmmgccdpfnaaaGreatDoor
