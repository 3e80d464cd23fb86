import Derived.Test.YtefmmgccdpfnaaaGreatDoorMPy
import Derived.Test.YtefmmgccdpfnaaaGreatDoorRo
import Derived.Test.YtefmmgccdpfnaaaGreatDoorCl
import Derived.Test.YtefmmgccdpfnaaaGreatDoorMCt
/- The program's states of a run: statesFrom. -/
namespace Go.Proofs.YtefmmgccdpfnaaaGreatDoor
open Go.RowKit Go.Shelf
open Ff
set_option linter.unusedVariables false
attribute [local go_sem] Oper.semAt_some
attribute [local irreducible] goT runN

abbrev encX (x : RunX) : Array Value := #[.int .i64 ((x.1.1 : Nat) : Int), .agg #[enc x.1.2]]
set_option maxRecDepth 100000 in
set_option maxHeartbeats 1000000 in
theorem states_owns (n : Nat) (t : Tm) (h : StateOk t) (T : Nat → Prop) (Bt : Nat) (w : World) (hBt : Bt < w.heap.size) (hT : ∀ j, T j → j < w.heap.size) (hc : w.cell? ⟨Bt, 0, none⟩ = some (enc t)) :
    SeqOwns Fence.wide n Tryz.prog 76 #[.pointer (some ⟨Bt, 0, none⟩)] encX T (runL t h) w := by
  intro l J Jx W hW hJ hJx hY h0
  have hc2 := (hW.cell (p := ⟨Bt, 0, none⟩) hBt).trans hc
  have hY2 : ∀ (i : Nat) (wr : World), J ((runL t h).take i) wr → i < (runL t h).length → YieldAt Fence.wide (n - 1) Tryz.prog l #[.int .i64 (i : Int), .agg #[enc (goT t i).1]] wr fun e W' =>
      (e = .returned (.bool true) ∧ J ((runL t h).take (i + 1)) W' ∧ KeepT (fun _ j => T j) wr W') ∨ (e = .returned (.bool false) ∧ ∃ pre, pre <+: runL t h ∧ Jx pre W') := fun i wr hj hi =>
    (hY ((runL t h).take i) (stX t h i) wr hj (runN_pre 300 t h hi)).mono (fun e W' hr => by
      rcases hr with ⟨h1, h2, h3⟩ | ⟨h1, h2⟩
      · rw [runN_take 300 t h hi] at h2
        exact .inl ⟨h1, h2, h3⟩
      · exact .inr ⟨h1, _, runN_pre 300 t h hi, h2⟩)
  have hlen : (runL t h).length = (goT t 300).2 + 1 := runN_len 300 t h
  have hj0 : J ((runL t h).take 0) W := h0
  have KS : ∀ i W', Calls Tryz.prog 34 #[.agg #[enc (goT t i).1]] W' fun e w' => e = .returned (stepV (stepT (goT t i).1)) ∧ Below W'.heap.size W' w' := fun i W' => by
    have hk := goT_ok h i
    exact iStep_c _ W' hk.good hk.deep hk.many hk.closed
  have HT : ∀ j, T j → j < W.heap.size := fun j hj => by have := hT j hj; have := hW.size; omega
  obtain ⟨t0, t1, ht⟩ := enc_gen t
  have ht0 : enc (goT t 0).1 = .iface t0 t1 := by rw [goT_zero']; exact ht
  rw [ht] at hc2
  clear hY h0 hc hW hT ht
  have HLEN := Lib.hid hlen
  clear hlen
  generalize hL : runL t h = L at *
  clear hL
  show CallsIn Fence.wide n Tryz.prog 76 #[.func (.yield l) #[] #[], .pointer (some ⟨Bt, 0, none⟩)] W _
  refine callsIn_of_wp Tryz.func76 rfl trivial ?_ rfl
  simp only [Tryz.ntmps76, List.size_toArray, List.length_cons, List.length_nil, Nat.reduceAdd, Nat.reduceSub, Array.replicate_succ, Array.replicate_zero, List.push_toArray, List.append_toArray, List.nil_append, List.cons_append]
  gi_wp2
  have hbx := Boxed.new W 46 (.iface t0 t1)
  have hg0 : W.grownBy (W.alloc (.cells #[.iface t0 t1] 46)) none := World.grownBy_alloc _ _ none
  have hj1 := hJ _ _ _ none hj0 hg0 (fun r e => by cases e)
  clear hj0 hg0
  gi_loopw [4, 5] (fun ok ix wr => ∃ (i : Nat) (c : Bool) (bv : Value), ix = .int .i64 i ∧ ok = .bool c ∧ i ≤ 301 ∧ J (L.take i) wr ∧ Boxed wr W.heap.size 46 bv ∧ (c = true → (goT t i).2 = i ∧ bv = enc (goT t i).1) ∧ (c = false → i = L.length)) (fun _ ix _ => 301 - (intOf ix).toNat)
  case atStart => exact ⟨0, true, _, rfl, rfl, by omega, hj1, hbx, fun _ => ⟨goT_zero t, ht0.symm⟩, fun e => by cases e⟩
  case round =>
    obtain ⟨i, c, bv, rfl, rfl, hi, hj, hB, hct, hcf⟩ := hrel
    cases c with
    | false =>
      have hil := hcf rfl
      rw [hil, List.take_length] at hj
      clear hct hcf KS hY2 hil HLEN
      gi_wp2
      refine ⟨fun _ e => (by cases e), ?_⟩
      gi_wp2
      go_end0
      exact ⟨⟨_, rfl⟩, .inl hj⟩
    | true =>
      obtain ⟨hgi, rfl⟩ := hct rfl
      clear hct hcf
      by_cases hle : i ≤ 300
      · have hlt : i < L.length := by
          have := HLEN.out
          have h2 := goT_reach t hgi (300 - i)
          rw [Nat.add_sub_cancel' hle] at h2
          omega
        have Y := hY2 i wr hj hlt
        have K := KS i
        obtain ⟨s0, s1, hs⟩ := enc_gen (goT t i).1
        rw [hs] at Y hB
        simp only [hs] at K
        have HST := Lib.hid (show ∀ r, stepT (goT t i).1 = some r → goT t (i + 1) = (r.1, i + 1) from fun r hr => goT_step hgi hr)
        have HEN := Lib.hid (show stepT (goT t i).1 = none → i + 1 = L.length from fun hr => by
          have h2 := goT_stop hgi hr (300 - i)
          rw [Nat.add_sub_cancel' hle] at h2
          have := HLEN.out
          rw [h2] at this
          exact this.symm)
        clear hs KS hY2 HLEN hgi
        obtain ⟨fn, tmps, assign, body, hy, hR⟩ := Y
        have hcl := hB.cell
        gi_wp2
        refine ⟨fun h => (by cases h), ?_⟩
        refine hR.mono ?_
        clear hR hy
        rintro e W3 (⟨rfl, hJ3, hk3⟩ | ⟨rfl, pre, hpre, hJx3⟩)
        · have hB3 : Boxed W3 W.heap.size 46 (.iface s0 s1) := hk3.2.1 _ _ hB rfl (fun htb => by have := HT _ htb; omega)
          have hcl3 := hB3.cell
          clear hcl hk3
          rcases ho : stepT (goT t i).1 with _ | r
          · rw [ho] at K
            simp only [stepV] at K
            have HE := Lib.hid (HEN.out ho)
            clear ho HEN HST
            gi_wp2_with (refine ⟨trivial, fun h => (by cases h), ?_⟩; gi_at_call 34; refine (callsIn_wide.2 (K _)).mono ?_; clear K; rintro e w4 ⟨rfl, hb4⟩; (have hB4 : Boxed w4 W.heap.size 46 (.iface s0 s1) := (hb4.block _ hB3.lt).trans hB3); (have hcl4 := hB4.cell); (have hfr4 := hB4.frozen); (have hj4 := hJ.grow hJ3 hb4); clear hcl3)
            exact ⟨⟨i + 1, false, _, by go_num, rfl, by omega, hJ.set _ hj4 (Nat.le_refl _), hB4.set _, (fun e => by cases e), fun _ => HE.out⟩, by simp [intOf]; omega⟩
          · rw [ho] at K
            obtain ⟨r0, r1, hr⟩ := enc_gen r.1
            simp only [stepV, hr] at K
            have HE := Lib.hid (HST.out r ho)
            have HR := Lib.hid hr
            clear ho HEN HST hr
            gi_wp2_with (refine ⟨trivial, fun h => (by cases h), ?_⟩; gi_at_call 34; refine (callsIn_wide.2 (K _)).mono ?_; clear K; rintro e w4 ⟨rfl, hb4⟩; (have hB4 : Boxed w4 W.heap.size 46 (.iface s0 s1) := (hb4.block _ hB3.lt).trans hB3); (have hcl4 := hB4.cell); (have hfr4 := hB4.frozen); (have hj4 := hJ.grow hJ3 hb4); clear hcl3)
            exact ⟨⟨i + 1, true, _, by go_num, rfl, by omega, hJ.set _ hj4 (Nat.le_refl _), hB4.set _, (fun _ => by rw [HE.out]; exact ⟨rfl, HR.out.symm⟩), fun e => by cases e⟩, by simp [intOf]; omega⟩
        · gi_wp2
          go_end0
          exact ⟨⟨_, rfl⟩, .inr ⟨pre, hpre, hJx3⟩⟩
      · obtain rfl : i = 301 := by omega
        have hil : 301 = L.length := by
          have := HLEN.out
          have h2 := goT_back (k := 300) hgi
          omega
        rw [hil, List.take_length] at hj
        clear KS hY2 hil HLEN
        gi_wp2
        refine ⟨fun _ e => (by cases e), ?_⟩
        gi_wp2
        go_end0
        exact ⟨⟨_, rfl⟩, .inl hj⟩
set_option maxHeartbeats 1000000 in
theorem statesFrom_c (n : Nat) (t : Tm) (w : World) :
    CallsIn Fence.wide n Tryz.prog 47 #[enc t] w fun e w' => e = .returned (.func (.func 76) #[] #[.pointer (some ⟨w.heap.size, 0, none⟩)]) ∧ w' = w.alloc (.cells #[enc t] 44) := by
  rw [enc_ty t]
  refine callsIn_of_wp Tryz.func47 rfl trivial ?_ rfl
  simp only [Tryz.ntmps47, List.size_toArray, List.length_cons, List.length_nil, Nat.reduceAdd, Nat.reduceSub, Array.replicate_succ, Array.replicate_zero, List.push_toArray, List.append_toArray, List.nil_append, List.cons_append]
  gi_wp2
  go_ret
  exact ⟨rfl, rfl⟩
end Go.Proofs.YtefmmgccdpfnaaaGreatDoor

/- The program's run by putting: runPuts. -/
namespace Go.Proofs.YtefmmgccdpfnaaaGreatDoor
open Go.RowKit Go.Shelf
open Ff
set_option linter.unusedVariables false
attribute [local go_sem] Oper.semAt_some
attribute [local irreducible] goT runN

theorem closed_state {s : Text} {t : Tm} (h : closedS s = some t) : StateOk t := by
  obtain ⟨h1, h2⟩ := closedS_some h
  exact ⟨readS_good h1, by have := readS_parts h1; omega, (free_nil (readS_good h1)).1 h2⟩
/-- What runPuts comes to. -/
def runsV : Option (Tm × Nat) → Value
  | some p => .tuple #[.int .i64 (p.2 : Int), .agg #[enc p.1], .bool true]
  | none => .tuple #[.int .i64 0, .agg #[.nilIface], .bool false]
def runsO (s : Text) : Option (Tm × Nat) := (closedS s).map fun t => goT t 300
/-- What the two results hold behind so many rounds. -/
def lastP (pre : List RunX) : Value × Value := match pre.getLast? with
  | none => (.int .i64 0, .nilIface)
  | some x => (.int .i64 ((x.1.1 : Nat) : Int), enc x.1.2)
theorem lastP_snoc (pre : List RunX) (x : RunX) : lastP (pre ++ [x]) = (.int .i64 ((x.1.1 : Nat) : Int), enc x.1.2) := by simp [lastP]
theorem two_boxes {w w1 : World} {u v : Value} {p q : TypeId} (h : Below ((w.alloc (.cells #[u] p)).alloc (.cells #[v] q)).heap.size ((w.alloc (.cells #[u] p)).alloc (.cells #[v] q)) w1) : Boxed w1 w.heap.size p u ∧ Boxed w1 (w.heap.size + 1) q v := by
  have h1 := (Boxed.new w p u).alloc (.cells #[v] q)
  have h2 := Boxed.new (w.alloc (.cells #[u] p)) q v
  rw [World.size_alloc] at h2
  exact ⟨(h.block _ h1.lt).trans h1, (h.block _ h2.lt).trans h2⟩
theorem below_boxes {w w1 : World} {o p : Obj} (h : Below ((w.alloc o).alloc p).heap.size ((w.alloc o).alloc p) w1) : Below w.heap.size w w1 := (below_two w o p).trans (h.mono (by simp; omega))
theorem keepT_set {T : Nat → Prop} {W : World} {b : Nat} (v : Value) (hb : T b) : KeepT (fun _ j => T j) W (W.setCell ⟨b, 0, none⟩ v) := by
  have hg := grownBy_setCell' W b v
  exact ⟨hg.size, fun j o hj _ ht => (hg.block j (Array.getElem?_eq_some_iff.1 hj).1 (fun e => ht (by injection e with e; rw [e]; exact hb))).trans hj, fun j hj => .inl hj⟩
theorem puts_end {w W : World} {B : Nat} {p q : TypeId} {u v u' v' : Value} {xs : List RunX} (h2 : Boxed W w.heap.size p u) (h3 : Boxed W (w.heap.size + 1) q v) (hB : w.heap.size + 1 < B) (hb : Below w.heap.size w W) (hL : lastP xs = (u', v')) :
    KeepsFrom B W ((W.setCell ⟨w.heap.size, 0, none⟩ u').setCell ⟨w.heap.size + 1, 0, none⟩ v').drew ∧ KeepT (fun _ j => j = w.heap.size ∨ j = w.heap.size + 1) W ((W.setCell ⟨w.heap.size, 0, none⟩ u').setCell ⟨w.heap.size + 1, 0, none⟩ v').drew ∧
      (Boxed ((W.setCell ⟨w.heap.size, 0, none⟩ u').setCell ⟨w.heap.size + 1, 0, none⟩ v').drew w.heap.size p (lastP xs).1 ∧ Boxed ((W.setCell ⟨w.heap.size, 0, none⟩ u').setCell ⟨w.heap.size + 1, 0, none⟩ v').drew (w.heap.size + 1) q (lastP xs).2 ∧ Below w.heap.size w ((W.setCell ⟨w.heap.size, 0, none⟩ u').setCell ⟨w.heap.size + 1, 0, none⟩ v').drew) := by
  rw [hL]
  have k1 := (h2.set u').other (B' := w.heap.size + 1) (by omega) v'
  have k2 := (h3.other (B' := w.heap.size) (by omega) u').set v'
  refine ⟨?_, ?_, k1, k2, ((hb.setCell (p := ⟨w.heap.size, 0, none⟩) (Nat.le_refl _) _).setCell (p := ⟨w.heap.size + 1, 0, none⟩) (by show w.heap.size ≤ w.heap.size + 1; omega) _).drew⟩
  · have e1 := grownBy_setCell' W w.heap.size u'
    have e2 := grownBy_setCell' (W.setCell ⟨w.heap.size, 0, none⟩ u') (w.heap.size + 1) v'
    have e3 := (KeepsFrom.of_grownBy (B := B) e1 (fun j e => by cases e; omega)).trans (KeepsFrom.of_grownBy (B := B) e2 (fun j e => by cases e; omega))
    exact ⟨e3.size, e3.same⟩
  · exact (keepT_set u' (.inl rfl)).trans (keepT_set v' (.inr rfl))
set_option maxRecDepth 100000 in
set_option maxHeartbeats 4000000 in
theorem runs_c (s : Text) (w : World) (hl : s.length ≤ 9223372036854775807) :
    Calls Tryz.prog 42 #[.string ⟨s.toArray⟩] w fun e w' => e = .returned (runsV (runsO s)) ∧ Below w.heap.size w w' := by
  have C := fun W => iclosed_c s W hl
  refine (callsIn_wide (n := 9)).1 ?_
  refine callsIn_of_wp_marks Tryz.func42 rfl trivial ?_ rfl
  simp only [Tryz.ntmps42, List.size_toArray, List.length_cons, List.length_nil, Nat.reduceAdd, Nat.reduceSub, Array.replicate_succ, Array.replicate_zero, List.push_toArray, List.append_toArray, List.nil_append, List.cons_append]
  unfold runsO
  rcases hs : closedS s with _ | t
  · simp only [hs, icl] at C
    simp only [Option.map_none, runsV]
    clear hs
    gi_wp2_with (refine ⟨trivial, ?_⟩; gi_at_call 46; refine (callsIn_wide.2 (C _)).mono ?_; clear C; rintro e w1 ⟨rfl, hb1⟩; obtain ⟨b2, b3⟩ := two_boxes hb1; (have c2 := b2.cell); (have c3 := b3.cell); (have f2 := b2.frozen); (have f3 := b3.frozen))
    have x3 := (b2.set (.int .i64 0)).other (B' := w.heap.size + 1) (by omega) .nilIface
    have y3 := (b3.other (B' := w.heap.size) (by omega) (.int .i64 0)).set .nilIface
    have k2 := x3.cell
    have k3 := y3.cell
    refine ⟨.tuple #[.int .i64 0, .agg #[.nilIface], .bool false], by simp [results, Tryz.results42, go_sem, k2, k3], rfl, ?_⟩
    have hB : Below w.heap.size w w1 := below_boxes hb1
    exact (hB.setCell (p := ⟨w.heap.size, 0, none⟩) (Nat.le_refl _) _).setCell (p := ⟨w.heap.size + 1, 0, none⟩) (by show w.heap.size ≤ w.heap.size + 1; omega) _
  · simp only [hs, icl] at C
    simp only [Option.map_some, runsV]
    have h := closed_state hs
    clear hs
    have P := fun W => statesFrom_c 8 t W
    obtain ⟨t0, t1, ht⟩ := enc_gen t
    simp only [ht] at C P
    gi_wp2_with (first | (refine ⟨trivial, ?_⟩; gi_at_call 46; refine (callsIn_wide.2 (C _)).mono ?_; clear C; rintro e w1 ⟨rfl, hb1⟩; obtain ⟨b2, b3⟩ := two_boxes hb1) | (refine ⟨trivial, ?_⟩; gi_at_call 47; refine (P _).mono ?_; clear P; rintro e w2 ⟨rfl, rfl⟩))
    have hB0 : Below w.heap.size w w1 := below_boxes hb1
    have hb1s : w.heap.size + 2 ≤ w1.heap.size := by have := b3.lt; omega
    have B2 := b2.alloc (.cells #[.iface t0 t1] 44)
    have B3 := b3.alloc (.cells #[.iface t0 t1] 44)
    have BT := (Boxed.new w1 44 (.iface t0 t1)).cell
    have BW : Below w.heap.size w (w1.alloc (.cells #[.iface t0 t1] 44)) := hB0.alloc hB0.size _
    have hsz : (w1.alloc (.cells #[.iface t0 t1] 44)).heap.size = w1.heap.size + 1 := by simp
    generalize w1.alloc (.cells #[.iface t0 t1] 44) = W0 at *
    rw [← ht] at BT
    clear b2 b3 hB0
    refine range_owns rfl (by decide) (gf := 76) (lb := #[.pointer (some ⟨w1.heap.size, 0, none⟩)]) rfl trivial (enters_of Tryz.func76 (by kernel_rfl) rfl)
      (states_owns 8 t h (fun j => j = w.heap.size ∨ j = w.heap.size + 1) w1.heap.size W0 (by omega) (fun j hj => by rcases hj with hj | hj <;> omega) BT) (fun _ => rfl)
      (fun pre W => Boxed W w.heap.size 3 (lastP pre).1 ∧ Boxed W (w.heap.size + 1) 46 (lastP pre).2 ∧ Below w.heap.size w W) (fun _ _ => False)
      (fun pre W W' row hs hg hr => ⟨hs.1.kept hg (fun e => by have := hr _ e.symm; omega), hs.2.1.kept hg (fun e => by have := hr _ e.symm; omega), hs.2.2.grown hg hs.2.2.size (fun j hj => by have := hr j hj; omega)⟩) (fun _ _ _ _ hs _ _ => hs) ⟨B2, B3, BW⟩
      (fun x W a1 W1 => a1 = { tmps := #[.string ⟨s.toArray⟩, undef, .pointer (some ⟨w.heap.size, 0, none⟩), .pointer (some ⟨w.heap.size + 1, 0, none⟩), .bool true, .iface t0 t1, .int .i64 ((x.1.1 : Nat) : Int), .pointer (some ⟨W.heap.size, 0, none⟩), .tuple #[.iface t0 t1, .bool true], .string ⟨s.toArray⟩, .tuple #[.iface t0 t1, .bool true], .iface t0 t1, .bool true, .bool true, .bool false, undef, .iface t0 t1, .func (.func 76) #[] #[.pointer (some ⟨w1.heap.size, 0, none⟩)], .int .i64 ((x.1.1 : Nat) : Int), .agg #[enc x.1.2], undef, undef, undef, undef], defers := [] } ∧ W1 = W.alloc (.cells #[enc x.1.2] 46))
      (fun x W a1 W1 h => by rw [h.2]; exact (Below.refl _ W).alloc (Nat.le_refl _) _) ?assign ?body ?done ?stop
    case assign =>
      intro x W K hK
      have ez : (#[18, 19] : Array Tmp).zip (encX x) = #[(18, .int .i64 ((x.1.1 : Nat) : Int)), (19, .agg #[enc x.1.2])] := by simp [encX]
      rw [ez]
      obtain ⟨s0, s1, hx⟩ := enc_gen x.1.2
      rw [hx] at hK ⊢
      gi_wp2
    case body =>
      rintro pre x W a1 W1 W2 _ hpre hW ⟨rfl, rfl⟩ hg ⟨I2, I3, IB⟩
      have hbx := (Boxed.new W 46 (enc x.1.2)).kept hg (fun e => by injection e with e; omega)
      have hz := IB.size
      obtain ⟨s0, s1, hx⟩ := enc_gen x.1.2
      have hL := lastP_snoc pre x
      rw [hx] at hbx hL ⊢
      have HL := Lib.hid hL
      clear hL hx
      have c1 := hbx.cell
      have c2 := I2.cell
      have c3 := I3.cell
      have f2 := I2.frozen
      have f3 := I3.frozen
      have hwlt : w.heap.size + 1 < W.heap.size := by omega
      generalize (lastP pre).1 = u at *
      generalize (lastP pre).2 = v at *
      gi_wp2
      gi_region_with (fail)
      all_goals exact puts_end I2 I3 (by rw [hsz]; omega) IB HL.out
    case done =>
      rintro W hW ⟨I2, I3, IB⟩ hK
      have hLL : lastP (runL t h) = (.int .i64 (((goT t 300).2 : Nat) : Int), enc (goT t 300).1) := by unfold lastP; rw [runN_last]
      obtain ⟨s0, s1, hx⟩ := enc_gen (goT t 300).1
      rw [hLL] at I2 I3
      rw [hx] at I3
      have HX := Lib.hid hx
      clear hLL hx ht BT
      have c2 := I2.cell
      have c3 := I3.cell
      have f2 := I2.frozen
      have f3 := I3.frozen
      have hK2 : W.heap[w1.heap.size + 1]? = some (.deferred (some [])) := hsz ▸ hK
      have x2 := (I2.set (.int .i64 (((goT t 300).2 : Nat) : Int))).other (B' := w.heap.size + 1) (by omega) (.iface s0 s1)
      have x3 := (I3.other (B' := w.heap.size) (by omega) (.int .i64 (((goT t 300).2 : Nat) : Int))).set (.iface s0 s1)
      have xB := ((IB.setCell (p := ⟨w.heap.size, 0, none⟩) (Nat.le_refl _) (.int .i64 (((goT t 300).2 : Nat) : Int))).setCell (p := ⟨w.heap.size + 1, 0, none⟩) (by show w.heap.size ≤ w.heap.size + 1; omega) (.iface s0 s1)).drew
      have xK : ((W.setCell ⟨w.heap.size, 0, none⟩ (.int .i64 (((goT t 300).2 : Nat) : Int))).setCell ⟨w.heap.size + 1, 0, none⟩ (.iface s0 s1)).drew.heap[w1.heap.size + 1]? = some (.deferred (some [])) := by
        show ((W.setCell ⟨w.heap.size, 0, none⟩ (.int .i64 (((goT t 300).2 : Nat) : Int))).setCell ⟨w.heap.size + 1, 0, none⟩ (.iface s0 s1)).heap[w1.heap.size + 1]? = _
        rw [Below.heap_setCell _ _ _ _ (by show w1.heap.size + 1 ≠ w.heap.size + 1; omega), Below.heap_setCell _ _ _ _ (by show w1.heap.size + 1 ≠ w.heap.size; omega)]
        exact hK2
      gi_wp2
      gi_region
      gi_wp2
      have x2' : Boxed ((W.setCell ⟨w.heap.size, 0, none⟩ (.int .i64 (((goT t 300).2 : Nat) : Int))).setCell ⟨w.heap.size + 1, 0, none⟩ (.iface s0 s1)).drew w.heap.size 3 (.int .i64 (((goT t 300).2 : Nat) : Int)) := x2
      have x3' : Boxed ((W.setCell ⟨w.heap.size, 0, none⟩ (.int .i64 (((goT t 300).2 : Nat) : Int))).setCell ⟨w.heap.size + 1, 0, none⟩ (.iface s0 s1)).drew (w.heap.size + 1) 46 (.iface s0 s1) := x3
      generalize ((W.setCell ⟨w.heap.size, 0, none⟩ (.int .i64 (((goT t 300).2 : Nat) : Int))).setCell ⟨w.heap.size + 1, 0, none⟩ (.iface s0 s1)).drew = X at *
      refine ⟨by simp, .inl ⟨_, _, rfl, run_takeDeferred xK, ?_⟩⟩
      have y2 := (x2'.kept (grownBy_putObj' X (w1.heap.size + 1) (.deferred none)) (fun e => by injection e with e; omega)).cell
      have y3 := (x3'.kept (grownBy_putObj' X (w1.heap.size + 1) (.deferred none)) (fun e => by injection e with e; omega)).cell
      refine ⟨.tuple #[.int .i64 (((goT t 300).2 : Nat) : Int), .agg #[.iface s0 s1], .bool true], by simp [results, Tryz.results42, go_sem, y2, y3], by rw [HX.out], xB.trans (belowK_b (w := w) (Nat.le_refl _) X (w1.heap.size + 1) _ _ (by omega) xK rfl rfl)⟩
    case stop =>
      rintro pre W _ _ h _
      exact h.elim
end Go.Proofs.YtefmmgccdpfnaaaGreatDoor

/- The program's RunByPutting, CountPuts, LastState. -/
namespace Go.Proofs.YtefmmgccdpfnaaaGreatDoor
open Go.RowKit Go.Shelf
open Ff
set_option linter.unusedVariables false
attribute [local irreducible] goT runN Calls

/-- What a state is as the last one of a run. -/
def resE (t : Tm) : Int := if t.isVal = true then 0 else if stuckO t = true then 1 else 2
abbrev resV3 (a : Int) (b : Bool) (c : Int) : Value := .agg #[.int .i64 a, .bool b, .int .i64 c]
def resT (t : Tm) : Value := resV3 (resE t) (isFun t) (numOf t : Int)
theorem numV_of (t : Tm) : numV t = .agg #[.int .i64 (numOf t : Int)] := by cases t <;> rfl
theorem val_split (t : Tm) : t.isVal = (isNum t || isFun t) := by cases t <;> rfl
theorem num_notfun {t : Tm} (h : isNum t = true) : isFun t = false := by cases t <;> first | rfl | cases h
theorem notnum_zero {t : Tm} (h : isNum t = false) : numOf t = 0 := by cases t <;> first | rfl | cases h
theorem below_three' (w : World) (o1 o2 o3 : Obj) : Below w.heap.size w (((w.alloc o1).alloc o2).alloc o3) := below_three w o1 o2 o3
theorem cells3' {w : World} {b : Nat} {z0 z1 z2 : Value} {t : TypeId} (h : w.heap[b]? = some (.cells #[z0, z1, z2] t (0, 0))) : w.cell? ⟨b, 0, none⟩ = some z0 ∧ w.cell? ⟨b, 1, none⟩ = some z1 ∧ w.cell? ⟨b, 2, none⟩ = some z2 ∧ w.frozen? ⟨b, 0, none⟩ = false ∧ w.frozen? ⟨b, 1, none⟩ = false ∧ w.frozen? ⟨b, 2, none⟩ = false := by
  refine ⟨?_, ?_, ?_, ?_, ?_, ?_⟩ <;> simp [World.cell?, World.frozen?, h]
/-- The boxes of 'result'. -/
structure ResW (w : World) (v : Value) (p q : TypeId) (W : World) : Prop where
  b0 : Boxed W w.heap.size p v
  b1 : W.heap[w.heap.size + 1]? = some (.cells #[.int .i64 0, .bool false, .int .i64 0] q (0, 0))
  below : Below w.heap.size w W
theorem ResW.new (w : World) (v : Value) (p q : TypeId) : ResW w v p q ((w.alloc (.cells #[v] p)).alloc (.cells #[.int .i64 0, .bool false, .int .i64 0] q)) := by
  have h := World.alloc_heap_new (w.alloc (.cells #[v] p)) (.cells #[.int .i64 0, .bool false, .int .i64 0] q)
  rw [World.size_alloc] at h
  exact ⟨(Boxed.new w p v).alloc _, h, below_two w _ _⟩
theorem ResW.keep {w W W' : World} {v : Value} {p q : TypeId} (h : ResW w v p q W) (hb : Below W.heap.size W W') : ResW w v p q W' :=
  ⟨(hb.block _ h.b0.lt).trans h.b0, (hb.block _ (Array.getElem?_eq_some_iff.1 h.b1).1).trans h.b1, h.below.trans (hb.mono h.below.size)⟩
theorem ResW.alloc {w W : World} {v : Value} {p q : TypeId} (h : ResW w v p q W) (o : Obj) : ResW w v p q (W.alloc o) := h.keep ((Below.refl _ W).alloc (Nat.le_refl _) o)
theorem ResW.set {w W : World} {v : Value} {p q : TypeId} (h : ResW w v p q W) (a b c : Value) : Below w.heap.size w (((W.setCell ⟨w.heap.size + 1, 0, none⟩ a).setCell ⟨w.heap.size + 1, 1, none⟩ b).setCell ⟨w.heap.size + 1, 2, none⟩ c) :=
  ((h.below.setCell (p := ⟨w.heap.size + 1, 0, none⟩) (by show w.heap.size ≤ w.heap.size + 1; omega) _).setCell (p := ⟨w.heap.size + 1, 1, none⟩) (by show w.heap.size ≤ w.heap.size + 1; omega) _).setCell (p := ⟨w.heap.size + 1, 2, none⟩) (by show w.heap.size ≤ w.heap.size + 1; omega) _
set_option maxRecDepth 100000 in
set_option maxHeartbeats 2000000 in
theorem result_c (t : Tm) (w : World) (h : StateOk t) :
    Calls Tryz.prog 43 #[.agg #[enc t]] w fun e w' => e = .returned (resT t) ∧ Below w.heap.size w w' := by
  have KF := fun W => isFunction_c t W
  have KS := fun W => iStuck_c t W h.good h.deep h.many h.closed
  have hv := val_split t
  have TA := fun W => ta_num t W
  simp only [numV_of] at TA
  have hnf := @num_notfun t
  have hnz := @notnum_zero t
  unfold resT resE
  simp only [enc_ty t] at KS ⊢
  rw [hv]
  clear hv h
  generalize isNum t = bn at *
  generalize isFun t = bf at *
  generalize stuckO t = bs at *
  generalize (numOf t) = k at *
  have R0 := ResW.new w (.iface (ty t) (pl t)) 46 30
  generalize ty t = tt at *
  generalize pl t = pp at *
  cases bn with
  | true =>
    have e := hnf rfl
    subst e
    have R1 := R0.alloc (.cells #[.int .i64 (k : Int)] 111)
    obtain ⟨c0, c1, c2, f0, f1, f2⟩ := cells3' R1.b1
    simp only [Bool.true_or, if_true]
    go_enter Tryz.func43, Tryz.ntmps43
    go_wp2_with fail
    refine bodyPost_ret (v := resV3 0 false (k : Int)) (by simp [results, Tryz.results43, go_sem]) rfl ?_
    exact ⟨rfl, below_three w _ _ _⟩
  | false =>
    obtain rfl := hnz rfl
    have R1 := R0.alloc (.cells #[.int .i64 ((0 : Nat) : Int)] 111)
    have g0 := R1.b0.cell
    cases bf with
    | true =>
      simp only [Bool.or_true, if_true]
      go_enter Tryz.func43, Tryz.ntmps43
      go_wp2_with (go_at_call 73; refine (KF _).mono ?_; clear KF; rintro e w2 ⟨rfl, hb2⟩; (have R2 := R1.keep hb2); obtain ⟨c0, c1, c2, f0, f1, f2⟩ := cells3' R2.b1)
      refine bodyPost_ret (v := resV3 0 true ((0 : Nat) : Int)) (by simp [results, Tryz.results43, go_sem, c0, c1, c2]) rfl ?_
      exact ⟨rfl, R2.set _ _ _⟩
    | false =>
      cases bs
      all_goals
        simp only [Bool.or_false, Bool.false_eq_true, if_false, if_true]
        go_enter Tryz.func43, Tryz.ntmps43
        go_wp2_with (first
          | (go_at_call 73; refine (KF _).mono ?_; clear KF; rintro e w2 ⟨rfl, hb2⟩; (have R2 := R1.keep hb2); (have g2 := R2.b0.cell))
          | (go_at_call 39; refine (KS _).mono ?_; clear KS; rintro e w3 ⟨rfl, hb3⟩; (have R3 := R2.keep hb3); obtain ⟨c0, c1, c2, f0, f1, f2⟩ := cells3' R3.b1))
      · refine bodyPost_ret (v := resV3 2 false ((0 : Nat) : Int)) (by simp [results, Tryz.results43, go_sem, c0, c1, c2]) rfl ?_
        exact ⟨rfl, R3.set _ _ _⟩
      · refine bodyPost_ret (v := resV3 1 false ((0 : Nat) : Int)) (by simp [results, Tryz.results43, go_sem, c0, c1, c2]) rfl ?_
        exact ⟨rfl, R3.set _ _ _⟩
/-- What RunByPutting comes to. -/
def byV : Option (Tm × Nat) → Value
  | some p => .tuple #[resT p.1, .bool true]
  | none => .tuple #[resV3 0 false 0, .bool false]
/-- What CountPuts comes to. -/
def cpV : Option (Tm × Nat) → Int
  | some p => if p.1.isVal = true then (p.2 : Int) else -1
  | none => -1
/-- What LastState comes to. -/
def lsV : Option (Tm × Nat) → Value
  | some p => .tuple #[.string ⟨(textN p.1).toArray⟩, .bool true]
  | none => .tuple #[.string ⟨#[]⟩, .bool false]
theorem runsO_ok {s : Text} {p : Tm × Nat} (h : runsO s = some p) : StateOk p.1 := by
  unfold runsO at h
  rcases hs : closedS s with _ | t
  · rw [hs] at h; cases h
  · rw [hs] at h
    simp only [Option.map_some, Option.some.injEq] at h
    rw [← h]
    exact goT_ok (closed_state hs) 300
theorem resE_done (t : Tm) : (resE t != 0) = !t.isVal := by
  unfold resE
  cases t.isVal
  · cases stuckO t <;> rfl
  · rfl
/-- The box of a result. -/
structure BoxW (w : World) (q : TypeId) (W : World) : Prop where
  b : W.heap[w.heap.size]? = some (.cells #[.int .i64 0, .bool false, .int .i64 0] q (0, 0))
  below : Below w.heap.size w W
theorem BoxW.new (w : World) (q : TypeId) : BoxW w q (w.alloc (.cells #[.int .i64 0, .bool false, .int .i64 0] q)) := ⟨World.alloc_heap_new w _, (Below.refl _ w).alloc (Nat.le_refl _) _⟩
theorem BoxW.keep {w W W' : World} {q : TypeId} (h : BoxW w q W) (hb : Below W.heap.size W W') : BoxW w q W' := ⟨(hb.block _ (Array.getElem?_eq_some_iff.1 h.b).1).trans h.b, h.below.trans (hb.mono h.below.size)⟩
theorem BoxW.alloc {w W : World} {q : TypeId} (h : BoxW w q W) (o : Obj) : BoxW w q (W.alloc o) := h.keep ((Below.refl _ W).alloc (Nat.le_refl _) o)
theorem BoxW.set {w W : World} {q : TypeId} (h : BoxW w q W) (a b c : Value) : Below w.heap.size w (((W.setCell ⟨w.heap.size, 0, none⟩ a).setCell ⟨w.heap.size, 1, none⟩ b).setCell ⟨w.heap.size, 2, none⟩ c) :=
  ((h.below.setCell (p := ⟨w.heap.size, 0, none⟩) (Nat.le_refl _) _).setCell (p := ⟨w.heap.size, 1, none⟩) (Nat.le_refl _) _).setCell (p := ⟨w.heap.size, 2, none⟩) (Nat.le_refl _) _
set_option maxRecDepth 100000 in
set_option maxHeartbeats 2000000 in
theorem iRunBy_c (s : Text) (w : World) (hl : s.length ≤ 9223372036854775807) :
    Calls Tryz.prog 16 #[.string ⟨s.toArray⟩] w fun e w' => e = .returned (byV (runsO s)) ∧ Below w.heap.size w w' := by
  have C := fun W => runs_c s W hl
  have H := fun p (h : runsO s = some p) => runsO_ok h
  generalize runsO s = o at *
  have B0 := BoxW.new w 30
  rcases o with _ | ⟨T, N⟩
  · simp only [runsV] at C
    simp only [byV]
    clear H
    go_enter Tryz.func16, Tryz.ntmps16
    go_wp2_with (go_at_call 42; refine (C _).mono ?_; clear C; rintro e w1 ⟨rfl, hb1⟩; (have B1 := (B0.keep hb1).alloc (.cells #[.nilIface] 46)); obtain ⟨c0, c1, c2, f0, f1, f2⟩ := cells3' B1.b)
    refine bodyPost_ret (v := .tuple #[resV3 0 false 0, .bool false]) (by simp [results, Tryz.results16, go_sem, c0, c1, c2]) rfl ?_
    exact ⟨rfl, B1.set _ _ _⟩
  · have K := fun W => result_c T W (H _ rfl)
    obtain ⟨s0, s1, hx⟩ := enc_gen T
    simp only [runsV, hx] at C
    simp only [hx] at K
    simp only [byV]
    obtain ⟨r0, r1, r2, hr⟩ : ∃ (r0 : Int) (r1 : Bool) (r2 : Int), resT T = resV3 r0 r1 r2 := ⟨_, _, _, rfl⟩
    rw [hr]
    simp only [hr] at K
    clear H hx hr
    go_enter Tryz.func16, Tryz.ntmps16
    go_wp2_with (first
      | (go_at_call 42; refine (C _).mono ?_; clear C; rintro e w1 ⟨rfl, hb1⟩; (have B1 := (B0.keep hb1).alloc (.cells #[.iface s0 s1] 46)))
      | (go_at_call 43; refine (K _).mono ?_; clear K; rintro e w2 ⟨rfl, hb2⟩; (have B2 := B1.keep hb2); obtain ⟨c0, c1, c2, f0, f1, f2⟩ := cells3' B2.b))
    refine bodyPost_ret (v := .tuple #[resV3 r0 r1 r2, .bool true]) (by simp [results, Tryz.results16, go_sem, c0, c1, c2]) rfl ?_
    exact ⟨rfl, B2.set _ _ _⟩
theorem field_end (a : Int) (b : Bool) (c : Int) (W : World) : (Instr.field 30 (resV3 a b c) 0).run Tryz.prog W = .ok (.int .i64 a) W := by kernel_rfl
set_option maxRecDepth 100000 in
set_option maxHeartbeats 2000000 in
theorem iCountPuts_c (s : Text) (w : World) (hl : s.length ≤ 9223372036854775807) :
    Calls Tryz.prog 23 #[.string ⟨s.toArray⟩] w fun e w' => e = .returned (.int .i64 (cpV (runsO s))) ∧ Below w.heap.size w w' := by
  have C := fun W => runs_c s W hl
  have H := fun p (h : runsO s = some p) => runsO_ok h
  generalize runsO s = o at *
  rcases o with _ | ⟨T, N⟩
  · simp only [runsV] at C
    simp only [cpV]
    clear H
    go_enter Tryz.func23, Tryz.ntmps23
    go_wp2_with (go_at_call 42; refine (C _).mono ?_; clear C; rintro e w1 ⟨rfl, hb1⟩)
    go_ret
    exact ⟨rfl, hb1.alloc hb1.size _⟩
  · have K := fun W => result_c T W (H _ rfl)
    obtain ⟨s0, s1, hx⟩ := enc_gen T
    simp only [runsV, hx] at C
    simp only [hx] at K
    simp only [cpV]
    have hd := resE_done T
    obtain ⟨r0, r1, r2, hr, hr0⟩ : ∃ (r0 : Int) (r1 : Bool) (r2 : Int), resT T = resV3 r0 r1 r2 ∧ r0 = resE T := ⟨_, _, _, rfl, rfl⟩
    rw [← hr0] at hd
    simp only [hr] at K
    clear H hx hr hr0
    generalize T.isVal = b at *
    have hz : (b = true → r0 = 0) ∧ (b = false → ¬ r0 = 0) := by cases b <;> simpa using hd
    clear hd
    cases b
    all_goals
      first | (obtain rfl := hz.1 rfl) | (have hq := hz.2 rfl)
      clear hz
      have hF := field_end
      simp only [if_true, Bool.false_eq_true, if_false]
      go_enter Tryz.func23, Tryz.ntmps23
      go_wp2_with (first
        | (go_at_call 42; refine (C _).mono ?_; clear C; rintro e w1 ⟨rfl, hb1⟩)
        | (go_at_call 43; refine (K _).mono ?_; clear K; rintro e w2 ⟨rfl, hb2⟩))
      go_ret
      exact ⟨rfl, (hb1.alloc hb1.size _).trans (hb2.mono (by have := hb1.size; simp; omega))⟩
set_option maxRecDepth 100000 in
set_option maxHeartbeats 2000000 in
theorem iLast_c (s : Text) (w : World) (hl : s.length ≤ 9223372036854775807) :
    Calls Tryz.prog 21 #[.string ⟨s.toArray⟩] w fun e w' => e = .returned (lsV (runsO s)) ∧ Below w.heap.size w w' := by
  have C := fun W => runs_c s W hl
  have H := fun p (h : runsO s = some p) => runsO_ok h
  generalize runsO s = o at *
  rcases o with _ | ⟨T, N⟩
  · simp only [runsV] at C
    simp only [lsV]
    clear H
    go_enter Tryz.func21, Tryz.ntmps21
    go_wp2_with (go_at_call 42; refine (C _).mono ?_; clear C; rintro e w1 ⟨rfl, hb1⟩)
    go_ret2
    exact ⟨rfl, hb1.alloc hb1.size _⟩
  · have hk := H _ rfl
    have KT := fun W => text_c T.depth T (Nat.le_refl _) hk.good (by have hm : (parts T).length ≤ 1500 := hk.many; omega) W
    simp only [runsV] at C
    simp only [enc_ty T] at C
    simp only [lsV]
    clear H hk
    go_enter Tryz.func21, Tryz.ntmps21
    go_wp2_with (first
      | (go_at_call 42; refine (C _).mono ?_; clear C; rintro e w1 ⟨rfl, hb1⟩)
      | (refine wpList_invoke rfl _ _ (ty T) (pl T) rfl rfl (tf T) (text_m T _ (by unfold TextName; kernel_rfl) _) (text_f T _) (fun rv w' => rv = .string ⟨(textN T).toArray⟩ ∧ Below w.heap.size w w') ((KT _).mono fun e w' ⟨h1, h2⟩ => ⟨_, h1, rfl, (hb1.alloc hb1.size _).trans (h2.mono (by have := hb1.size; simp; omega))⟩) ?_; rintro rv w9 ⟨rfl, hb9⟩))
    go_ret2
    exact ⟨rfl, hb9⟩
end Go.Proofs.YtefmmgccdpfnaaaGreatDoor
