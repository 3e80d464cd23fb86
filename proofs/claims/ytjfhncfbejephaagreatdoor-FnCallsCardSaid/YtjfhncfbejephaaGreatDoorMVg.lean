import Derived.Test.YtjfhncfbejephaaGreatDoorMEe
import Derived.Test.YtjfhncfbejephaaGreatDoorMVf
/- The program's runs of closed terms: readClosed, runDone. -/
namespace Go.Proofs.YtjfhncfbejephaaGreatDoor
open Go.RowKit Go.Shelf
open Ff
set_option linter.unusedVariables false
attribute [local irreducible] Calls

theorem readS_depth24 {s : Text} {t : Tm} (h : readS s = some t) : t.depth ≤ 24 := by
  unfold readS at h
  split at h
  · rcases hp : parse 24 s with _ | ⟨u, r⟩
    · simp [hp] at h
    · have := parse_depth _ _ _ _ hp
      simp only [hp, Option.bind_some] at h
      split at h
      · injection h with h; subst h; exact this
      · cases h
  · cases h
def st0 : St := ⟨0, 0, 0, 0, 0, 0, [], [], []⟩
theorem st0_ok : StB st0 := ⟨by decide, by decide, by decide, by decide, by decide, by decide, rfl, rfl, rfl⟩
theorem tmok_of {s : Text} {t : Tm} (h : readS s = some t) (e : En) (he : EnOk e) (hn : ∀ c ∈ sfree t, c ∈ e.names) (hl : e.names.length ≤ 16) : TmOk t 0 e :=
  ⟨readS_good h, by have := readS_parts h; omega, by have := readS_depth24 h; omega, hn, he⟩
theorem closed_ok {s : Text} {t : Tm} (h : closedS s = some t) : TmOk t 0 .nil := by
  obtain ⟨h1, h2⟩ := closedS_some h
  exact tmok_of h1 .nil .nil (by rw [h2]; simp) (by simp [En.names])
/-- The rows of a runner that has done nothing yet. -/
def rw0 : Rw := ⟨.slice none 0 0, .slice none 0 0⟩
theorem rw0_own (j : Nat) : ¬ rw0.own j := by rintro (h | h) <;> simp [rw0, Value.ownBlock] at h
/-- A new runner. -/
def newR (w : World) : World := w.alloc (.cells #[.int .i64 0, .int .i64 0, .int .i64 0, .int .i64 0, .int .i64 0, .int .i64 1500, .int .i64 0, .slice none 0 0, .slice none 0 0, .int .i64 0, .nilFunc] 50)
theorem newR_size (w : World) : (newR w).heap.size = w.heap.size + 1 := by simp [newR]
theorem newR_below (w : World) : Below w.heap.size w (newR w) := (Below.refl _ w).alloc (Nat.le_refl _) _
theorem newRunner_c (w : World) : Calls Tryz.prog 25 #[.int .i64 1500] w fun e w' => e = .returned (ptr w.heap.size) ∧ w' = newR w := by
  go_enter Tryz.func25, Tryz.ntmps25
  go_wp2_with fail
  go_ret
  exact ⟨rfl, rfl⟩
theorem run_new (w : World) : RunAt NoX w.heap.size rw0 (newR w) st0 :=
  ⟨⟨0, World.alloc_heap_new w _⟩, World.ownsRow_nil _ _ _ _, World.ownsRow_nil _ _ _ _, rfl, fun j h => by simp [rw0, Value.ownBlock] at h, fun g hg => hg.elim⟩
theorem kep_below {r : Nat} {cv : Rw} {w w1 w2 : World} {B : Nat} (hb : Below B w w1) (hB : B ≤ w.heap.size) (hr : B ≤ r) (h : Kep r rw0 w1 cv w2) : Below B w w2 :=
  hb.trans ⟨h.os, h.tape, h.output, h.size, fun j hj => h.block j (by have := hb.size; omega) (by omega) (rw0_own j)⟩
def icl (o : Option Tm) : Value := match o with | some t => .tuple #[enc t, .bool true] | none => .tuple #[.nilIface, .bool false]
set_option maxRecDepth 100000 in
set_option maxHeartbeats 2000000 in
theorem iclosed_c (s : Text) (w : World) (hl : s.length ≤ 9223372036854775807) :
    Calls Tryz.prog 24 #[.string ⟨s.toArray⟩] w fun e w' => e = .returned (icl (closedS s)) ∧ Below w.heap.size w w' := by
  have C := read_c s w hl
  go_enter Tryz.func24, Tryz.ntmps24
  go_wp2_with fail
  refine C.mono ?_
  clear C
  rcases hr : readT s with _ | t
  · rintro e w1 ⟨rfl, hb1⟩
    have hc : closedS s = none := by unfold closedS; rw [readS_eq, hr]; rfl
    have HC := Lib.hid hc
    clear hr hc
    go_wp2_with fail
    go_ret2
    exact ⟨by rw [HC.out]; rfl, hb1⟩
  · rintro e w1 ⟨rfl, hb1⟩
    have hs := readS_eq s ▸ hr
    have D := freeIn_c 4000 t w1 (by have := readS_depth hs; omega) (by omega) (by have := readS_parts hs; omega) (readS_good hs)
    have hf := free_nil (readS_good hs)
    have hp := readS_parts hs
    have hc : closedS s = if sfree t = [] then some t else none := by unfold closedS; rw [hs]; rfl
    rw [enc_ty t] at D ⊢
    have HC := Lib.hid hc
    have HF := Lib.hid hf
    clear hr hs hf hc
    by_cases h0 : sfree t = []
    · have HC2 := Lib.hid (HC.out.trans (if_pos h0))
      clear HC
      go_wp2_with (go_at_call 38; refine D.mono ?_; clear D; rintro e w2 ⟨b, k, rfl, hbw, hk, hT, hb2⟩; obtain ⟨n, hn0, hnk, hlen⟩ := hT.len; rw [← HF.out] at hn0; obtain rfl : n = 0 := hn0.2 h0)
      go_ret2
      exact ⟨by rw [HC2.out]; show _ = Ending.returned (.tuple #[enc t, .bool true]); rw [enc_ty]; rfl, hb1.trans (hb2.mono hb1.size)⟩
    · have HC2 := Lib.hid (HC.out.trans (if_neg h0))
      clear HC
      go_wp2_with (go_at_call 38; refine D.mono ?_; clear D; rintro e w2 ⟨b, k, rfl, hbw, hk, hT, hb2⟩; obtain ⟨n, hn0, hnk, hlen⟩ := hT.len; rw [← HF.out] at hn0; have hpos : (0 : Int) < n := by rcases Nat.eq_zero_or_pos n with h | h; exact absurd (hn0.1 h) h0; omega)
      go_ret2
      exact ⟨by rw [HC2.out]; rfl, hb1.trans (hb2.mono hb1.size)⟩
/-- What a closed term's run has done that ends well. -/
def doneO (s : Text) : Option St := (closedS s).bind fun t => match ev 1501 t 0 .nil st0 with | .ok _ s2 => some s2 | _ => none
def IDoneP (w : World) (o : Option St) (e : Ending) (w' : World) : Prop := match o with
  | none => e = .returned (.tuple #[.pointer none, .bool false])
  | some s2 => ∃ r cv, e = .returned (.tuple #[ptr r, .bool true]) ∧ w.heap.size ≤ r ∧ RunAt NoX r cv w' s2
set_option maxRecDepth 100000 in
set_option maxHeartbeats 4000000 in
theorem idone_c (s : Text) (w : World) (hl : s.length ≤ 9223372036854775807) (hg : ErrT w) :
    Calls Tryz.prog 15 #[.string ⟨s.toArray⟩] w fun e w' => IDoneP w (doneO s) e w' ∧ Below w.heap.size w w' := by
  have C := iclosed_c s w hl
  have hpos := hg.pos
  have hff : ∀ (a b c : Value) (w : World), (Instr.field 74 (.agg #[a, b, c]) 0).run Tryz.prog w = .ok a w := fun _ _ _ _ => rfl
  go_enter Tryz.func15, Tryz.ntmps15
  go_wp2_with fail
  refine C.mono ?_
  clear C
  rcases hr : closedS s with _ | t
  · rintro e w1 ⟨rfl, hb1⟩
    have hd : doneO s = none := by unfold doneO; rw [hr]; rfl
    have HD := Lib.hid hd
    clear hr hd
    unfold icl
    go_wp2_with fail
    go_ret2
    exact ⟨by rw [HD.out]; rfl, hb1⟩
  · rintro e w1 ⟨rfl, hb1⟩
    have hok := closed_ok hr
    have hs1 := hb1.size
    have hdp := readS_depth (closedS_some hr).1
    have hd : doneO s = match ev 1501 t 0 .nil st0 with | .ok _ s2 => some s2 | _ => none := by unfold doneO; rw [hr]; rfl
    have hb2 := newR_below w1
    have hn2 := newR_size w1
    have hg2 : ErrT (newR w1) := (hb2.cell (p := ⟨0, 0, none⟩) (by show 0 < w1.heap.size; omega)).trans ((hb1.cell (p := ⟨0, 0, none⟩) hpos).trans hg)
    have R := run_c 1501 t .nil st0 w1.heap.size rw0 (.pointer none) (newR w1) (by simp [st0]) st0_ok hok (run_new w1) .nil hg2 ⟨by omega, by omega, rw0_own _, fun h => h⟩ (by omega)
    have NR := newRunner_c w1
    generalize newR w1 = W2 at R NR hb2 hn2 hg2
    obtain ⟨o, ho⟩ : ∃ o, ev 1501 t 0 .nil st0 = o := ⟨_, rfl⟩
    rw [ho] at R hd
    have HD := Lib.hid hd
    simp only [icl, enc_ty t] at R ⊢
    clear hr hd ho hok
    go_wp2_with fail
    refine NR.mono ?_
    clear NR
    rintro e w2 ⟨rfl, rfl⟩
    go_wp2_with fail
    refine R.mono ?_
    rcases Ou.cases o with ⟨v, s3, rfl⟩ | hbad
    · rintro e w3 ⟨rfl, cv, s4, hR4, hK4, h4⟩
      obtain rfl := h4 v s3 rfl
      simp only [resO, rV]
      go_wp2_with fail
      go_ret2
      refine ⟨?_, kep_below (hb1.trans (hb2.mono hs1)) (Nat.le_refl _) hs1 hK4⟩
      rw [HD.out]
      exact ⟨_, cv, rfl, hs1, hR4⟩
    · rintro e w3 ⟨rfl, cv, s4, hR4, hK4, h4⟩
      cases o with
      | ok v s => exact hbad.elim
      | fault =>
        simp only [resO, rV]
        go_wp2_with fail
        go_ret2
        exact ⟨by rw [HD.out]; rfl, kep_below (hb1.trans (hb2.mono hs1)) (Nat.le_refl _) hs1 hK4⟩
      | long =>
        simp only [resO, rV]
        go_wp2_with fail
        go_ret2
        exact ⟨by rw [HD.out]; rfl, kep_below (hb1.trans (hb2.mono hs1)) (Nat.le_refl _) hs1 hK4⟩
end Go.Proofs.YtjfhncfbejephaaGreatDoor

/- The specification's l3Term. -/
namespace Go.Proofs.YtjfhncfbejephaaGreatDoor
open Go.RowKit Go.Shelf
open Ff
set_option linter.unusedVariables false
variable {X : Nat → Prop}
attribute [local irreducible] Calls

/-- The result of a run that has ended. -/
theorem sres_dead (rb : Nat) (en : Int) (w : World) (b : Bool) (n k m : Int) (s : ByteArray) (a : Option Addr) (l c : Nat) (i : Int) (a2 : Option Addr) (l2 c2 : Nat) (h : w.cell? ⟨rb, 0, none⟩ = some (.int .i64 en)) (hne : en ≠ 0) :
    Calls Tryz.prog 48 #[ptr rb, v8 b n k m s a l c i a2 l2 c2] w fun e' w' => e' = .returned (rV en false 0) ∧ Below w.heap.size w w' := by
  have hl := World.block_lt_of_cell? w ⟨rb, 0, none⟩ h
  have hb1 := ((Below.refl _ w).alloc (Nat.le_refl _) (.cells #[.bool b, .int .i64 n, .int .u8 k, .int .i64 m, .string s, .slice a l c, .int .i64 i, .slice a2 l2 c2] 114)).alloc (by simp) (.cells #[.int .i64 0, .bool false, .int .i64 0] 74)
  have h2 := (hb1.cell (p := ⟨rb, 0, none⟩) hl).trans h
  have C := goes_c rb en _ h2
  have e1 : (en == 0) = false := by simpa using hne
  rw [e1] at C
  go_enter Tryz.func48, Tryz.ntmps48
  go_wp2_with fail
  refine C.mono ?_
  rintro e' w' ⟨rfl, rfl⟩
  clear C
  go_wp2_with fail
  refine bodyPost_ret (v := rV en false 0) (by simp [results, Tryz.results48, go_sem]) rfl ⟨rfl, ?_⟩
  exact ((Below.refl _ w).alloc (Nat.le_refl _) _).alloc (by simp) _
theorem sres_live (rb : Nat) (w : World) (S : Nat → Prop) (v : Vl) (x : Value) (hv : SV S w v x) (h : w.cell? ⟨rb, 0, none⟩ = some (.int .i64 0)) :
    Calls Tryz.prog 48 #[ptr rb, x] w fun e' w' => e' = .returned (rV 0 (isF v) (valN v : Nat)) ∧ Below w.heap.size w w' := by
  have hl := World.block_lt_of_cell? w ⟨rb, 0, none⟩ h
  cases hv with
  | num n =>
    have hb1 := ((Below.refl _ w).alloc (Nat.le_refl _) (.cells #[.bool false, .int .i64 (n : Int), .int .u8 0, .int .i64 0, .string ⟨#[]⟩, .slice none 0 0, .int .i64 0, .slice none 0 0] 114)).alloc (by simp) (.cells #[.int .i64 0, .bool false, .int .i64 0] 74)
    have h2 := (hb1.cell (p := ⟨rb, 0, none⟩) hl).trans h
    have C := goes_c rb 0 _ h2
    go_enter Tryz.func48, Tryz.ntmps48
    go_wp2_with fail
    refine C.mono ?_
    rintro e' w' ⟨rfl, rfl⟩
    clear C
    go_wp2_with fail
    refine bodyPost_ret (v := rV 0 false (n : Nat)) (by simp [results, Tryz.results48, go_sem]) rfl ⟨rfl, ?_⟩
    exact ((Below.refl _ w).alloc (Nat.le_refl _) _).alloc (by simp) _
  | clo i t e k m s a l c a2 l2 c2 ht he =>
    have hb1 := ((Below.refl _ w).alloc (Nat.le_refl _) (.cells #[.bool true, .int .i64 0, .int .u8 k, .int .i64 m, .string s, .slice a l c, .int .i64 (i : Int), .slice a2 l2 c2] 114)).alloc (by simp) (.cells #[.int .i64 0, .bool false, .int .i64 0] 74)
    have h2 := (hb1.cell (p := ⟨rb, 0, none⟩) hl).trans h
    have C := goes_c rb 0 _ h2
    go_enter Tryz.func48, Tryz.ntmps48
    go_wp2_with fail
    refine C.mono ?_
    rintro e' w' ⟨rfl, rfl⟩
    clear C
    go_wp2_with fail
    refine bodyPost_ret (v := rV 0 true 0) (by simp [results, Tryz.results48, go_sem]) rfl ⟨rfl, ?_⟩
    exact ((Below.refl _ w).alloc (Nat.le_refl _) _).alloc (by simp) _
theorem zero57 : Tryz.zeroCells58 = (runL st0 0 (.slice none 0 0) (.slice none 0 0) ++ List.replicate 200 (Value.int .i64 0)).toArray := by kernel_rfl
theorem srun_new (W : World) : RunS NoX W.heap.size (.slice none 0 0) (.slice none 0 0) (W.alloc (.cells Tryz.zeroCells58 58)) st0 0 := by
  have h := alloc_at W (.cells Tryz.zeroCells58 58)
  generalize W.alloc (.cells Tryz.zeroCells58 58) = W1 at h
  rw [zero57] at h
  have q : ∀ k v, (runL st0 0 (.slice none 0 0) (.slice none 0 0) ++ List.replicate 200 (Value.int .i64 0))[k]? = some v → W1.cell? ⟨W.heap.size, k, none⟩ = some v := fun k v hk => by
    have e : W1.cell? ⟨W.heap.size, k, none⟩ = (runL st0 0 (.slice none 0 0) (.slice none 0 0) ++ List.replicate 200 (Value.int .i64 0)).toArray[k]? := by
      unfold World.cell?
      rw [h]
      rfl
    rw [e, List.getElem?_toArray]
    exact hk
  refine ⟨fun k v hk => ?_, fun k hk => ⟨0, ?_⟩, fun k => ?_, World.ownsRow_nil _ _ _ _, ⟨0, [], Nat.zero_le _, World.ownsRow_nil _ _ _ _⟩, fun j hj => by simp [Value.ownBlock] at hj, fun g hg => hg.elim⟩
  · refine q k v ?_
    rw [List.getElem?_append_left (List.getElem?_eq_some_iff.1 hk).1]
    exact hk
  · refine q _ _ ?_
    rw [List.getElem?_append_right (by simp [runL])]
    rw [List.getElem?_replicate]
    simp [runL, hk]
  · simp [World.frozen?, h]
/-- What a run that ends leaves. -/
def STermP (w : World) (o : Ou) (e' : Ending) (w' : World) : Prop := Below w.heap.size w w' ∧ ∃ rb, e' = .returned (.tuple #[resO o, ptr rb]) ∧ w.heap.size ≤ rb ∧ ∀ v s2, o = .ok v s2 → ∃ cv av, RunS NoX rb cv av w' s2 0
set_option maxRecDepth 100000 in
set_option maxHeartbeats 4000000 in
theorem sterm3_c (hev : SEvC 1501) (t : Tm) (e : En) (S : Nat → Prop) (tv ee : Value) (w : World) (hrep : Rep S w t tv) (hS : ∀ g, S g → g < w.heap.size) (hE : SE (fun g => g < w.heap.size) w e ee) (hok : TmOk t 0 e) :
    Calls Tryz.prog 28 #[tv, ee] w (STermP w (ev 1501 t 0 e st0)) := by
  obtain ⟨x, y, st, aa, l, cc, rfl⟩ := hrep.junk
  obtain ⟨ae, ce, rfl⟩ := hE.form
  obtain ⟨o, ho⟩ : ∃ o, ev 1501 t 0 e st0 = o := ⟨_, rfl⟩
  have hb0 := ((Below.refl _ w).alloc (Nat.le_refl _) (.cells #[.int .u8 x, .int .i64 y, .string st, .slice aa l cc] 78)).alloc (by simp) (.cells #[.int .i64 0, .bool false, .int .i64 0] 74)
  have hz0 := alloc_at2 w (.cells #[.int .u8 x, .int .i64 y, .string st, .slice aa l cc] 78) (.cells #[.int .i64 0, .bool false, .int .i64 0] 74)
  have hx0 : ((w.alloc (.cells #[.int .u8 x, .int .i64 y, .string st, .slice aa l cc] 78)).alloc (.cells #[.int .i64 0, .bool false, .int .i64 0] 74)).heap[w.heap.size]? = _ := alloc_old (alloc_at w _)
  have hs0 : ((w.alloc (.cells #[.int .u8 x, .int .i64 y, .string st, .slice aa l cc] 78)).alloc (.cells #[.int .i64 0, .bool false, .int .i64 0] 74)).heap.size = w.heap.size + 2 := by simp
  go_enter Tryz.func28, Tryz.ntmps28
  generalize hW : (w.alloc (.cells #[.int .u8 x, .int .i64 y, .string st, .slice aa l cc] 78)).alloc (.cells #[.int .i64 0, .bool false, .int .i64 0] 74) = W at hb0 hz0 hx0 hs0
  obtain ⟨b0, b1, b2, b3, _⟩ := four_of hx0
  have C := num_c 4000 t 0 S (.agg #[.int .u8 x, .int .i64 y, .string st, .slice aa l cc]) W (by have := hok.room; omega) (by have := hok.place; omega) hok.good (hrep.keep (fun g hg => hb0.block g (hS g hg)) (fun g hg => hg)) (fun g hg => by have := hS g hg; omega)
  go_wp2_with fail
  refine C.mono ?_
  clear C
  rintro e' w1 ⟨v1, rfl, hb1, hrn⟩
  obtain ⟨x', y', st', aa', l', cc', rfl⟩ := hrn.junk
  have hs1 := hb1.size
  have hs2 : (w1.alloc (.cells #[.int .u8 x', .int .i64 y', .string st', .slice aa' l' cc'] 78)).heap.size = w1.heap.size + 1 := by simp
  have hb2 := (Below.refl w1.heap.size w1).alloc (Nat.le_refl _) (.cells #[.int .u8 x', .int .i64 y', .string st', .slice aa' l' cc'] 78)
  have hb3 := hb2.alloc (by omega) (.cells Tryz.zeroCells58 58)
  have hR := srun_new (w1.alloc (.cells #[.int .u8 x', .int .i64 y', .string st', .slice aa' l' cc'] 78))
  rw [hs2] at hR
  have hs3 : ((w1.alloc (.cells #[.int .u8 x', .int .i64 y', .string st', .slice aa' l' cc'] 78)).alloc (.cells Tryz.zeroCells58 58)).heap.size = w1.heap.size + 2 := by simp
  have hbw : Below w.heap.size w w1 := hb0.trans (hb1.mono (by omega))
  go_wp2_with fail
  generalize (w1.alloc (.cells #[.int .u8 x', .int .i64 y', .string st', .slice aa' l' cc'] 78)).alloc (.cells Tryz.zeroCells58 58) = w3 at hb3 hR hs3 ⊢
  have sf : ∀ g, g < w1.heap.size → SafeS NoX (w1.heap.size + 1) (.slice none 0 0) (.slice none 0 0) w3 g := fun g hg => ⟨by omega, by omega, by simp [Value.ownBlock], by simp [Value.ownBlock], fun h => h⟩
  have EV := hev NoX t 0 e st0 (w1.heap.size + 1) (.slice none 0 0) (.slice none 0 0) _ _ w3 (by simp [st0]) st0_ok hok hR (hrn.keep (fun g hg => ⟨hb3.block g hg.2, sf g hg.2⟩)) (hE.keep (fun g hg => ⟨(hb3.block g (by omega)).trans (hbw.block g hg), sf g (by omega)⟩))
  rw [ho] at EV
  have HO := Lib.hid ho
  clear ho hrn hx0 b0 b1 b2 b3
  go_wp2_with fail
  refine EV.mono ?_
  clear EV
  rcases Ou.cases o with ⟨v, s3, rfl⟩ | hbad
  · rintro e' w4 ⟨x4, cv, av, rfl, hv, hR4, hK4⟩
    obtain ⟨bq, nq, kq, mq, sq, aq, lq, cq, iq, aq2, lq2, cq2, rfl⟩ := hv.form
    have hs4 := hK4.size
    have hb4 : Below w.heap.size w w4 := hbw.trans ⟨hK4.os.trans hb3.os, hK4.tape.trans hb3.tape, hK4.output.trans hb3.output, by omega, fun j hj => (hK4.block j (by omega) (by omega) (by simp [Value.ownBlock]) (by simp [Value.ownBlock])).trans (hb3.block j (by omega))⟩
    have hz4 := (hK4.safe (sf (w.heap.size + 1) (by omega))).1.trans ((hb3.block _ (by omega)).trans ((hb1.block _ (by omega)).trans hz0))
    have hb5 := (Below.refl w4.heap.size w4).alloc (Nat.le_refl _) (.cells #[.bool bq, .int .i64 nq, .int .u8 kq, .int .i64 mq, .string sq, .slice aq lq cq, .int .i64 iq, .slice aq2 lq2 cq2] 114)
    have R := sres_live (w1.heap.size + 1) _ _ v _ (hv.keep (S' := fun _ => True) (w' := w4.alloc (.cells #[.bool bq, .int .i64 nq, .int .u8 kq, .int .i64 mq, .string sq, .slice aq lq cq, .int .i64 iq, .slice aq2 lq2 cq2] 114)) (fun g hg => ⟨hb5.block g hg.1, trivial⟩)) ((hb5.cell (p := ⟨w1.heap.size + 1, 0, none⟩) (by show w1.heap.size + 1 < _; omega)).trans hR4.at.1)
    clear hv
    go_wp2_with fail
    refine R.mono ?_
    clear R
    rintro e' w6 ⟨rfl, hb6⟩
    have hb56 : Below w4.heap.size w4 w6 := hb5.trans (hb6.mono hb5.size)
    have hs6 := hb56.size
    obtain ⟨t0, t1, t2, f0, f1, f2⟩ := three_of ((hb56.block (w.heap.size + 1) (by omega)).trans hz4)
    have own : ∀ j, cv.ownBlock = some j ∨ av.ownBlock = some j → j ≠ w.heap.size + 1 := fun j hj => by
      rcases hK4.own j hj with h | h | h
      · simp [Value.ownBlock] at h
      · simp [Value.ownBlock] at h
      · omega
    obtain ⟨j0, j1, j2⟩ := set_three (u0 := .int .i64 0) (u1 := .bool (isF v)) (u2 := .int .i64 (valN v : Nat)) t0 t1 t2
    go_wp2_with fail
    refine bodyPost_ret (v := .tuple #[rV 0 (isF v) (valN v : Nat), ptr (w1.heap.size + 1)]) (by simp [results, Tryz.results28, go_sem, j0, j1, j2]) rfl ?_
    refine ⟨?_, w1.heap.size + 1, by rw [HO.out]; rfl, by omega, fun v' s' h => ⟨cv, av, ?_⟩⟩
    · exact (((hb4.trans (hb56.mono (by omega))).setCell (p := ⟨w.heap.size + 1, 0, none⟩) (Nat.le_succ _) _).setCell (p := ⟨w.heap.size + 1, 1, none⟩) (Nat.le_succ _) _).setCell (p := ⟨w.heap.size + 1, 2, none⟩) (Nat.le_succ _) _
    · rw [HO.out] at h
      injection h with _ h
      subst h
      have o1 : w.heap.size + 1 ≠ w1.heap.size + 1 := by omega
      exact (((hR4.below hb56).setOther o1 (fun e => own _ (.inl e) rfl) (fun e => own _ (.inr e) rfl) _ _).setOther o1 (fun e => own _ (.inl e) rfl) (fun e => own _ (.inr e) rfl) _ _).setOther o1 (fun e => own _ (.inl e) rfl) (fun e => own _ (.inr e) rfl) _ _
  · intro e' w4 h
    obtain ⟨rfl, hD, cv, av, hK4⟩ := (sPost_bad hbad _ _ _ _ _ _).1 h
    have hs4 := hK4.size
    have hb4 : Below w.heap.size w w4 := hbw.trans ⟨hK4.os.trans hb3.os, hK4.tape.trans hb3.tape, hK4.output.trans hb3.output, by omega, fun j hj => (hK4.block j (by omega) (by omega) (by simp [Value.ownBlock]) (by simp [Value.ownBlock])).trans (hb3.block j (by omega))⟩
    have hz4 := (hK4.safe (sf (w.heap.size + 1) (by omega))).1.trans ((hb3.block _ (by omega)).trans ((hb1.block _ (by omega)).trans hz0))
    have hb5 := (Below.refl w4.heap.size w4).alloc (Nat.le_refl _) (.cells #[.bool false, .int .i64 0, .int .u8 0, .int .i64 0, .string ⟨#[]⟩, .slice none 0 0, .int .i64 0, .slice none 0 0] 114)
    have R := sres_dead (w1.heap.size + 1) (enO o) (w4.alloc (.cells #[.bool false, .int .i64 0, .int .u8 0, .int .i64 0, .string ⟨#[]⟩, .slice none 0 0, .int .i64 0, .slice none 0 0] 114)) false 0 0 0 ⟨#[]⟩ none 0 0 0 none 0 0 ((hb5.cell (p := ⟨w1.heap.size + 1, 0, none⟩) (by show w1.heap.size + 1 < _; omega)).trans hD.c0) hD.ne
    have hres : resO (ev 1501 t 0 e st0) = rV (enO o) false 0 := by
      rw [HO.out]
      cases o with
      | ok v s => exact hbad.elim
      | fault => rfl
      | long => rfl
    have HRS := Lib.hid hres
    clear hres h
    generalize enO o = en at R HRS hD
    go_wp2_with fail
    refine R.mono ?_
    clear R
    rintro e' w6 ⟨rfl, hb6⟩
    have hb56 : Below w4.heap.size w4 w6 := hb5.trans (hb6.mono hb5.size)
    obtain ⟨t0, t1, t2, f0, f1, f2⟩ := three_of ((hb56.block (w.heap.size + 1) (by omega)).trans hz4)
    obtain ⟨j0, j1, j2⟩ := set_three (u0 := .int .i64 en) (u1 := .bool false) (u2 := .int .i64 0) t0 t1 t2
    go_wp2_with fail
    refine bodyPost_ret (v := .tuple #[rV en false 0, ptr (w1.heap.size + 1)]) (by simp [results, Tryz.results28, go_sem, j0, j1, j2]) rfl ?_
    refine ⟨?_, w1.heap.size + 1, by rw [HRS.out], by omega, fun v' s' h => ?_⟩
    · exact (((hb4.trans (hb56.mono (by omega))).setCell (p := ⟨w.heap.size + 1, 0, none⟩) (Nat.le_succ _) _).setCell (p := ⟨w.heap.size + 1, 1, none⟩) (Nat.le_succ _) _).setCell (p := ⟨w.heap.size + 1, 2, none⟩) (Nat.le_succ _) _
    · rw [HO.out] at h
      rw [h] at hbad
      exact hbad.elim
end Go.Proofs.YtjfhncfbejephaaGreatDoor
