import Derived.Test.YthjhpfcilaghgaaGreatDoorEvO
import Derived.Test.YthjhpfcilaghgaaGreatDoorSvR
/- The program's runs of closed terms: readClosed, runDone. -/
namespace Go.Proofs.YthjhpfcilaghgaaGreatDoor
open Go.RowKit Go.Shelf
open Ff
set_option linter.unusedVariables false
attribute [local irreducible] Calls

theorem readS_depth24 {s : Text} {t : Tm} (h : readS s = some t) : t.depth ≤ 24 := by
  unfold readS at h
  split at h
  · rcases hp : parse 24 s with _ | ⟨u, r⟩
    · simp [hp] at h
    · have := parse_depth _ _ _ _ hp
      simp only [hp, Option.bind_some] at h
      split at h
      · injection h with h; subst h; exact this
      · cases h
  · cases h
def st0 : St := ⟨0, 0, 0, 0, 0, 0, [], [], []⟩
theorem st0_ok : StB st0 := ⟨by decide, by decide, by decide, by decide, by decide, by decide, rfl, rfl, rfl⟩
theorem tmok_of {s : Text} {t : Tm} (h : readS s = some t) (e : En) (he : EnOk e) (hn : ∀ c ∈ sfree t, c ∈ e.names) (hl : e.names.length ≤ 16) : TmOk t 0 e :=
  ⟨readS_good h, by have := readS_parts h; omega, by have := readS_depth24 h; omega, hn, he⟩
theorem closed_ok {s : Text} {t : Tm} (h : closedS s = some t) : TmOk t 0 .nil := by
  obtain ⟨h1, h2⟩ := closedS_some h
  exact tmok_of h1 .nil .nil (by rw [h2]; simp) (by simp [En.names])
/-- The rows of a runner that has done nothing yet. -/
def rw0 : Rw := ⟨.slice none 0 0, .slice none 0 0⟩
theorem rw0_own (j : Nat) : ¬ rw0.own j := by rintro (h | h) <;> simp [rw0, Value.ownBlock] at h
/-- A new runner. -/
def newR (w : World) : World := w.alloc (.cells #[.int .i64 0, .int .i64 0, .int .i64 0, .int .i64 0, .int .i64 0, .int .i64 1500, .int .i64 0, .slice none 0 0, .slice none 0 0, .int .i64 0, .nilFunc] 66)
theorem newR_size (w : World) : (newR w).heap.size = w.heap.size + 1 := by simp [newR]
theorem newR_below (w : World) : Below w.heap.size w (newR w) := (Below.refl _ w).alloc (Nat.le_refl _) _
theorem newRunner_c (w : World) : Calls Tryz.prog 39 #[.int .i64 1500] w fun e w' => e = .returned (ptr w.heap.size) ∧ w' = newR w := by
  go_enter Tryz.func39, Tryz.ntmps39
  go_wp2_with fail
  go_ret
  exact ⟨rfl, rfl⟩
theorem run_new (w : World) : RunAt NoX w.heap.size rw0 (newR w) st0 :=
  ⟨⟨0, World.alloc_heap_new w _⟩, World.ownsRow_nil _ _ _ _, World.ownsRow_nil _ _ _ _, rfl, fun j h => by simp [rw0, Value.ownBlock] at h, fun g hg => hg.elim⟩
theorem kep_below {r : Nat} {cv : Rw} {w w1 w2 : World} {B : Nat} (hb : Below B w w1) (hB : B ≤ w.heap.size) (hr : B ≤ r) (h : Kep r rw0 w1 cv w2) : Below B w w2 :=
  hb.trans ⟨h.os, h.tape, h.output, h.size, fun j hj => h.block j (by have := hb.size; omega) (by omega) (rw0_own j)⟩
def icl (o : Option Tm) : Value := match o with | some t => .tuple #[enc t, .bool true] | none => .tuple #[.nilIface, .bool false]
set_option maxRecDepth 100000 in
set_option maxHeartbeats 2000000 in
theorem iclosed_c (s : Text) (w : World) (hl : s.length ≤ 9223372036854775807) :
    Calls Tryz.prog 45 #[.string ⟨s.toArray⟩] w fun e w' => e = .returned (icl (closedS s)) ∧ Below w.heap.size w w' := by
  have C := read_c s w hl
  go_enter Tryz.func45, Tryz.ntmps45
  go_wp2_with fail
  refine C.mono ?_
  clear C
  rcases hr : readT s with _ | t
  · rintro e w1 ⟨rfl, hb1⟩
    have hc : closedS s = none := by unfold closedS; rw [readS_eq, hr]; rfl
    have HC := Lib.hid hc
    clear hr hc
    go_wp2_with fail
    go_ret2
    exact ⟨by rw [HC.out]; rfl, hb1⟩
  · rintro e w1 ⟨rfl, hb1⟩
    have hs := readS_eq s ▸ hr
    have D := freeIn_c 4000 t w1 (by have := readS_depth hs; omega) (by omega) (by have := readS_parts hs; omega) (readS_good hs)
    have hf := free_nil (readS_good hs)
    have hp := readS_parts hs
    have hc : closedS s = if sfree t = [] then some t else none := by unfold closedS; rw [hs]; rfl
    rw [enc_ty t] at D ⊢
    have HC := Lib.hid hc
    have HF := Lib.hid hf
    clear hr hs hf hc
    by_cases h0 : sfree t = []
    · have HC2 := Lib.hid (HC.out.trans (if_pos h0))
      clear HC
      go_wp2_with (go_at_call 37; refine D.mono ?_; clear D; rintro e w2 ⟨b, k, rfl, hbw, hk, hT, hb2⟩; obtain ⟨n, hn0, hnk, hlen⟩ := hT.len; rw [← HF.out] at hn0; obtain rfl : n = 0 := hn0.2 h0)
      go_ret2
      exact ⟨by rw [HC2.out]; show _ = Ending.returned (.tuple #[enc t, .bool true]); rw [enc_ty]; rfl, hb1.trans (hb2.mono hb1.size)⟩
    · have HC2 := Lib.hid (HC.out.trans (if_neg h0))
      clear HC
      go_wp2_with (go_at_call 37; refine D.mono ?_; clear D; rintro e w2 ⟨b, k, rfl, hbw, hk, hT, hb2⟩; obtain ⟨n, hn0, hnk, hlen⟩ := hT.len; rw [← HF.out] at hn0; have hpos : (0 : Int) < n := by rcases Nat.eq_zero_or_pos n with h | h; exact absurd (hn0.1 h) h0; omega)
      go_ret2
      exact ⟨by rw [HC2.out]; rfl, hb1.trans (hb2.mono hb1.size)⟩
/-- What a closed term's run has done that ends well. -/
def doneO (s : Text) : Option St := (closedS s).bind fun t => match ev 1501 t 0 .nil st0 with | .ok _ s2 => some s2 | _ => none
def IDoneP (w : World) (o : Option St) (e : Ending) (w' : World) : Prop := match o with
  | none => e = .returned (.tuple #[.pointer none, .bool false])
  | some s2 => ∃ r cv, e = .returned (.tuple #[ptr r, .bool true]) ∧ w.heap.size ≤ r ∧ RunAt NoX r cv w' s2
set_option maxRecDepth 100000 in
set_option maxHeartbeats 4000000 in
theorem idone_c (s : Text) (w : World) (hl : s.length ≤ 9223372036854775807) (hg : ErrT w) :
    Calls Tryz.prog 30 #[.string ⟨s.toArray⟩] w fun e w' => IDoneP w (doneO s) e w' ∧ Below w.heap.size w w' := by
  have C := iclosed_c s w hl
  have hpos := hg.pos
  have hff : ∀ (a b c : Value) (w : World), (Instr.field 23 (.agg #[a, b, c]) 0).run Tryz.prog w = .ok a w := fun _ _ _ _ => rfl
  go_enter Tryz.func30, Tryz.ntmps30
  go_wp2_with fail
  refine C.mono ?_
  clear C
  rcases hr : closedS s with _ | t
  · rintro e w1 ⟨rfl, hb1⟩
    have hd : doneO s = none := by unfold doneO; rw [hr]; rfl
    have HD := Lib.hid hd
    clear hr hd
    unfold icl
    go_wp2_with fail
    go_ret2
    exact ⟨by rw [HD.out]; rfl, hb1⟩
  · rintro e w1 ⟨rfl, hb1⟩
    have hok := closed_ok hr
    have hs1 := hb1.size
    have hdp := readS_depth (closedS_some hr).1
    have hd : doneO s = match ev 1501 t 0 .nil st0 with | .ok _ s2 => some s2 | _ => none := by unfold doneO; rw [hr]; rfl
    have hb2 := newR_below w1
    have hn2 := newR_size w1
    have hg2 : ErrT (newR w1) := (hb2.cell (p := ⟨0, 0, none⟩) (by show 0 < w1.heap.size; omega)).trans ((hb1.cell (p := ⟨0, 0, none⟩) hpos).trans hg)
    have R := run_c 1501 t .nil st0 w1.heap.size rw0 (.pointer none) (newR w1) (by simp [st0]) st0_ok hok (run_new w1) .nil hg2 ⟨by omega, by omega, rw0_own _, fun h => h⟩ (by omega)
    have NR := newRunner_c w1
    generalize newR w1 = W2 at R NR hb2 hn2 hg2
    obtain ⟨o, ho⟩ : ∃ o, ev 1501 t 0 .nil st0 = o := ⟨_, rfl⟩
    rw [ho] at R hd
    have HD := Lib.hid hd
    simp only [icl, enc_ty t] at R ⊢
    clear hr hd ho hok
    go_wp2_with fail
    refine NR.mono ?_
    clear NR
    rintro e w2 ⟨rfl, rfl⟩
    go_wp2_with fail
    refine R.mono ?_
    rcases Ou.cases o with ⟨v, s3, rfl⟩ | hbad
    · rintro e w3 ⟨rfl, cv, s4, hR4, hK4, h4⟩
      obtain rfl := h4 v s3 rfl
      simp only [resO, rV]
      go_wp2_with fail
      go_ret2
      refine ⟨?_, kep_below (hb1.trans (hb2.mono hs1)) (Nat.le_refl _) hs1 hK4⟩
      rw [HD.out]
      exact ⟨_, cv, rfl, hs1, hR4⟩
    · rintro e w3 ⟨rfl, cv, s4, hR4, hK4, h4⟩
      cases o with
      | ok v s => exact hbad.elim
      | fault =>
        simp only [resO, rV]
        go_wp2_with fail
        go_ret2
        exact ⟨by rw [HD.out]; rfl, kep_below (hb1.trans (hb2.mono hs1)) (Nat.le_refl _) hs1 hK4⟩
      | long =>
        simp only [resO, rV]
        go_wp2_with fail
        go_ret2
        exact ⟨by rw [HD.out]; rfl, kep_below (hb1.trans (hb2.mono hs1)) (Nat.le_refl _) hs1 hK4⟩
end Go.Proofs.YthjhpfcilaghgaaGreatDoor
