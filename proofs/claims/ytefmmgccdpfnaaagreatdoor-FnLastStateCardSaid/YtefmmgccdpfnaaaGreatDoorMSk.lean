import Derived.Test.YtefmmgccdpfnaaaGreatDoorMSd
import Derived.Test.YtefmmgccdpfnaaaGreatDoorMPy
import Derived.Test.YtefmmgccdpfnaaaGreatDoorMSh
import Derived.Test.YtefmmgccdpfnaaaGreatDoorMSj
/- Runs by putting: the specification's l4Go. -/
namespace Go.Proofs.YtefmmgccdpfnaaaGreatDoor
open Go.RowKit
open Ff
set_option linter.unusedVariables false
attribute [local irreducible] Calls

/-- What l4Go comes to. -/
def GoSP (S : Nat → Prop) (w : World) (p : Tm × Nat) (e : Ending) (w' : World) : Prop := ∃ (z0 z1 : Int) (z2 : ByteArray) (z3 : Option Addr) (z4 z5 : Nat), e = .returned (.tuple #[.agg #[.int .u8 z0, .int .i64 z1, .string z2, .slice z3 z4 z5], .int .i64 (p.2 : Int)]) ∧ Below w.heap.size w w' ∧
  Rep (fun g => S g ∨ New w w' g) w' p.1 (.agg #[.int .u8 z0, .int .i64 z1, .string z2, .slice z3 z4 z5])
theorem rep_end2 {S : Nat → Prop} {w wr w5 : World} {T : Tm} {v : Value} (hS : ∀ g, S g → g < w.heap.size) (hz : wr.heap.size ≤ w5.heap.size) (hb : ∀ g, g < wr.heap.size → w5.heap[g]? = wr.heap[g]?) (room : w.heap.size + 2 ≤ wr.heap.size) (hr : Rep (fun g => S g ∨ Up w wr g) wr T v) (z0 z1 z2 z3 : Value) : Rep (fun g => S g ∨ New w (set4 w5 (w.heap.size + 1) z0 z1 z2 z3) g) (set4 w5 (w.heap.size + 1) z0 z1 z2 z3) T v :=
  hr.keep (fun g hg => (set4_far _ _ _ _ _ _ g (by rcases hg with h | h; have := hS g h; omega; have := h.1; omega)).trans (hb g (by rcases hg with h | h; have := hS g h; omega; exact h.2))) (fun g hg => hg.imp id (fun h => ⟨by have := h.1; omega, by rw [set4_size]; have := h.2; omega⟩))
theorem rep_go {S : Nat → Prop} {w wr w5 : World} {T : Tm} {v : Value} (hS : ∀ g, S g → g < w.heap.size) (room : w.heap.size + 2 ≤ wr.heap.size) (hb : Below wr.heap.size wr w5) (hr : Rep (fun g => (S g ∨ Up w wr g) ∨ New wr w5 g) w5 T v) (o : Obj) (z0 z1 z2 z3 : Value) : Rep (fun g => S g ∨ Up w (set4 (w5.alloc o) w.heap.size z0 z1 z2 z3) g) (set4 (w5.alloc o) w.heap.size z0 z1 z2 z3) T v := by
  have z := hb.size
  have zs : (w5.alloc o).heap.size = w5.heap.size + 1 := by simp
  refine hr.keep (fun g hg => (set4_far _ _ _ _ _ _ g ?_).trans (alloc_far _ _ ?_)) (fun g hg => ?_)
  · rcases hg with (h | h) | h
    · have := hS g h; omega
    · have := h.1; omega
    · have := h.1; omega
  · rcases hg with (h | h) | h
    · have := hS g h; omega
    · have := h.2; omega
    · exact h.2
  · rcases hg with (h | h) | h
    · exact .inl h
    · exact .inr ⟨h.1, by rw [set4_size]; have := h.2; omega⟩
    · exact .inr ⟨by have := h.1; omega, by rw [set4_size]; have := h.2; omega⟩
set_option maxRecDepth 100000 in
set_option maxHeartbeats 8000000 in
theorem sGo_c (S : Nat → Prop) (t : Tm) (v : Value) (w : World) (n : Nat) (hn : n ≤ 300) (h : StateOk t) (hS : ∀ g, S g → g < w.heap.size) (hr0 : Rep S w t v) : Calls Tryz.prog 50 #[v, .int .i64 (n : Int)] w (GoSP S w (goT t n)) := by
  obtain ⟨x0, x1, x2, x3, x4, x5, rfl⟩ := hr0.junk
  have A0 := AtW.new w x0 x1 x2 x3 x4 x5
  unfold GoSP
  go_enter Tryz.func50, Tryz.ntmps50
  go_wp2_with fail
  go_loopw [10] (fun ix wr => ∃ (i : Nat) (y0 y1 : Int) (y2 : ByteArray) (y3 : Option Addr) (y4 y5 : Nat), i ≤ n ∧ ix = .int .i64 i ∧ (goT t i).2 = i ∧ Rep (fun g => S g ∨ Up w wr g) wr (goT t i).1 (.agg #[.int .u8 y0, .int .i64 y1, .string y2, .slice y3 y4 y5]) ∧ AtW w y0 y1 y2 y3 y4 y5 wr) (fun ix _ => n - (intOf ix).toNat)
  case atStart => exact ⟨0, _, _, _, _, _, _, Nat.zero_le _, rfl, rfl, hr0.keep (fun g hg => A0.below.block g (hS g hg)) (fun g hg => .inl hg), A0⟩
  case round =>
    clear A0 hr0
    obtain ⟨i, y0, y1, y2, y3, y4, y5, hi, rfl, hgi, hr, hA⟩ := hrel
    obtain ⟨c0, c1, c2, c3, f0, f1, f2, f3⟩ := cells4 hA.box
    have hroom := hA.room
    by_cases hlt : i < n
    · have hok := goT_ok h i
      have KS := sStep_c (fun g => S g ∨ Up w wr g) (goT t i).1 _ wr hok (fun g hg => by rcases hg with h | h; have := hS g h; omega; exact h.2) hr
      unfold StepSP at KS
      rcases ho : stepT (goT t i).1 with _ | r
      · rw [ho] at KS
        have hgo := goT_stop hgi ho (n - i)
        rw [Nat.add_sub_cancel' hi] at hgo
        have HGO := Lib.hid hgo
        have HS := Lib.hid hS
        clear hgo ho hgi hok h hS
        generalize (goT t i).1 = T at *
        go_wp2_with (go_at_call 36; refine KS.mono ?_; clear KS; rintro e w5 ⟨z0, z1, z2, z3, z4, z5, nm, rfl, hb5, rfl⟩; (have A5 := (hA.keep hb5).alloc (tmO z0 z1 z2 z3 z4 z5)); obtain ⟨b0, b1, b2, b3, _⟩ := cells4 A5.box; obtain ⟨d0, d1, d2, d3, e0, e1, e2, e3⟩ := cells4 A5.res)
        refine bodyPost_ret (v := .tuple #[.agg #[.int .u8 y0, .int .i64 y1, .string y2, .slice y3 y4 y5], .int .i64 (i : Int)]) (by simp [results, Tryz.results50, go_sem, d0, d1, d2, d3]) rfl ?_
        refine ⟨_, _, _, _, _, _, by rw [HGO.out], A5.done _ _ _ _, ?_⟩
        rw [HGO.out]
        exact rep_end2 HS.out (by have := hb5.size; simp; omega) (fun g hg => (alloc_far _ _ (by have := hb5.size; omega)).trans (hb5.block g hg)) hroom hr _ _ _ _
      · rw [ho] at KS
        have hgo := goT_step hgi ho
        have HGO := Lib.hid hgo
        have HS := Lib.hid hS
        clear hgo ho hgi hok hS
        go_wp2_with (go_at_call 36; refine KS.mono ?_; clear KS; rintro e w5 ⟨z0, z1, z2, z3, z4, z5, nm, rfl, hb5, hnm, hne, hr5⟩; (have hnb := nonempty_text hne); (have A5 := (hA.keep hb5).alloc (tmO z0 z1 z2 z3 z4 z5)); obtain ⟨b0, b1, b2, b3, e0, e1, e2, e3⟩ := cells4 A5.box; clear hnm hne)
        exact ⟨⟨i + 1, z0, z1, z2, z3, z4, z5, by omega, by go_num, by rw [HGO.out], by rw [HGO.out]; exact rep_go HS.out hroom hb5 hr5 _ _ _ _ _, A5.store _ _ _ _ _ _⟩, by simp [intOf]; omega⟩
    · obtain rfl : i = n := by omega
      obtain ⟨d0, d1, d2, d3, e0, e1, e2, e3⟩ := cells4 hA.res
      have HGI := Lib.hid hgi
      have HS := Lib.hid hS
      clear hgi hS
      go_wp2_with fail
      refine bodyPost_ret (v := .tuple #[.agg #[.int .u8 y0, .int .i64 y1, .string y2, .slice y3 y4 y5], .int .i64 (i : Int)]) (by simp [results, Tryz.results50, go_sem, d0, d1, d2, d3]) rfl ?_
      refine ⟨_, _, _, _, _, _, by rw [HGI.out], hA.done _ _ _ _, ?_⟩
      exact rep_end HS.out hr _ _ _ _
end Go.Proofs.YtefmmgccdpfnaaaGreatDoor

/- The specification's RunByPutting, CountPuts, LastState; the laws. -/
namespace Go.Proofs.YtefmmgccdpfnaaaGreatDoor
open Go.RowKit
open Ff
set_option linter.unusedVariables false
attribute [local irreducible] goT runN Calls

theorem going {w w1 : World} {t : Tm} (h : StateOk t) (x0 x1 : Int) (x2 : ByteArray) (x3 : Option Addr) (x4 x5 : Nat) (hr : Rep (New w w1) w1 t (.agg #[.int .u8 x0, .int .i64 x1, .string x2, .slice x3 x4 x5])) (n : Nat) (hn : n ≤ 300) (W : World) (hW : Below w1.heap.size w1 W) :
    Calls Tryz.prog 50 #[.agg #[.int .u8 x0, .int .i64 x1, .string x2, .slice x3 x4 x5], .int .i64 (n : Int)] W fun e w' => ∃ (z0 z1 : Int) (z2 : ByteArray) (z3 : Option Addr) (z4 z5 : Nat), e = .returned (.tuple #[.agg #[.int .u8 z0, .int .i64 z1, .string z2, .slice z3 z4 z5], .int .i64 ((goT t n).2 : Int)]) ∧ Below W.heap.size W w' ∧
      Rep (fun g => g < w'.heap.size) w' (goT t n).1 (.agg #[.int .u8 z0, .int .i64 z1, .string z2, .slice z3 z4 z5]) :=
  (sGo_c (New w w1) t _ W n hn h (fun g hg => by have := hg.2; have := hW.size; omega) (hr.keep (fun g hg => hW.block g hg.2) (fun g hg => hg))).mono fun e w' ⟨z0, z1, z2, z3, z4, z5, h1, h2, h3⟩ =>
    ⟨z0, z1, z2, z3, z4, z5, h1, h2, h3.keep (fun _ _ => rfl) (fun g hg => by rcases hg with h | h; have := h.2; have := h2.size; have := hW.size; omega; exact h.2)⟩
theorem low_alloc {W : World} {T : Tm} {v : Value} (h : Rep (fun g => g < W.heap.size) W T v) (o : Obj) : Rep (fun g => g < (W.alloc o).heap.size) (W.alloc o) T v := h.keep (fun g hg => alloc_far _ _ hg) (fun g hg => by simp; omega)
theorem low_keep {W W' : World} {T : Tm} {v : Value} (h : Rep (fun g => g < W.heap.size) W T v) (hb : Below W.heap.size W W') : Rep (fun g => g < W'.heap.size) W' T v := h.keep (fun g hg => hb.block g hg) (fun g hg => by have := hb.size; omega)
set_option maxRecDepth 100000 in
set_option maxHeartbeats 4000000 in
theorem sCountPuts_c (s : Text) (w : World) (hl : s.length ≤ 9223372036854775807) :
    Calls Tryz.prog 24 #[.string ⟨s.toArray⟩] w fun e w' => e = .returned (.int .i64 (cpV (runsO s))) ∧ Below w.heap.size w w' := by
  have C := fun W => sclosed_c s W hl
  unfold runsO
  unfold ClosedPost at C
  rcases hs : closedS s with _ | t
  · rw [hs] at C
    simp only [Option.map_none, cpV]
    clear hs
    go_enter Tryz.func24, Tryz.ntmps24
    go_wp2_with (go_at_call 48; refine (C _).mono ?_; clear C; rintro e w1 ⟨hb1, v, ⟨x0, x1, x2, x3, x4, x5, rfl⟩, rfl, _⟩)
    go_ret
    exact ⟨rfl, hb1.alloc hb1.size _⟩
  · rw [hs] at C
    simp only [Option.map_some, cpV]
    have h := closed_state hs
    have hok := goT_ok h 300
    clear hs
    have KG := fun w1 x0 x1 x2 x3 x4 x5 hr W hW => going (w := w) (w1 := w1) h x0 x1 x2 x3 x4 x5 hr 300 (Nat.le_refl _) W hW
    generalize (goT t 300).1 = T at *
    generalize (goT t 300).2 = N at *
    have KV := fun (S : Nat → Prop) (w : World) z0 z1 z2 z3 z4 z5 (hr : Rep S w T (.agg #[.int .u8 z0, .int .i64 z1, .string z2, .slice z3 z4 z5])) W => val_c hok.good hr W
    clear hok h
    generalize T.isVal = bv at *
    cases bv
    all_goals
      simp only [if_true, Bool.false_eq_true, if_false]
      go_enter Tryz.func24, Tryz.ntmps24
      go_wp2_with (first
        | (go_at_call 48; refine (C _).mono ?_; clear C; rintro e w1 ⟨hb1, v, ⟨x0, x1, x2, x3, x4, x5, rfl⟩, rfl, hr1⟩; (have t1 : Below w1.heap.size w1 (w1.alloc (tmO x0 x1 x2 x3 x4 x5)) := (Below.refl _ _).alloc (Nat.le_refl _) _); (have K1 := KG w1 x0 x1 x2 x3 x4 x5 (hr1 t rfl) _ t1); clear KG hr1)
        | (go_at_call 50; refine K1.mono ?_; clear K1; rintro e w2 ⟨z0, z1, z2, z3, z4, z5, rfl, hb2, hr2⟩; (have K2 := fun W => KV _ _ z0 z1 z2 z3 z4 z5 hr2 W); clear KV)
        | (go_at_call 51; refine (K2 _).mono ?_; clear K2; rintro e w3 ⟨rfl, hb3⟩))
      go_ret
      have q2 := (hb1.trans ((t1.trans (hb2.mono t1.size)).mono hb1.size)).alloc (by have := hb1.size; have := t1.size; have := hb2.size; omega) (tmO z0 z1 z2 z3 z4 z5)
      exact ⟨rfl, q2.trans (hb3.mono q2.size)⟩
set_option maxRecDepth 100000 in
set_option maxHeartbeats 4000000 in
theorem sLast_c (s : Text) (w : World) (hl : s.length ≤ 9223372036854775807) :
    Calls Tryz.prog 22 #[.string ⟨s.toArray⟩] w fun e w' => e = .returned (lsV (runsO s)) ∧ Below w.heap.size w w' := by
  have C := fun W => sclosed_c s W hl
  unfold runsO
  unfold ClosedPost at C
  rcases hs : closedS s with _ | t
  · rw [hs] at C
    simp only [Option.map_none, lsV]
    clear hs
    go_enter Tryz.func22, Tryz.ntmps22
    go_wp2_with (go_at_call 48; refine (C _).mono ?_; clear C; rintro e w1 ⟨hb1, v, ⟨x0, x1, x2, x3, x4, x5, rfl⟩, rfl, _⟩)
    go_ret2
    exact ⟨rfl, hb1.alloc hb1.size _⟩
  · rw [hs] at C
    simp only [Option.map_some, lsV]
    have h := closed_state hs
    have hok := goT_ok h 300
    clear hs
    have KG := fun w1 x0 x1 x2 x3 x4 x5 hr W hW => going (w := w) (w1 := w1) h x0 x1 x2 x3 x4 x5 hr 300 (Nat.le_refl _) W hW
    generalize (goT t 300).1 = T at *
    generalize (goT t 300).2 = N at *
    have KT := fun (z0 z1 : Int) z2 z3 z4 z5 (W : World) (hr : Rep (fun g => g < W.heap.size) W T (.agg #[.int .u8 z0, .int .i64 z1, .string z2, .slice z3 z4 z5])) => stext_c 4000 T W.heap.size _ W (by have := hok.deep; omega) (Nat.le_refl _) (by have := hok.many; omega) hr (Nat.le_refl _) hok.good
    clear hok h
    go_enter Tryz.func22, Tryz.ntmps22
    go_wp2_with (first
      | (go_at_call 48; refine (C _).mono ?_; clear C; rintro e w1 ⟨hb1, v, ⟨x0, x1, x2, x3, x4, x5, rfl⟩, rfl, hr1⟩; (have t1 : Below w1.heap.size w1 (w1.alloc (tmO x0 x1 x2 x3 x4 x5)) := (Below.refl _ _).alloc (Nat.le_refl _) _); (have K1 := KG w1 x0 x1 x2 x3 x4 x5 (hr1 t rfl) _ t1); clear KG hr1)
      | (go_at_call 50; refine K1.mono ?_; clear K1; rintro e w2 ⟨z0, z1, z2, z3, z4, z5, rfl, hb2, hr2⟩; (have K2 := KT z0 z1 z2 z3 z4 z5 _ (low_alloc hr2 (tmO z0 z1 z2 z3 z4 z5))); clear KT)
      | (go_at_call 37; refine K2.mono ?_; clear K2; rintro e w3 ⟨rfl, hb3⟩))
    go_ret2
    have q2 := (hb1.trans ((t1.trans (hb2.mono t1.size)).mono hb1.size)).alloc (by have := hb1.size; have := t1.size; have := hb2.size; omega) (tmO z0 z1 z2 z3 z4 z5)
    exact ⟨rfl, q2.trans (hb3.mono q2.size)⟩
end Go.Proofs.YtefmmgccdpfnaaaGreatDoor
