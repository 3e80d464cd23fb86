import Derived.Test.YtmkibadkcmljnaaGreatDoorMSd
import Derived.Test.YtmkibadkcmljnaaGreatDoorSuQ
/- Runs by putting: the specification's l4Go. -/
namespace Go.Proofs.YtmkibadkcmljnaaGreatDoor
open Go.RowKit
open Ff
set_option linter.unusedVariables false
attribute [local irreducible] Calls

/-- What l4Go comes to. -/
def GoSP (S : Nat → Prop) (w : World) (p : Tm × Nat) (e : Ending) (w' : World) : Prop := ∃ (z0 z1 : Int) (z2 : ByteArray) (z3 : Option Addr) (z4 z5 : Nat), e = .returned (.tuple #[.agg #[.int .u8 z0, .int .i64 z1, .string z2, .slice z3 z4 z5], .int .i64 (p.2 : Int)]) ∧ Below w.heap.size w w' ∧
  Rep (fun g => S g ∨ New w w' g) w' p.1 (.agg #[.int .u8 z0, .int .i64 z1, .string z2, .slice z3 z4 z5])
theorem rep_end2 {S : Nat → Prop} {w wr w5 : World} {T : Tm} {v : Value} (hS : ∀ g, S g → g < w.heap.size) (hz : wr.heap.size ≤ w5.heap.size) (hb : ∀ g, g < wr.heap.size → w5.heap[g]? = wr.heap[g]?) (room : w.heap.size + 2 ≤ wr.heap.size) (hr : Rep (fun g => S g ∨ Up w wr g) wr T v) (z0 z1 z2 z3 : Value) : Rep (fun g => S g ∨ New w (set4 w5 (w.heap.size + 1) z0 z1 z2 z3) g) (set4 w5 (w.heap.size + 1) z0 z1 z2 z3) T v :=
  hr.keep (fun g hg => (set4_far _ _ _ _ _ _ g (by rcases hg with h | h; have := hS g h; omega; have := h.1; omega)).trans (hb g (by rcases hg with h | h; have := hS g h; omega; exact h.2))) (fun g hg => hg.imp id (fun h => ⟨by have := h.1; omega, by rw [set4_size]; have := h.2; omega⟩))
theorem rep_go {S : Nat → Prop} {w wr w5 : World} {T : Tm} {v : Value} (hS : ∀ g, S g → g < w.heap.size) (room : w.heap.size + 2 ≤ wr.heap.size) (hb : Below wr.heap.size wr w5) (hr : Rep (fun g => (S g ∨ Up w wr g) ∨ New wr w5 g) w5 T v) (o : Obj) (z0 z1 z2 z3 : Value) : Rep (fun g => S g ∨ Up w (set4 (w5.alloc o) w.heap.size z0 z1 z2 z3) g) (set4 (w5.alloc o) w.heap.size z0 z1 z2 z3) T v := by
  have z := hb.size
  have zs : (w5.alloc o).heap.size = w5.heap.size + 1 := by simp
  refine hr.keep (fun g hg => (set4_far _ _ _ _ _ _ g ?_).trans (alloc_far _ _ ?_)) (fun g hg => ?_)
  · rcases hg with (h | h) | h
    · have := hS g h; omega
    · have := h.1; omega
    · have := h.1; omega
  · rcases hg with (h | h) | h
    · have := hS g h; omega
    · have := h.2; omega
    · exact h.2
  · rcases hg with (h | h) | h
    · exact .inl h
    · exact .inr ⟨h.1, by rw [set4_size]; have := h.2; omega⟩
    · exact .inr ⟨by have := h.1; omega, by rw [set4_size]; have := h.2; omega⟩
set_option maxRecDepth 100000 in
set_option maxHeartbeats 8000000 in
theorem sGo_c (S : Nat → Prop) (t : Tm) (v : Value) (w : World) (n : Nat) (hn : n ≤ 300) (h : StateOk t) (hS : ∀ g, S g → g < w.heap.size) (hr0 : Rep S w t v) : Calls Tryz.prog 26 #[v, .int .i64 (n : Int)] w (GoSP S w (goT t n)) := by
  obtain ⟨x0, x1, x2, x3, x4, x5, rfl⟩ := hr0.junk
  have A0 := AtW.new w x0 x1 x2 x3 x4 x5
  unfold GoSP
  go_enter Tryz.func26, Tryz.ntmps26
  go_wp2_with fail
  go_loopw [10] (fun ix wr => ∃ (i : Nat) (y0 y1 : Int) (y2 : ByteArray) (y3 : Option Addr) (y4 y5 : Nat), i ≤ n ∧ ix = .int .i64 i ∧ (goT t i).2 = i ∧ Rep (fun g => S g ∨ Up w wr g) wr (goT t i).1 (.agg #[.int .u8 y0, .int .i64 y1, .string y2, .slice y3 y4 y5]) ∧ AtW w y0 y1 y2 y3 y4 y5 wr) (fun ix _ => n - (intOf ix).toNat)
  case atStart => exact ⟨0, _, _, _, _, _, _, Nat.zero_le _, rfl, rfl, hr0.keep (fun g hg => A0.below.block g (hS g hg)) (fun g hg => .inl hg), A0⟩
  case round =>
    clear A0 hr0
    obtain ⟨i, y0, y1, y2, y3, y4, y5, hi, rfl, hgi, hr, hA⟩ := hrel
    obtain ⟨c0, c1, c2, c3, f0, f1, f2, f3⟩ := cells4 hA.box
    have hroom := hA.room
    by_cases hlt : i < n
    · have hok := goT_ok h i
      have KS := sStep_c (fun g => S g ∨ Up w wr g) (goT t i).1 _ wr hok (fun g hg => by rcases hg with h | h; have := hS g h; omega; exact h.2) hr
      unfold StepSP at KS
      rcases ho : stepT (goT t i).1 with _ | r
      · rw [ho] at KS
        have hgo := goT_stop hgi ho (n - i)
        rw [Nat.add_sub_cancel' hi] at hgo
        have HGO := Lib.hid hgo
        have HS := Lib.hid hS
        clear hgo ho hgi hok h hS
        generalize (goT t i).1 = T at *
        go_wp2_with (go_at_call 20; refine KS.mono ?_; clear KS; rintro e w5 ⟨z0, z1, z2, z3, z4, z5, nm, rfl, hb5, rfl⟩; (have A5 := (hA.keep hb5).alloc (tmO z0 z1 z2 z3 z4 z5)); obtain ⟨b0, b1, b2, b3, _⟩ := cells4 A5.box; obtain ⟨d0, d1, d2, d3, e0, e1, e2, e3⟩ := cells4 A5.res)
        refine bodyPost_ret (v := .tuple #[.agg #[.int .u8 y0, .int .i64 y1, .string y2, .slice y3 y4 y5], .int .i64 (i : Int)]) (by simp [results, Tryz.results26, go_sem, d0, d1, d2, d3]) rfl ?_
        refine ⟨_, _, _, _, _, _, by rw [HGO.out], A5.done _ _ _ _, ?_⟩
        rw [HGO.out]
        exact rep_end2 HS.out (by have := hb5.size; simp; omega) (fun g hg => (alloc_far _ _ (by have := hb5.size; omega)).trans (hb5.block g hg)) hroom hr _ _ _ _
      · rw [ho] at KS
        have hgo := goT_step hgi ho
        have HGO := Lib.hid hgo
        have HS := Lib.hid hS
        clear hgo ho hgi hok hS
        go_wp2_with (go_at_call 20; refine KS.mono ?_; clear KS; rintro e w5 ⟨z0, z1, z2, z3, z4, z5, nm, rfl, hb5, hnm, hne, hr5⟩; (have hnb := nonempty_text hne); (have A5 := (hA.keep hb5).alloc (tmO z0 z1 z2 z3 z4 z5)); obtain ⟨b0, b1, b2, b3, e0, e1, e2, e3⟩ := cells4 A5.box; clear hnm hne)
        exact ⟨⟨i + 1, z0, z1, z2, z3, z4, z5, by omega, by go_num, by rw [HGO.out], by rw [HGO.out]; exact rep_go HS.out hroom hb5 hr5 _ _ _ _ _, A5.store _ _ _ _ _ _⟩, by simp [intOf]; omega⟩
    · obtain rfl : i = n := by omega
      obtain ⟨d0, d1, d2, d3, e0, e1, e2, e3⟩ := cells4 hA.res
      have HGI := Lib.hid hgi
      have HS := Lib.hid hS
      clear hgi hS
      go_wp2_with fail
      refine bodyPost_ret (v := .tuple #[.agg #[.int .u8 y0, .int .i64 y1, .string y2, .slice y3 y4 y5], .int .i64 (i : Int)]) (by simp [results, Tryz.results26, go_sem, d0, d1, d2, d3]) rfl ?_
      refine ⟨_, _, _, _, _, _, by rw [HGI.out], hA.done _ _ _ _, ?_⟩
      exact rep_end HS.out hr _ _ _ _
end Go.Proofs.YtmkibadkcmljnaaGreatDoor
