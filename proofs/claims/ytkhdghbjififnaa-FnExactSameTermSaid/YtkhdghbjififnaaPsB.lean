import Derived.Test.YtkhdghbjififnaaPsA
import Derived.Test.YtkhdghbjififnaaMUq
import Derived.Deep.RegionHeld3
/- The specification's putting under a binder. -/
namespace Go.Proofs.Ytkhdghbjififnaa
open Go.RowKit
open Ff
set_option linter.unusedVariables false

theorem cells4 {w : World} {b : Nat} {z0 z1 z2 z3 : Value} {t : TypeId} (h : w.heap[b]? = some (.cells #[z0, z1, z2, z3] t (0, 0))) : w.cell? ⟨b, 0, none⟩ = some z0 ∧ w.cell? ⟨b, 1, none⟩ = some z1 ∧ w.cell? ⟨b, 2, none⟩ = some z2 ∧ w.cell? ⟨b, 3, none⟩ = some z3 ∧ w.frozen? ⟨b, 0, none⟩ = false ∧ w.frozen? ⟨b, 1, none⟩ = false ∧ w.frozen? ⟨b, 2, none⟩ = false ∧ w.frozen? ⟨b, 3, none⟩ = false := by
  refine ⟨?_, ?_, ?_, ?_, ?_, ?_, ?_, ?_⟩ <;> simp [World.cell?, World.frozen?, h]
abbrev tmO (k n : Int) (s : ByteArray) (a : Option Addr) (l c : Nat) : Obj := .cells #[.int .u8 k, .int .i64 n, .string s, .slice a l c] 30
abbrev set4 (W : World) (b : Nat) (z0 z1 z2 z3 : Value) : World := (((W.setCell ⟨b, 0, none⟩ z0).setCell ⟨b, 1, none⟩ z1).setCell ⟨b, 2, none⟩ z2).setCell ⟨b, 3, none⟩ z3
theorem set4_far (W : World) (b : Nat) (z0 z1 z2 z3 : Value) (g : Nat) (h : g ≠ b) : (set4 W b z0 z1 z2 z3).heap[g]? = W.heap[g]? :=
  (Below.heap_setCell _ _ _ _ (by simpa using h)).trans ((Below.heap_setCell _ _ _ _ (by simpa using h)).trans ((Below.heap_setCell _ _ _ _ (by simpa using h)).trans (Below.heap_setCell _ _ _ _ (by simpa using h))))
theorem set4_size (W : World) (b : Nat) (z0 z1 z2 z3 : Value) : (set4 W b z0 z1 z2 z3).heap.size = W.heap.size := by simp [World.setCell]
theorem set4_below {B b : Nat} {w W : World} (h : Below B w W) (hb : B ≤ b) (z0 z1 z2 z3 : Value) : Below B w (set4 W b z0 z1 z2 z3) :=
  (((h.setCell (p := ⟨b, 0, none⟩) hb _).setCell (p := ⟨b, 1, none⟩) hb _).setCell (p := ⟨b, 2, none⟩) hb _).setCell (p := ⟨b, 3, none⟩) hb _
theorem alloc_here (w : World) (o : Obj) : (w.alloc o).heap[w.heap.size]? = some o := World.alloc_heap_new w o
theorem alloc_far (w : World) (o : Obj) {g : Nat} (h : g < w.heap.size) : (w.alloc o).heap[g]? = w.heap[g]? := Below.heap_alloc _ _ _ h
/-- The three boxes of l2Under: the body, what is put, the result. -/
structure UnW (w : World) (k n : Int) (s : ByteArray) (a : Option Addr) (l c : Nat) (k' n' : Int) (s' : ByteArray) (a' : Option Addr) (l' c' : Nat) (W : World) : Prop where
  body : W.heap[w.heap.size]? = some (tmO k n s a l c)
  put : W.heap[w.heap.size + 1]? = some (tmO k' n' s' a' l' c')
  res : W.heap[w.heap.size + 1 + 1]? = some (tmO 0 0 ⟨#[]⟩ none 0 0)
  below : Below w.heap.size w W
  size : w.heap.size + 3 ≤ W.heap.size
theorem UnW.keep {w W W' : World} {k n : Int} {s : ByteArray} {a : Option Addr} {l c : Nat} {k' n' : Int} {s' : ByteArray} {a' : Option Addr} {l' c' : Nat} (h : UnW w k n s a l c k' n' s' a' l' c' W) (hb : Below W.heap.size W W') : UnW w k n s a l c k' n' s' a' l' c' W' := by
  have hs := h.size
  exact ⟨(hb.block _ (by omega)).trans h.body, (hb.block _ (by omega)).trans h.put, (hb.block _ (by omega)).trans h.res, h.below.trans (hb.mono (by omega)), by have := hb.size; omega⟩
theorem UnW.new (w : World) (k n : Int) (s : ByteArray) (a : Option Addr) (l c : Nat) (k' n' : Int) (s' : ByteArray) (a' : Option Addr) (l' c' : Nat) : UnW w k n s a l c k' n' s' a' l' c' (((w.alloc (tmO k n s a l c)).alloc (tmO k' n' s' a' l' c')).alloc (tmO 0 0 ⟨#[]⟩ none 0 0)) := by
  have z1 : (w.alloc (tmO k n s a l c)).heap.size = w.heap.size + 1 := by simp
  have z2 : ((w.alloc (tmO k n s a l c)).alloc (tmO k' n' s' a' l' c')).heap.size = w.heap.size + 1 + 1 := by simp
  refine ⟨?_, ?_, ?_, ?_, ?_⟩
  · rw [alloc_far _ _ (by omega), alloc_far _ _ (by omega)]; exact alloc_here _ _
  · rw [alloc_far _ _ (by omega), ← z1]; exact alloc_here _ _
  · rw [← z2]; exact alloc_here _ _
  · exact (below_two w _ _).alloc (by omega) _
  · simp
/-- What putting under a binder comes to. -/
def UndSP (S : Nat → Prop) (w : World) (r : Text × Tm × Bool) (e : Ending) (w' : World) : Prop := ∃ v, e = .returned (.tuple #[.string ⟨r.1.toArray⟩, v, .bool r.2.2]) ∧ Below w.heap.size w w' ∧ Rep (fun g => S g ∨ New w w' g) w' r.2.1 v
set_option maxRecDepth 100000 in
set_option maxHeartbeats 4000000 in
theorem under_none (S : Nat → Prop) (x : UInt8) (ns : Text) (b u : Tm) (vb vu : Value) (w : World) (hS : ∀ g, S g → g < w.heap.size) (hrb : Rep S w b vb) (hru : Rep S w u vu) (hd : b.depth ≤ 4000) (hp : (parts b).length ≤ 1000000) (hg : b.good) (hns : ns.length ≤ 2)
    (h : x ∈ ns ∨ cntF b x = 0) : Calls Try.prog 36 #[.string ⟨ns.toArray⟩, vb, .string ⟨([x] : Text).toArray⟩, vu] w (UndSP S w (ns, b, true)) := by
  obtain ⟨b0, b1, b2, b3, b4, b5, rfl⟩ := hrb.junk
  obtain ⟨u0, u1, u2, u3, u4, u5, rfl⟩ := hru.junk
  have U0 := UnW.new w b0 b1 b2 b3 b4 b5 u0 u1 u2 u3 u4 u5
  have KF := fun w' => find_c ns x w' (by omega)
  have hfi := findI_mem x ns
  go_enter Try.func36, Try.ntmps36
  by_cases hx : x ∈ ns
  · have hpos : (0 : Int) ≤ findI x ns := by
      apply Classical.byContradiction
      intro hn
      exact hfi.1 (by omega) hx
    clear hfi h
    go_wp2_with (go_at_call 14; refine (KF _).mono ?_; clear KF; rintro e w1 ⟨rfl, hw1⟩; have U1 : UnW w b0 b1 b2 b3 b4 b5 u0 u1 u2 u3 u4 u5 w1 := (by rw [hw1]; exact U0); clear hw1 U0)
    obtain ⟨c0, c1, c2, c3, _⟩ := cells4 U1.body
    obtain ⟨r0, r1, r2, r3, f0, f1, f2, f3⟩ := cells4 U1.res
    have hu1 := U1.below
    have hz1 := U1.size
    go_region
    all_goals go_wp2_with fail
    all_goals refine bodyPost_ret (v := .tuple #[.string ⟨ns.toArray⟩, .agg #[.int .u8 b0, .int .i64 b1, .string b2, .slice b3 b4 b5], .bool true]) (by simp [results, Try.results36, go_sem, r0, r1, r2, r3]) rfl ?_
    all_goals refine ⟨_, rfl, ?_, hrb.keep (fun g hg => ?_) (fun g hg => .inl hg)⟩
    all_goals first
      | exact (set4_below hu1 (by omega) _ _ _ _)
      | exact (set4_below hu1 (by omega) _ _ _ _).drew
      | exact (set4_below hu1.drew (by omega) _ _ _ _)
      | (have := hS g hg; exact (set4_far _ _ _ _ _ _ g (by omega)).trans (hu1.block g (by omega)))
  · have hneg : findI x ns < 0 := hfi.2 hx
    have hc0 : cntF b x = 0 := h.resolve_left hx
    have KC := fun W (hW : Below w.heap.size w W) => count_c 4000 b x w.heap.size (.agg #[.int .u8 b0, .int .i64 b1, .string b2, .slice b3 b4 b5]) W hd (Nat.le_refl _) hp (hrb.keep (fun g hg => hW.block g (hS g hg)) (fun g hg => hS g hg)) hW.size hg
    rw [hc0] at KC
    clear hfi h hc0
    go_wp2_with (first
      | (go_at_call 14; refine (KF _).mono ?_; clear KF; rintro e w1 ⟨rfl, hw1⟩; have U1 : UnW w b0 b1 b2 b3 b4 b5 u0 u1 u2 u3 u4 u5 w1 := (by rw [hw1]; exact U0); clear hw1 U0; obtain ⟨d0, d1, d2, d3, _⟩ := cells4 U1.body)
      | (go_at_call 61; refine (KC _ U1.below).mono ?_; clear KC; rintro e w2 ⟨rfl, hb2⟩; replace U1 := U1.keep hb2))
    clear d0 d1 d2 d3
    obtain ⟨c0, c1, c2, c3, _⟩ := cells4 U1.body
    obtain ⟨r0, r1, r2, r3, f0, f1, f2, f3⟩ := cells4 U1.res
    have hu1 := U1.below
    have hz1 := U1.size
    go_region
    all_goals go_wp2_with fail
    all_goals refine bodyPost_ret (v := .tuple #[.string ⟨ns.toArray⟩, .agg #[.int .u8 b0, .int .i64 b1, .string b2, .slice b3 b4 b5], .bool true]) (by simp [results, Try.results36, go_sem, r0, r1, r2, r3]) rfl ?_
    all_goals refine ⟨_, rfl, ?_, hrb.keep (fun g hg => ?_) (fun g hg => .inl hg)⟩
    all_goals first
      | exact (set4_below hu1 (by omega) _ _ _ _)
      | exact (set4_below hu1 (by omega) _ _ _ _).drew
      | exact (set4_below hu1.drew (by omega) _ _ _ _)
      | (have := hS g hg; exact (set4_far _ _ _ _ _ _ g (by omega)).trans (hu1.block g (by omega)))
end Go.Proofs.Ytkhdghbjififnaa
