import Derived.Test.YtjfhncfbejephaaGreatDoorLcA
import Derived.Maps.AppendAt
/- Draws of RunWith; FnLet. -/
namespace Go.Proofs.YtjfhncfbejephaaGreatDoor
open Go.RowKit Go.Shelf
open Ff
set_option linter.unusedVariables false
attribute [local irreducible] Calls
theorem row_at (w : World) (vs : List Value) (t : TypeId) (j : Nat) : (w.alloc (.cells vs.toArray t)).cell? ⟨w.heap.size, j, none⟩ = vs[j]? := by
  show (match (w.heap.push _)[w.heap.size]? with | some (.cells c _ _) => if (none : Option Nat).isSome then none else c[j]? | _ => none) = _
  simp

set_option maxHeartbeats 1000000 in
theorem num_w {b : Nat} {a : Option Addr} {l c p : Nat} {w0 w : World} (h : DG b a l c w0 p w) (vs : List Int) (t : TypeId) (hp : p ≤ 1000000) (hn : 1 ≤ vs.length) (hn2 : vs.length ≤ 1000000) :
    Calls Tryz.prog 17 #[.pointer (some ⟨b, 0, none⟩), .slice (some ⟨w.heap.size, 0, none⟩) vs.length vs.length] (w.alloc (.cells (vs.map (Value.int .i64)).toArray t)) fun e w' => ∃ s : Int, s ∈ vs ∧ e = .returned (.int .i64 s) ∧ DG b a l c w0 (p + 1) w' := by
  have hr : ∀ j v, vs[j]? = some v → (w.alloc (.cells (vs.map (Value.int .i64)).toArray t)).cell? ⟨w.heap.size, j, none⟩ = some (.int .i64 v) := fun j v hj => by rw [row_at, List.getElem?_map, hj]; rfl
  have hA : DG b a l c w0 p (w.alloc (.cells (vs.map (Value.int .i64)).toArray t)) := h.out ((Below.refl _ _).alloc (Nat.le_refl _) _)
  have hb := h.dr.lt
  generalize w.alloc (.cells (vs.map (Value.int .i64)).toArray t) = W at hr hA ⊢
  generalize w.heap.size = g at hr hb ⊢
  have C := pick_i hA.dr vs.length hp (by omega) (by omega)
  have HR := Lib.hid hr
  clear hr
  go_enter Tryz.func17, Tryz.ntmps17
  go_wp2_with fail
  refine C.mono ?_
  rintro e w1 ⟨k, rfl, hk, hD, hg⟩
  obtain ⟨s, hs⟩ : ∃ s, vs[k]? = some s := ⟨_, List.getElem?_eq_getElem (by omega)⟩
  have hc : w1.cell? ⟨g, k, none⟩ = some (.int .i64 s) := (hg.cell (HR.out k s hs) (by simp; omega))
  have HS := Lib.hid (List.mem_of_getElem? hs)
  have HD := Lib.hid hD
  have HA := Lib.hid hA
  clear hs hD hA
  go_wp2_with fail
  go_ret
  exact ⟨s, HS.out, rfl, HD.out, grownBy_trans HA.out.gr hg⟩

theorem num_i {b : Nat} {a : Option Addr} {l c p : Nat} {w : World} (h : Dr b a l c p w) (vs : List Int) (t : TypeId) (hp : p ≤ 1000000) (hn : 1 ≤ vs.length) (hn2 : vs.length ≤ 1000000) :
    Calls Tryz.prog 17 #[.pointer (some ⟨b, 0, none⟩), .slice (some ⟨w.heap.size, 0, none⟩) vs.length vs.length] (w.alloc (.cells (vs.map (Value.int .i64)).toArray t)) fun e w' => ∃ s : Int, s ∈ vs ∧ e = .returned (.int .i64 s) ∧ Dr b a l c (p + 1) w' ∧ w.grownBy w' (some b) :=
  (num_w (w0 := w) ⟨h, World.grownBy.refl _ _⟩ vs t hp hn hn2).mono fun e w' ⟨s, h1, h2, h3⟩ => ⟨s, h1, h2, h3.dr, h3.gr⟩
theorem Dr.above {b : Nat} {a : Option Addr} {l c p : Nat} {w w' : World} (h : Dr b a l c p w) (hb : Below (b + 1) w w') : Dr b a l c p w' := by
  refine ⟨(hb.cell (p := ⟨b, 0, none⟩) (Nat.lt_succ_self b)).trans h.c0, (hb.cell (p := ⟨b, 1, none⟩) (Nat.lt_succ_self b)).trans h.c1, (hb.frozen (p := ⟨b, 1, none⟩) (Nat.lt_succ_self b)).trans h.f1, ?_, h.hl⟩
  rcases h.src with h0 | ⟨g, o, ha, hg, hz⟩
  · exact .inl h0
  · refine .inr ⟨g, o, ha, hg, fun i hi => ?_⟩
    obtain ⟨z, h1, h2⟩ := hz i hi
    exact ⟨z, h1, (hb.cell (p := ⟨g, o + i, none⟩) (by show g < _; omega)).trans h2⟩
theorem grown_above {w w' : World} {row : Option Nat} {n : Nat} (hg : w.grownBy w' row) (hr : ∀ j, row = some j → n ≤ j) (hn : n ≤ w.heap.size) : Below n w w' :=
  ⟨hg.os, hg.tape, hg.output, hg.size, fun j hj => hg.block j (by omega) (fun e => by have := hr j e.symm; omega)⟩
theorem row_apart {w w' : World} {b n : Nat} {v : Value} {ys : List Value} (h : w.ownsRow (b + 1) 3 1 v n ys) (hg : w.grownBy w' (some b)) : w'.ownsRow (b + 1) 3 1 v n ys := by
  refine World.ownsRow.kept h hg ?_
  rcases ho : v.ownBlock with _ | j
  · exact .inl rfl
  · exact .inr (fun e => by injection e with e; have := (World.ownsRow.lt h j ho).1; omega)
theorem row_slice2 {w : World} {base : Nat} {v : Value} {n : Nat} {t : TypeId} {sz : Nat} {xs : List Value} (h : w.ownsRow base t sz v n xs) : ∃ a cap, v = .slice a n cap := by
  obtain ⟨_, ⟨h1, h2⟩ | ⟨g, cap, cur, rfl, _⟩⟩ := h
  · exact ⟨none, 0, by rw [h1]; simp_all⟩
  · exact ⟨_, _, rfl⟩
theorem row_first {w : World} {base n : Nat} {a : Option Addr} {cap : Nat} {ys : List Value} (h : w.ownsRow base 3 1 (.slice a n cap) n ys) (hn : 0 < n) : ∃ g y, a = some ⟨g, 0, none⟩ ∧ base ≤ g ∧ w.cell? ⟨g, 0, none⟩ = some y ∧ w.frozen? ⟨g, 0, none⟩ = false := by
  have hl : ys.length = n := by have := h.1; omega
  obtain ⟨y, hy⟩ : ∃ y, ys[0]? = some y := ⟨_, List.getElem?_eq_getElem (by omega)⟩
  have hc := fun g hg => h.cells (g := g) hg 0 y hy
  have hlt := fun g hg => h.lt g hg
  rcases h.2 with ⟨_, h2⟩ | ⟨g, cap', cur, hv, hb, hh, _⟩
  · omega
  · injection hv with hv1
    subst hv1
    have h1 := hc g rfl
    rw [Addr.add_lit, Nat.zero_add] at h1
    exact ⟨g, y, rfl, (hlt g rfl).1, h1, by simp [World.frozen?, hh]⟩
theorem Tryz.infoI3 : (Tryz.prog.info? 3).map (fun i => (i.zero, i.size, i.bytes)) = some (some (.int .i64 0), 1, 8) := by kernel_rfl
theorem txt_form (f : Tm → Text) (o : Option Tm) : ∃ (u : Text) (b : Bool), txtP f o = .tuple #[.string ⟨u.toArray⟩, .bool b] ∧ (u = [] ∨ ∃ t, u = f t) := by
  rcases o with _ | t
  · exact ⟨[], false, rfl, .inl rfl⟩
  · exact ⟨f t, true, rfl, .inr ⟨t, rfl⟩⟩
end Go.Proofs.YtjfhncfbejephaaGreatDoor
