import Derived.Test.YthjhpfcilaghgaaGreatDoorEvC
/- The program's bindings and small functions of a run. -/
namespace Go.Proofs.YthjhpfcilaghgaaGreatDoor
open Go.RowKit Go.Shelf
open Ff
set_option linter.unusedVariables false
variable {X : Nat → Prop}
attribute [local go_sem] storeIF

theorem newAt (w : World) (B : Nat) (hB : w.heap.size = B) (l : List Value) (t : TypeId) (k : Nat) (v : Value) (h : l[k]? = some v) : (w.alloc (.cells l.toArray t)).cell? ⟨B, k, none⟩ = some v := by subst hB; exact (cell_new w l t k).trans h
set_option maxHeartbeats 1000000 in
/-- One name more. -/
theorem with_c (e0 : Value) (c : UInt8) (a0 a1 : Value) (h0 : ∃ n, a0 = .int .i64 n) (h1 : ∃ o, a1 = IF o) (he : ∃ p, e0 = .pointer p) (w : World) :
    Calls Tryz.prog 51 #[e0, .int .u8 (c.toNat : Int), .agg #[a0, a1]] w fun e w' => ∃ b, e = .returned (ptr b) ∧ w.heap.size ≤ b ∧ b < w'.heap.size ∧ Below w.heap.size w w' ∧
      w'.cell? ⟨b, 0, none⟩ = some (.int .u8 (c.toNat : Int)) ∧ w'.cell? ⟨b, 1, none⟩ = some a0 ∧ w'.cell? ⟨b, 2, none⟩ = some a1 ∧ w'.cell? ⟨b, 3, none⟩ = some e0 := by
  obtain ⟨n, rfl⟩ := h0
  obtain ⟨p, rfl⟩ := h1
  obtain ⟨q, rfl⟩ := he
  go_enter Tryz.func51, Tryz.ntmps51
  go_wp2_with fail
  go_ret
  refine ⟨_, rfl, by simp, by simp, ((Below.refl _ w).alloc (Nat.le_refl _) _).alloc (by simp) _, ?_, ?_, ?_, ?_⟩
  all_goals exact newAt (w.alloc _) _ (by simp) _ _ _ _ rfl
def MustP : Vl → Ending → Prop
  | .num n, e => e = .returned (.int .i64 (n : Int))
  | .clo _ _ _, e => e = .panicked faultC
set_option maxHeartbeats 1000000 in
theorem mustNumber_c (r : Nat) (S : Nat → Prop) (v : Vl) (x : Value) (w : World) (h : RepV r S w v x) :
    Calls Tryz.prog 75 #[x] w fun e w' => MustP v e ∧ Below w.heap.size w w' := by
  cases h with
  | num n =>
    go_enter Tryz.func75, Tryz.ntmps75
    go_wp2_with fail
    go_ret
    exact ⟨rfl, (Below.refl _ w).alloc (Nat.le_refl _) _⟩
  | clo i t e b br bp be bx pl ee e0 hb c1 hbr cr hbp cp hp hbe ce hbx cx hee he =>
    go_enter Tryz.func75, Tryz.ntmps75
    go_wp2_with fail
    exact ⟨rfl, rfl, (Below.refl _ w).alloc (Nat.le_refl _) _⟩
theorem two_of {w : World} {b : Nat} {z0 z1 : Value} {t : TypeId} (h : w.heap[b]? = some (.cells #[z0, z1] t (0, 0))) : w.cell? ⟨b, 0, none⟩ = some z0 ∧ w.cell? ⟨b, 1, none⟩ = some z1 ∧ w.frozen? ⟨b, 0, none⟩ = false ∧ w.frozen? ⟨b, 1, none⟩ = false := by
  refine ⟨?_, ?_, ?_, ?_⟩ <;> simp [World.cell?, World.frozen?, h]
/-- What a name is. -/
def FindP (r : Nat) (S : Nat → Prop) (w0 : World) (c : UInt8) (v : Vl) (B : Nat) (ep : Value) (w : World) : Prop := ∃ e, RepE r S w0 e ep ∧ e.find c = some v ∧ Below B w0 w
set_option maxHeartbeats 2000000 in
theorem valueOf_c (r : Nat) (S : Nat → Prop) (e : En) (ep : Value) (c : UInt8) (v : Vl) (w : World) (h : RepE r S w e ep) (hf : e.find c = some v) (hS : ∀ g, S g → g < w.heap.size) :
    Calls Tryz.prog 71 #[ep, .int .u8 (c.toNat : Int)] w fun u w' => ∃ x, u = .returned x ∧ RepV r S w v x ∧ Below w.heap.size w w' := by
  go_enter Tryz.func71, Tryz.ntmps71
  go_wp2_with fail
  have z : ∃ c0 c1, (w.alloc (.cells #[.int .i64 0, .nilIface] 105)).heap[w.heap.size]? = some (.cells #[c0, c1] 105 (0, 0)) := ⟨_, _, World.alloc_heap_new w _⟩
  have hb := (Below.refl w.heap.size w).alloc (Nat.le_refl _) (.cells #[.int .i64 0, .nilIface] 105)
  generalize w.alloc (.cells #[.int .i64 0, .nilIface] 105) = W1 at z hb ⊢
  obtain ⟨z0, z1, hz⟩ := z
  obtain ⟨y0, y1, y2, y3⟩ := two_of hz
  go_loopw [0] (fun p wr => FindP r S w c v w.heap.size p W1 ∧ wr = W1) (fun p _ => ptrN p)
  case atStart => exact ⟨⟨e, h, hf, hb⟩, rfl⟩
  case round =>
    obtain ⟨⟨e, h, hf, hb⟩, rfl⟩ := hrel
    cases h with
    | nil => simp [En.find] at hf
    | cons d u e b a0 a1 e0 hS0 c0 c1 c2 c3 ho hv he =>
      have hlt := hS b hS0
      have d0 := (hb.cell (p := ⟨b, 0, none⟩) hlt).trans c0
      have d1 := (hb.cell (p := ⟨b, 1, none⟩) hlt).trans c1
      have d2 := (hb.cell (p := ⟨b, 2, none⟩) hlt).trans c2
      have d3 := (hb.cell (p := ⟨b, 3, none⟩) hlt).trans c3
      clear c0 c1 c2 c3
      obtain ⟨_, _, hx, ⟨m, hm⟩, ⟨q, hq⟩⟩ := hv.form
      simp only [Value.agg.injEq, Array.mk.injEq, List.cons.injEq, and_true] at hx
      obtain ⟨q2, hq2⟩ := he.form
      obtain ⟨rfl, rfl⟩ := hx
      subst hm hq hq2
      by_cases hc : d = c
      · have hd : ((d.toNat : Int) == (c.toNat : Int)) = true := by rw [hc]; simp
        simp only [En.find, if_pos hc] at hf
        injection hf with hf
        subst hf
        clear he
        go_wp2_with fail
        refine bodyPost_ret (v := .agg #[.int .i64 m, IF q]) (by simp [results, Tryz.results71, go_sem, y0, y1]) rfl ?_
        exact ⟨_, rfl, hv, (hb.setCell (p := ⟨w.heap.size, 0, none⟩) (Nat.le_refl _) _).setCell (p := ⟨w.heap.size, 1, none⟩) (Nat.le_refl _) _⟩
      · have hd : ((d.toNat : Int) == (c.toNat : Int)) = false := by
          rw [beq_eq_false_iff_ne]
          intro e; exact hc (UInt8.toNat_inj.1 (by omega))
        simp only [En.find, if_neg hc] at hf
        go_wp2_with fail
        exact ⟨⟨⟨e, he, hf, hb⟩, trivial⟩, by show ptrN (.pointer q2) < b + 1; omega⟩
end Go.Proofs.YthjhpfcilaghgaaGreatDoor
