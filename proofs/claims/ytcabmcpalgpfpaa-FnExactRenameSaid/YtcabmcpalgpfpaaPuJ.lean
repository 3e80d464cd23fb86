import Derived.Test.YtcabmcpalgpfpaaPuI
import Derived.Test.YtcabmcpalgpfpaaMTx
import Derived.Test.YtcabmcpalgpfpaaMDp
/- The program's putting: what recovers from a shortage; put; Put. -/
namespace Go.Proofs.Ytcabmcpalgpfpaa
open Go.RowKit
open Ff
set_option linter.unusedVariables false
attribute [local go_sem] Oper.semAt_some

theorem short_panicking (p q : Addr) (x y : Value) (u : TypeId) (pv : Value) (older : List PanicEntry) (w : World) (hne : p ≠ q) (hp : w.cell? p = some x) (hpz : w.frozen? p = false) (hq : w.cell? q = some y) (hqz : w.frozen? q = false) :
    CallsD Try.prog 33 #[.pointer (some p), .pointer (some q)] (.panicking ({ v := .iface u pv, recovered := false } :: older)) w fun e u' w' =>
      e = .returned (.tuple #[]) ∧ u' = .panicking ({ v := .iface u pv, recovered := true } :: older) ∧ w' = (w.setCell p .nilIface).setCell q (.bool false) := by
  refine callsD_of_wpS Try.func33 rfl fun c₀ cs hu => ?_
  apply wpS_seq
  apply wpS_region
  simp [wpOpsS, go_sem, recoverD, hu, Try.ntmps33, Exit.thenS]
  refine wpS_cond (t := true) (by simp [Act.eval, Array.replicate]) ?_
  simp only [if_true]
  apply wpS_region
  have h2 : (w.setCell p .nilIface).cell? q = some y := by rw [World.cell?_setCell_other _ _ _ _ hne]; exact hq
  simp [wpOpsS, go_sem, hp, hpz, h2, hqz, bodyPostS, results, Try.results33]

theorem short_idle (p q : Addr) (w : World) :
    CallsD Try.prog 33 #[.pointer (some p), .pointer (some q)] .returning w fun e u' w' => e = .returned (.tuple #[]) ∧ u' = .returning ∧ w' = w := by
  refine callsD_of_wpS Try.func33 rfl fun c₀ cs hu => ?_
  apply wpS_seq
  apply wpS_region
  simp [wpOpsS, go_sem, recoverD, hu, Try.ntmps33, Exit.thenS]
  refine wpS_cond (t := false) (by simp [Act.eval, Array.replicate]) ?_
  simp only [Bool.false_eq_true, if_false]
  refine wpS_of_wp (wp_skip ?_)
  cases c₀
  simp_all [bodyPostS, results, Try.results33]

/-- What putting comes to where a shortage is told. -/
def PutPost (w : World) (r : Tm × Bool) (e : Ending) (w' : World) : Prop := ((r.2 = true ∧ e = .returned (.tuple #[enc r.1, .bool true])) ∨ (r.2 = false ∧ e = .returned (.tuple #[.nilIface, .bool false]))) ∧ Below w.heap.size w w'
theorem two_new (w : World) (t1 t2 : TypeId) {W : World} (h : Below (w.heap.size + 1 + 1) ((w.alloc (.cells #[.nilIface] t1)).alloc (.cells #[.bool false] t2)) W) :
    W.cell? ⟨w.heap.size, 0, none⟩ = some .nilIface ∧ W.frozen? ⟨w.heap.size, 0, none⟩ = false ∧ W.cell? ⟨w.heap.size + 1, 0, none⟩ = some (.bool false) ∧ W.frozen? ⟨w.heap.size + 1, 0, none⟩ = false := by
  refine ⟨(h.cell (by show w.heap.size < _; omega)).trans ?_, (h.frozen (by show w.heap.size < _; omega)).trans ?_, (h.cell (by simp)).trans ?_, (h.frozen (by simp)).trans ?_⟩ <;> simp [go_sem]
/-- Three boxes. -/
abbrev Box3 (a b c : Nat) (x : UInt8) (u t : Value) (w0 w : World) : Prop := w.cell? ⟨a, 0, none⟩ = some (bv x) ∧ w.cell? ⟨b, 0, none⟩ = some u ∧ w.cell? ⟨c, 0, none⟩ = some t ∧ Below w0.heap.size w0 w
theorem Box3.keep {a b c : Nat} {x : UInt8} {u t : Value} {w0 w w' : World} (h : Box3 a b c x u t w0 w) (ha : a < w0.heap.size) (hb : b < w0.heap.size) (hc : c < w0.heap.size) (hk : Below w.heap.size w w') : Box3 a b c x u t w0 w' := by
  obtain ⟨h1, h2, h3, h4⟩ := h
  have := h4.size
  exact ⟨(hk.cell (p := ⟨a, 0, none⟩) (by show a < _; omega)).trans h1, (hk.cell (p := ⟨b, 0, none⟩) (by show b < _; omega)).trans h2, (hk.cell (p := ⟨c, 0, none⟩) (by show c < _; omega)).trans h3, h4.trans (hk.mono h4.size)⟩
end Go.Proofs.Ytcabmcpalgpfpaa
