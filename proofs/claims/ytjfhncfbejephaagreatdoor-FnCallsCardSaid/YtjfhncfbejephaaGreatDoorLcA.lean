import Derived.Test.YtjfhncfbejephaaGreatDoorMDe
import Derived.Test.YtjfhncfbejephaaGreatDoorMLx
import Derived.Test.YtjfhncfbejephaaGreatDoorMVh
/- Draws of chapter 3; laws over runs of drawn terms: what they share. -/
namespace Go.Proofs.YtjfhncfbejephaaGreatDoor
open Go.RowKit
open Ff
set_option linter.unusedVariables false
attribute [local irreducible] Calls

theorem next {w w1 w2 : World} (h : Below w.heap.size w w1) (k : Below w1.heap.size w1 w2) : Below w.heap.size w w2 := h.trans (k.mono h.size)
theorem closed_g {b : Nat} {a : Option Addr} {l c p : Nat} {w0 w : World} (h : DG b a l c w0 p w) (s : Text) (hs : s.length ≤ 2000) :
    Calls Tryz.prog 36 #[.string ⟨s.toArray⟩] w fun e w' => e = .returned (.bool (closedB (readS s))) ∧ DG b a l c w0 p w' :=
  (sIsClosed_c s w (by omega)).mono fun e w' ⟨he, hb⟩ => ⟨he, h.out hb⟩
set_option maxHeartbeats 1000000 in
theorem good3_c (b : Nat) (a : Option Addr) (l c p : Nat) (w0 w : World) (hD : DG b a l c w0 p w) (hp : p ≤ 20000) :
    Calls Tryz.prog 23 #[.pointer (some ⟨b, 0, none⟩)] w fun e w' => ∃ (s : Text) (p' : Nat), e = .returned (.string ⟨s.toArray⟩) ∧ s.length ≤ 2000 ∧ p' ≤ p + 3100 ∧ DG b a l c w0 p' w' := by
  go_enter Tryz.func23, Tryz.ntmps23
  go_wp2_with fail
  refine (good_c _ _ _ _ _ _ _ _ hD (by omega)).mono ?_; rintro e w2 ⟨s, p2, rfl, hs, hs2, hp2, hD2⟩
  obtain ⟨⟨s⟩⟩ := s
  rw [show (⟨⟨s⟩⟩ : ByteArray) = ⟨s.toArray⟩ from rfl] at hs2 ⊢
  rw [size_data] at hs2
  clear hs
  go_wp2_with fail
  refine (closed_g hD2 s hs2).mono ?_; rintro e w3 ⟨rfl, hD3⟩
  cases closedB (readS s)
  · go_wp2_with fail
    refine (pick_g hD3 _ (by omega) (by omega) (by omega)).mono ?_; rintro e w4 ⟨k4, rfl, hk4, hD4⟩
    go_wp2_with fail
    refine (known_g hD4 k4 _ hk4 (by omega)).mono ?_; rintro e w5 ⟨u, rfl, hu, hu2, hD5⟩
    go_wp2_with fail
    go_ret
    obtain ⟨⟨u⟩⟩ := u
    rw [show (⟨⟨u⟩⟩ : ByteArray) = ⟨u.toArray⟩ from rfl, size_data] at hu2
    exact ⟨u, _, rfl, by omega, by omega, hD5⟩
  · go_wp2_with fail
    go_ret
    exact ⟨s, _, rfl, hs2, by omega, hD3⟩
set_option maxHeartbeats 1000000 in
theorem any3_c (b : Nat) (a : Option Addr) (l c p : Nat) (w0 w : World) (hD : DG b a l c w0 p w) (hp : p ≤ 10000) :
    Calls Tryz.prog 13 #[.pointer (some ⟨b, 0, none⟩)] w fun e w' => ∃ (s : Text) (p' : Nat), e = .returned (.string ⟨s.toArray⟩) ∧ s.length ≤ 5000 ∧ p' ≤ p + 5000 ∧ DG b a l c w0 p' w' := by
  go_enter Tryz.func13, Tryz.ntmps13
  go_wp2_with fail
  refine (pick_g hD _ (by omega) (by omega) (by omega)).mono ?_; rintro e w1 ⟨k1, rfl, hk1, hD1⟩
  go_wp2_with fail
  · refine (any_c _ _ _ _ _ _ _ hD1 (by omega)).mono ?_; rintro e w2 ⟨s, p2, rfl, hs, hp2, hD2⟩
    go_wp2_with fail
    go_ret
    exact ⟨s, _, rfl, hs, by omega, hD2⟩
  · refine (good3_c _ _ _ _ _ _ _ hD1 (by omega)).mono ?_; rintro e w2 ⟨s, p2, rfl, hs, hp2, hD2⟩
    go_wp2_with fail
    go_ret
    exact ⟨s, _, rfl, by omega, by omega, hD2⟩
set_option maxHeartbeats 1000000 in
theorem drawCallsIn_c (a : Option Addr) (l c : Nat) (w : World) (h : Src w a l c) :
    Calls Tryz.prog 4 #[.slice a l c] w fun e w' => ∃ s : Text, e = .returned (.string ⟨s.toArray⟩) ∧ s.length ≤ 5000 ∧ Below w.heap.size w w' := by
  go_enter Tryz.func4, Tryz.ntmps4
  go_wp2_with fail
  refine (open_c a l c w h).mono ?_; rintro e w1 ⟨l', rfl, hD⟩
  go_wp2_with fail
  refine (any3_c _ _ _ _ _ _ _ hD (by omega)).mono ?_; rintro e w2 ⟨s, p', rfl, hs, hp, hD2⟩
  go_wp2_with fail
  go_ret
  exact ⟨s, rfl, hs, hD2.below⟩
/-- The condition of the run, behind. -/
theorem ErrT.next {w w' : World} (hg : ErrT w) (hb : Below w.heap.size w w') : ErrT w' := (hb.cell (p := ⟨0, 0, none⟩) hg.pos).trans hg
/-- A result in a block of its own. -/
def BoxR (w : World) (b : Nat) (a0 : Int) (a1 : Bool) (a2 : Int) : Prop := w.heap[b]? = some (.cells #[.int .i64 a0, .bool a1, .int .i64 a2] 74 (0, 0))
theorem BoxR.next {w w' : World} {b : Nat} {a0 a2 : Int} {a1 : Bool} (h : BoxR w b a0 a1 a2) (hb : Below w.heap.size w w') : BoxR w' b a0 a1 a2 := (hb.block b (Array.getElem?_eq_some_iff.1 h).1).trans h
theorem box_new (w : World) (a0 a2 : Int) (a1 : Bool) : BoxR (w.alloc (.cells #[.int .i64 a0, .bool a1, .int .i64 a2] 74)) w.heap.size a0 a1 a2 := alloc_at w _
theorem box_below (w : World) (a0 a2 : Int) (a1 : Bool) : Below w.heap.size w (w.alloc (.cells #[.int .i64 a0, .bool a1, .int .i64 a2] 74)) := (Below.refl _ w).alloc (Nat.le_refl _) _
end Go.Proofs.YtjfhncfbejephaaGreatDoor
