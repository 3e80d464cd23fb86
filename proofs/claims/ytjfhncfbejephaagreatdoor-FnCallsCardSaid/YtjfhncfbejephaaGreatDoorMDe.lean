import Derived.Test.YtjfhncfbejephaaGreatDoorMDr
import Derived.Test.YtjfhncfbejephaaGreatDoorMSc
import Derived.Deep.RegionWith
import Derived.WalkKit
/- The model's drawn inputs: l14Open, l1Good, l1Any, l1Word, and the draws of chapter 1. -/
namespace Go.Proofs.YtjfhncfbejephaaGreatDoor
open Go.RowKit
open Ff
set_option linter.unusedVariables false
attribute [local irreducible] Calls

/-- Bytes that came in. -/
def Src (w : World) (a : Option Addr) (l c : Nat) : Prop := l = 0 ∨ ∃ g o, a = some ⟨g, o, none⟩ ∧ g < w.heap.size ∧ l ≤ c ∧ c ≤ 9223372036854775807 ∧ ∀ i, i < l → ∃ z : Nat, z < 256 ∧ w.cell? ⟨g, o + i, none⟩ = some (.int .u8 z)
theorem Src.keep {w w' : World} {a : Option Addr} {l c : Nat} (h : Src w a l c) (hb : Below w.heap.size w w') : Src w' a l c := by
  rcases h with h | ⟨g, o, ha, hg, hl, hc, hz⟩
  · exact .inl h
  · refine .inr ⟨g, o, ha, by have := hb.size; omega, hl, hc, fun i hi => ?_⟩
    obtain ⟨z, h1, h2⟩ := hz i hi
    exact ⟨z, h1, (hb.cell (p := ⟨g, o + i, none⟩) hg).trans h2⟩
theorem dr_new (w : World) (a : Option Addr) (l c : Nat) (t : TypeId) (h : Src w a l c) (hl : l ≤ 2000) : DG w.heap.size a l c w 0 (w.alloc (.cells #[.slice a l c, .int .i64 0] t)) := by
  have hb := (Below.refl w.heap.size w).alloc (Nat.le_refl _) (.cells #[.slice a l c, .int .i64 0] t)
  have h0 := cell_new w [.slice a l c, .int .i64 0] t
  refine ⟨⟨h0 0, h0 1, ?_, ?_, hl⟩, grownBy_alloc (World.grownBy.refl _ _) _⟩
  · show (match (w.heap.push _)[w.heap.size]? with | some (.cells c elem (lo, hi)) => decide (lo ≤ 1) && decide (1 < hi) | x => false) = false
    simp
  · rcases h with h | ⟨g, o, ha, hg, hl, hc, hz⟩
    · exact .inl h
    · refine .inr ⟨g, o, ha, hg, fun i hi => ?_⟩
      obtain ⟨z, h1, h2⟩ := hz i hi
      exact ⟨z, h1, (hb.cell (p := ⟨g, o + i, none⟩) hg).trans h2⟩
theorem DG.below {a : Option Addr} {l c p : Nat} {w w' : World} (h : DG w.heap.size a l c w p w') : Below w.heap.size w w' :=
  ⟨h.gr.os, h.gr.tape, h.gr.output, h.gr.size, fun k hk => h.gr.block k hk (by simp; omega)⟩
theorem DG.out {b : Nat} {a : Option Addr} {l c p : Nat} {w0 w w' : World} (h : DG b a l c w0 p w) (hb : Below w.heap.size w w') : DG b a l c w0 p w' :=
  ⟨h.dr.keep hb, grownBy_trans h.gr ⟨hb.os, hb.tape, hb.output, hb.size, fun k hk _ => hb.block k hk⟩⟩

set_option maxHeartbeats 1000000 in
theorem open_c (a : Option Addr) (l c : Nat) (w : World) (h : Src w a l c) :
    Calls Tryz.prog 14 #[.slice a l c] w fun e w' => ∃ l', e = .returned (.pointer (some ⟨w.heap.size, 0, none⟩)) ∧ DG w.heap.size a l' c w 0 w' := by
  by_cases hl : l ≤ 2000
  · have h1 : (l : Int) ≤ 2000 := by omega
    have D := dr_new w a l c 71 h hl
    go_enter Tryz.func14, Tryz.ntmps14
    go_wp2_with fail
    go_ret
    exact ⟨l, rfl, D⟩
  · have h1 : 2000 < (l : Int) := by omega
    rcases h with h | ⟨g, o, rfl, hg, hlc, hc, hz⟩
    · omega
    · have D := dr_new w (some ⟨g, o, none⟩) 2000 c 71 (.inr ⟨g, o, rfl, hg, by omega, hc, fun i hi => hz i (by omega)⟩) (Nat.le_refl _)
      have h2 : ¬ ((c : Int) < 2000) := by omega
      clear hz
      go_enter Tryz.func14, Tryz.ntmps14
      go_wp2_with fail
      go_ret
      exact ⟨rfl, 2000, D⟩

theorem draw_all : ∀ n, DrawC n
  | 0 => draw_zero
  | n + 1 => draw_step n (draw_all n)
theorem d_le : ∀ k : Fin 5, dM (1 + k.1) ≤ 2000 ∧ dN (1 + k.1) ≤ 2000 := by decide
theorem read_nil : readS [] = none := by decide
theorem known_g {b : Nat} {a : Option Addr} {l c p : Nat} {w0 w : World} (h : DG b a l c w0 p w) (k : Nat) (m : Int) (hk : (k : Int) < m) (hm : m ≤ 15) :
    Calls Tryz.prog 37 #[.int .i64 k] w fun e w' => ∃ s : ByteArray, e = .returned (.string s) ∧ 0 < s.size ∧ s.size ≤ 40 ∧ DG b a l c w0 p w' :=
  (known_c k w (by omega)).mono fun e w' ⟨s, he, h1, h2, h3⟩ => ⟨_, he, by rw [size_data]; exact h1, by rw [size_data]; exact h2, h.out h3⟩
theorem draw_g {b : Nat} {a : Option Addr} {l c p : Nat} {w0 w : World} (h : DG b a l c w0 p w) (k : Nat) (names : ByteArray) (hk : (k : Int) < 5) (hn : names.size ≤ 2) (hp : p ≤ 60000) :
    Calls Tryz.prog 51 #[.pointer (some ⟨b, 0, none⟩), .string names, .int .i64 (1 + (k : Int))] w fun e w' => ∃ (s : Text) (p' : Nat), e = .returned (.string ⟨s.toArray⟩) ∧ s.length ≤ 2000 ∧ p' ≤ p + 2000 ∧ DG b a l c w0 p' w' := by
  have h5 := d_le ⟨k, by omega⟩
  have D := (draw_all (1 + k)).g (names := names) h (by have := h5.2; simp only at this; omega) (by omega) (by have := h5.1; simp only at this; omega)
  rw [show ((1 + k : Nat) : Int) = 1 + (k : Int) by omega] at D
  refine D.mono fun e w' ⟨s, p', he, hs, hp', h1⟩ => ?_
  obtain ⟨⟨s⟩⟩ := s
  rw [show (⟨⟨s⟩⟩ : ByteArray) = ⟨s.toArray⟩ from rfl, size_data] at hs
  exact ⟨s, p', he, by have := h5.1; simp only at this; omega, by have := h5.2; simp only at this; omega, h1⟩
theorem valid_g {b : Nat} {a : Option Addr} {l c p : Nat} {w0 w : World} (h : DG b a l c w0 p w) (s : Text) (hs : s.length ≤ 2000) :
    Calls Tryz.prog 52 #[.string ⟨s.toArray⟩] w fun e w' => e = .returned (.bool (readS s).isSome) ∧ DG b a l c w0 p w' :=
  (sTermValid_c s w (by omega)).mono fun e w' ⟨he, hb⟩ => ⟨he, h.out hb⟩
set_option maxHeartbeats 2000000 in
theorem good_c (b : Nat) (a : Option Addr) (l c p : Nat) (w0 w : World) (cl : Bool) (hD : DG b a l c w0 p w) (hp : p ≤ 50000) :
    Calls Tryz.prog 34 #[.pointer (some ⟨b, 0, none⟩), .bool cl] w fun e w' => ∃ (s : ByteArray) (p' : Nat), e = .returned (.string s) ∧ 0 < s.size ∧ s.size ≤ 2000 ∧ p' ≤ p + 3000 ∧ DG b a l c w0 p' w' := by
  cases cl
  · go_enter Tryz.func34, Tryz.ntmps34
    go_wp2_with fail
    refine (pick_g hD _ (by omega) (by omega) (by omega)).mono ?_; rintro e w1 ⟨k1, rfl, hk1, hD1⟩
    go_wp2_with fail
    · refine (pick_g hD1 _ (by omega) (by omega) (by omega)).mono ?_; rintro e w2 ⟨k2, rfl, hk2, hD2⟩
      go_wp2_with fail
      refine (known_g hD2 k2 _ hk2 (by omega)).mono ?_; rintro e w3 ⟨s, rfl, hs, hs2, hD3⟩
      go_wp2_with fail
      go_ret
      exact ⟨s, _, rfl, hs, by omega, by omega, hD3⟩
    · refine (of_g hD1 [[97], [97, 98], [101], []] _ 2 (by decide) (by omega) (by decide) (by decide)).mono ?_; rintro e w2 ⟨names, hn, rfl, hD2⟩
      go_wp2_with fail
      refine (pick_g hD2 _ (by omega) (by omega) (by omega)).mono ?_; rintro e w3 ⟨k3, rfl, hk3, hD3⟩
      go_wp2_with fail
      refine (draw_g hD3 k3 names hk3 hn (by omega)).mono ?_; rintro e w4 ⟨s, p4, rfl, hs, hp4, hD4⟩
      go_wp2_with fail
      refine (valid_g hD4 s hs).mono ?_; rintro e w5 ⟨rfl, hD5⟩
      rcases hr : (readS s).isSome
      · have HR := Lib.hid hr
        clear hr
        go_wp2_with fail
        refine (pick_g hD5 _ (by omega) (by omega) (by omega)).mono ?_; rintro e w6 ⟨k6, rfl, hk6, hD6⟩
        go_wp2_with fail
        refine (known_g hD6 k6 _ hk6 (by omega)).mono ?_; rintro e w7 ⟨s7, rfl, hs7, hs8, hD7⟩
        go_wp2_with fail
        go_ret
        exact ⟨s7, _, rfl, hs7, by omega, by omega, hD7⟩
      · have HR := Lib.hid hr
        clear hr
        go_wp2_with fail
        go_ret
        refine ⟨_, p4, rfl, ?_, by rw [size_data]; exact hs, by omega, hD5⟩
        rw [size_data]
        cases s with
        | nil => have := HR.out; rw [read_nil] at this; simp at this
        | cons x s => simp
  · go_enter Tryz.func34, Tryz.ntmps34
    go_wp2_with fail
    refine (pick_g hD _ (by omega) (by omega) (by omega)).mono ?_; rintro e w1 ⟨k1, rfl, hk1, hD1⟩
    go_wp2_with fail
    · refine (pick_g hD1 _ (by omega) (by omega) (by omega)).mono ?_; rintro e w2 ⟨k2, rfl, hk2, hD2⟩
      go_wp2_with fail
      refine (known_g hD2 k2 _ hk2 (by omega)).mono ?_; rintro e w3 ⟨s, rfl, hs, hs2, hD3⟩
      go_wp2_with fail
      go_ret
      exact ⟨s, _, rfl, hs, by omega, by omega, hD3⟩
    · refine (pick_g hD1 _ (by omega) (by omega) (by omega)).mono ?_; rintro e w3 ⟨k3, rfl, hk3, hD3⟩
      go_wp2_with fail
      refine (draw_g hD3 k3 ⟨#[]⟩ hk3 (by decide) (by omega)).mono ?_; rintro e w4 ⟨s, p4, rfl, hs, hp4, hD4⟩
      go_wp2_with fail
      refine (valid_g hD4 s hs).mono ?_; rintro e w5 ⟨rfl, hD5⟩
      rcases hr : (readS s).isSome
      · have HR := Lib.hid hr
        clear hr
        go_wp2_with fail
        refine (pick_g hD5 _ (by omega) (by omega) (by omega)).mono ?_; rintro e w6 ⟨k6, rfl, hk6, hD6⟩
        go_wp2_with fail
        refine (known_g hD6 k6 _ hk6 (by omega)).mono ?_; rintro e w7 ⟨s7, rfl, hs7, hs8, hD7⟩
        go_wp2_with fail
        go_ret
        exact ⟨s7, _, rfl, hs7, by omega, by omega, hD7⟩
      · have HR := Lib.hid hr
        clear hr
        go_wp2_with fail
        go_ret
        refine ⟨_, p4, rfl, ?_, by rw [size_data]; exact hs, by omega, hD5⟩
        rw [size_data]
        cases s with
        | nil => have := HR.out; rw [read_nil] at this; simp at this
        | cons x s => simp

theorem DG.drew {b : Nat} {a : Option Addr} {l c p : Nat} {w0 w : World} (h : DG b a l c w0 p w) : DG b a l c w0 p w.drew := h.out (Below.refl _ _).drew
theorem of_gd {b : Nat} {a : Option Addr} {l c p : Nat} {w0 w : World} (h : DG b a l c w0 p w) (ss : List Text) (t : TypeId) (k : Nat) (hk : ∀ s ∈ ss, s.length ≤ k) (hp : p ≤ 1000000) (hn : 1 ≤ ss.length) (hn2 : ss.length ≤ 1000000) :
    Calls Tryz.prog 35 #[.pointer (some ⟨b, 0, none⟩), .slice (some ⟨w.heap.size, 0, none⟩) ss.length ss.length] ((w.alloc (.cells (ss.map (fun s => Value.string ⟨s.toArray⟩)).toArray t)).drew) fun e w' => ∃ s : ByteArray, s.size ≤ k ∧ e = .returned (.string s) ∧ DG b a l c w0 (p + 1) w' :=
  of_g (w := w.drew) h.drew ss t k hk hp hn hn2
theorem any_fin {x : ByteArray} {b : Nat} {a : Option Addr} {l c p p' : Nat} {w0 w : World} (hx : x.size ≤ 5000) (hp : p' ≤ p + 4000) (h : DG b a l c w0 p' w) :
    ∃ (s : Text) (p' : Nat), Ending.returned (.string x) = .returned (.string ⟨s.toArray⟩) ∧ s.length ≤ 5000 ∧ p' ≤ p + 4000 ∧ DG b a l c w0 p' w := by
  obtain ⟨⟨s⟩⟩ := x
  rw [show (⟨⟨s⟩⟩ : ByteArray) = ⟨s.toArray⟩ from rfl, size_data] at hx
  exact ⟨s, p', rfl, hx, hp, h⟩
set_option maxHeartbeats 4000000 in
theorem any_c (b : Nat) (a : Option Addr) (l c p : Nat) (w0 w : World) (hD : DG b a l c w0 p w) (hp : p ≤ 20000) :
    Calls Tryz.prog 22 #[.pointer (some ⟨b, 0, none⟩)] w fun e w' => ∃ (s : Text) (p' : Nat), e = .returned (.string ⟨s.toArray⟩) ∧ s.length ≤ 5000 ∧ p' ≤ p + 4000 ∧ DG b a l c w0 p' w' := by
  go_enter Tryz.func22, Tryz.ntmps22
  go_wp2_with fail
  refine (pick_g hD _ (by omega) (by omega) (by omega)).mono ?_; rintro e w1 ⟨k1, rfl, hk1, hD1⟩
  go_wp2_with fail
  refine (good_c _ _ _ _ _ _ _ _ hD1 (by omega)).mono ?_; rintro e w2 ⟨s, p2, rfl, hs, hs2, hp2, hD2⟩
  go_wp2_with fail
  refine (pick_g hD2 _ (by omega) (by omega) (by omega)).mono ?_; rintro e w3 ⟨k3, rfl, hk3, hD3⟩
  go_wp2_with fail
  · go_ret
    obtain ⟨⟨s⟩⟩ := s
    rw [show (⟨⟨s⟩⟩ : ByteArray) = ⟨s.toArray⟩ from rfl, size_data] at hs2
    exact ⟨s, _, rfl, by omega, by omega, hD3⟩
  · refine (pick_g hD3 _ (by omega) (by omega) (by omega)).mono ?_; rintro e w4 ⟨k4, rfl, hk4, hD4⟩
    go_wp2_with fail
    have h0 : k4 ≤ s.size := by omega
    go_region_with (first
      | (go_at_call 35; refine (of_gd hD4 [[], [40], [41], [92], [97], [113], [61], [57]] _ 1 (by decide) (by omega) (by decide) (by decide)).mono ?_; rintro e w5 ⟨s5, hs5, rfl, hD5⟩; have g1 : ¬ 9223372036854775807 < k4 + s5.size := (by omega))
      | (go_at_call 18; refine (pick_g (by assumption) _ (by omega) (by omega) (by omega)).mono ?_; rintro e w6 ⟨k6, rfl, hk6, hD6⟩; have h6 : k4 + k6 ≤ s.size := (by omega); have h7 : IntKind.i64.wrap ((k4 : Int) + (k6 : Int)) = (k4 : Int) + (k6 : Int) := (by rw [IntKind.wrap_i64]; omega); have h8 : (k4 : Int) + (k6 : Int) ≤ (s.size : Int) := (by omega); have h10 : 0 ≤ (k4 : Int) + (k6 : Int) := (by omega); have h9 : ((k4 : Int) + (k6 : Int)).toNat = k4 + k6 := (by omega); have g2 : ¬ 9223372036854775807 < k4 + s5.size + (s.size - (k4 + k6)) := (by omega)))
    all_goals go_wp2_with fail
    all_goals go_ret
    all_goals exact any_fin (by simp only [ByteArray.size_append, ByteArray.size_extract]; omega) (by omega) hD6
end Go.Proofs.YtjfhncfbejephaaGreatDoor

/- The model's drawn inputs: which texts l1Word draws. -/
namespace Go.Proofs.YtjfhncfbejephaaGreatDoor
open Go.RowKit
open Ff
set_option linter.unusedVariables false
attribute [local irreducible] Calls

theorem of_m {b : Nat} {a : Option Addr} {l c p : Nat} {w0 w : World} (h : DG b a l c w0 p w) (ss : List Text) (t : TypeId) (hp : p ≤ 1000000) (hn : 1 ≤ ss.length) (hn2 : ss.length ≤ 1000000) :
    Calls Tryz.prog 35 #[.pointer (some ⟨b, 0, none⟩), .slice (some ⟨w.heap.size, 0, none⟩) ss.length ss.length] (w.alloc (.cells (ss.map (fun s => Value.string ⟨s.toArray⟩)).toArray t)) fun e w' => ∃ s : Text, s ∈ ss ∧ e = .returned (.string ⟨s.toArray⟩) ∧ DG b a l c w0 (p + 1) w' :=
  (of_c (h.dr.alloc _) w.heap.size ss ss.length (row_new w ss t) (by have := h.dr.lt; omega) hp hn hn2).mono fun e w' ⟨s, hs, he, h1, h2⟩ => ⟨s, hs, he, h1, grownBy_trans h.gr (grownBy_trans (grownBy_alloc (World.grownBy.refl _ _) _) h2)⟩
theorem words_all : ∀ s ∈ ([[97], [98], [99], [101], [100], [112], [113], [], [97, 98], [49]] : List Text), s.length ≤ 1 ∨ s = [97, 98] := by decide
end Go.Proofs.YtjfhncfbejephaaGreatDoor

/- Bytes that came in as an argument. -/
namespace Go.Proofs.YtjfhncfbejephaaGreatDoor
open Go.RowKit
open Ff
set_option linter.unusedVariables false

/-- A slice of integers that came in: it is nil, or it leads to a row of 'cap' cells that hold the numbers 'zs'. -/
def IsRow (k : IntKind) (w : World) (a : Option Addr) (len cap : Nat) (zs : List Int) : Prop :=
  (a = none ∧ len = 0 ∧ cap = 0 ∧ zs = []) ∨
  ∃ x, a = some x ∧ len ≤ cap ∧ cap ≤ maxLen ∧ zs.length = cap ∧ (∀ i, i < zs.length → w.cell? (x.add i) = some (.int k (zs.getD i 0))) ∧ ∀ n ∈ zs, (Lit.int k n).wf = true
theorem IsRow.src {w : World} {a : Option Addr} {len cap : Nat} {zs : List Int} (h : IsRow .u8 w a len cap zs) : Src w a len cap := by
  rcases h with ⟨_, h, _, _⟩ | ⟨⟨b, off, spot⟩, rfl, hl, hm, hz, hcell, hwz⟩
  · exact .inl h
  · by_cases h0 : len = 0
    · exact .inl h0
    · have hc := hcell 0 (by omega)
      have hspot : spot = none := by simpa [Addr.add] using World.cell?_spot hc
      subst hspot
      have hb : b < w.heap.size := World.block_lt_of_cell? w _ (by simpa [Addr.add] using hc)
      refine .inr ⟨b, off, rfl, hb, hl, by unfold maxLen at hm; exact hm, fun i hi => ?_⟩
      have hci := hcell i (by omega)
      have hw := hwz (zs.getD i 0) (by rw [List.getD_eq_getElem?_getD, List.getElem?_eq_getElem (by omega)]; exact List.getElem_mem _)
      have hr : 0 ≤ zs.getD i 0 ∧ zs.getD i 0 ≤ 255 := by simpa [Lit.wf, IntKind.min, IntKind.max, IntKind.signed, IntKind.bits] using hw
      refine ⟨(zs.getD i 0).toNat, by omega, ?_⟩
      rw [Int.toNat_of_nonneg hr.1]
      have e : (⟨b, off, none⟩ : Addr).add i = ⟨b, off + i, none⟩ := by unfold Addr.add; split <;> simp_all
      rw [← e]
      exact hci
end Go.Proofs.YtjfhncfbejephaaGreatDoor
