/- The model's drawn inputs: l14Open, l1Good, l1Any, l1Word, and the draws of chapter 1. -/
import Derived.Test.YtdedhejpbnfnaaaDrD
import Derived.Test.YtdedhejpbnfnaaaValid
import Derived.Deep.RegionWith
namespace Go.Proofs.Ytdedhejpbnfnaaa
open Go.RowKit
open Ff
set_option linter.unusedVariables false
attribute [local irreducible] Calls

/-- Bytes that came in. -/
def Src (w : World) (a : Option Addr) (l c : Nat) : Prop := l = 0 ∨ ∃ g o, a = some ⟨g, o, none⟩ ∧ g < w.heap.size ∧ l ≤ c ∧ c ≤ 9223372036854775807 ∧ ∀ i, i < l → ∃ z : Nat, z < 256 ∧ w.cell? ⟨g, o + i, none⟩ = some (.int .u8 z)
theorem Src.keep {w w' : World} {a : Option Addr} {l c : Nat} (h : Src w a l c) (hb : Below w.heap.size w w') : Src w' a l c := by
  rcases h with h | ⟨g, o, ha, hg, hl, hc, hz⟩
  · exact .inl h
  · refine .inr ⟨g, o, ha, by have := hb.size; omega, hl, hc, fun i hi => ?_⟩
    obtain ⟨z, h1, h2⟩ := hz i hi
    exact ⟨z, h1, (hb.cell (p := ⟨g, o + i, none⟩) hg).trans h2⟩
theorem dr_new (w : World) (a : Option Addr) (l c : Nat) (t : TypeId) (h : Src w a l c) (hl : l ≤ 2000) : DG w.heap.size a l c w 0 (w.alloc (.cells #[.slice a l c, .int .i64 0] t)) := by
  have hb := (Below.refl w.heap.size w).alloc (Nat.le_refl _) (.cells #[.slice a l c, .int .i64 0] t)
  have h0 := cell_new w [.slice a l c, .int .i64 0] t
  refine ⟨⟨h0 0, h0 1, ?_, ?_, hl⟩, grownBy_alloc (World.grownBy.refl _ _) _⟩
  · show (match (w.heap.push _)[w.heap.size]? with | some (.cells c elem (lo, hi)) => decide (lo ≤ 1) && decide (1 < hi) | x => false) = false
    simp
  · rcases h with h | ⟨g, o, ha, hg, hl, hc, hz⟩
    · exact .inl h
    · refine .inr ⟨g, o, ha, hg, fun i hi => ?_⟩
      obtain ⟨z, h1, h2⟩ := hz i hi
      exact ⟨z, h1, (hb.cell (p := ⟨g, o + i, none⟩) hg).trans h2⟩
theorem DG.below {a : Option Addr} {l c p : Nat} {w w' : World} (h : DG w.heap.size a l c w p w') : Below w.heap.size w w' :=
  ⟨h.gr.os, h.gr.tape, h.gr.output, h.gr.size, fun k hk => h.gr.block k hk (by simp; omega)⟩
theorem DG.out {b : Nat} {a : Option Addr} {l c p : Nat} {w0 w w' : World} (h : DG b a l c w0 p w) (hb : Below w.heap.size w w') : DG b a l c w0 p w' :=
  ⟨h.dr.keep hb, grownBy_trans h.gr ⟨hb.os, hb.tape, hb.output, hb.size, fun k hk _ => hb.block k hk⟩⟩

set_option maxHeartbeats 1000000 in
theorem open_c (a : Option Addr) (l c : Nat) (w : World) (h : Src w a l c) :
    Calls Try.prog 8 #[.slice a l c] w fun e w' => ∃ l', e = .returned (.pointer (some ⟨w.heap.size, 0, none⟩)) ∧ DG w.heap.size a l' c w 0 w' := by
  by_cases hl : l ≤ 2000
  · have h1 : (l : Int) ≤ 2000 := by omega
    have D := dr_new w a l c 40 h hl
    go_enter Try.func8, Try.ntmps8
    go_wp2_with fail
    go_ret
    exact ⟨l, rfl, D⟩
  · have h1 : 2000 < (l : Int) := by omega
    rcases h with h | ⟨g, o, rfl, hg, hlc, hc, hz⟩
    · omega
    · have D := dr_new w (some ⟨g, o, none⟩) 2000 c 40 (.inr ⟨g, o, rfl, hg, by omega, hc, fun i hi => hz i (by omega)⟩) (Nat.le_refl _)
      have h2 : ¬ ((c : Int) < 2000) := by omega
      clear hz
      go_enter Try.func8, Try.ntmps8
      go_wp2_with fail
      go_ret
      exact ⟨rfl, 2000, D⟩

theorem d_le : ∀ k : Fin 5, dM (1 + k.1) ≤ 2000 ∧ dN (1 + k.1) ≤ 2000 := by decide
theorem read_nil : readS [] = none := by decide
theorem DG.drew {b : Nat} {a : Option Addr} {l c p : Nat} {w0 w : World} (h : DG b a l c w0 p w) : DG b a l c w0 p w.drew := h.out (Below.refl _ _).drew
theorem of_gd {b : Nat} {a : Option Addr} {l c p : Nat} {w0 w : World} (h : DG b a l c w0 p w) (ss : List Text) (t : TypeId) (k : Nat) (hk : ∀ s ∈ ss, s.length ≤ k) (hp : p ≤ 1000000) (hn : 1 ≤ ss.length) (hn2 : ss.length ≤ 1000000) :
    Calls Try.prog 10 #[.pointer (some ⟨b, 0, none⟩), .slice (some ⟨w.heap.size, 0, none⟩) ss.length ss.length] ((w.alloc (.cells (ss.map (fun s => Value.string ⟨s.toArray⟩)).toArray t)).drew) fun e w' => ∃ s : ByteArray, s.size ≤ k ∧ e = .returned (.string s) ∧ DG b a l c w0 (p + 1) w' :=
  of_g (w := w.drew) h.drew ss t k hk hp hn hn2
theorem any_fin {x : ByteArray} {b : Nat} {a : Option Addr} {l c p p' : Nat} {w0 w : World} (hx : x.size ≤ 5000) (hp : p' ≤ p + 4000) (h : DG b a l c w0 p' w) :
    ∃ (s : Text) (p' : Nat), Ending.returned (.string x) = .returned (.string ⟨s.toArray⟩) ∧ s.length ≤ 5000 ∧ p' ≤ p + 4000 ∧ DG b a l c w0 p' w := by
  obtain ⟨⟨s⟩⟩ := x
  rw [show (⟨⟨s⟩⟩ : ByteArray) = ⟨s.toArray⟩ from rfl, size_data] at hx
  exact ⟨s, p', rfl, hx, hp, h⟩
end Go.Proofs.Ytdedhejpbnfnaaa
