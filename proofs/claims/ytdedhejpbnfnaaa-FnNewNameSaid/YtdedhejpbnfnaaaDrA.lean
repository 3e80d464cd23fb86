/- The model's drawn inputs: the reader of bytes. What is drawn is some number below n; of memory only the reader's place changes. -/
import Derived.Test.YtdedhejpbnfnaaaSpB
import Derived.Laws.Bits64
import Derived.Laws.BitsLemmas
namespace Go.Proofs.Ytdedhejpbnfnaaa
open Go.RowKit
open Ff
set_option linter.unusedVariables false

/-- The reader of bytes at block b: it reads l bytes at a, and stands at p. -/
structure Dr (b : Nat) (a : Option Addr) (l c p : Nat) (w : World) : Prop where
  c0 : w.cell? ⟨b, 0, none⟩ = some (.slice a l c)
  c1 : w.cell? ⟨b, 1, none⟩ = some (.int .i64 p)
  f1 : w.frozen? ⟨b, 1, none⟩ = false
  src : l = 0 ∨ ∃ g o, a = some ⟨g, o, none⟩ ∧ g < b ∧ ∀ i, i < l → ∃ z : Nat, z < 256 ∧ w.cell? ⟨g, o + i, none⟩ = some (.int .u8 z)
  hl : l ≤ 2000
theorem Dr.lt {b : Nat} {a : Option Addr} {l c p : Nat} {w : World} (h : Dr b a l c p w) : b < w.heap.size := World.block_lt_of_cell? w ⟨b, 0, none⟩ h.c0
theorem Dr.keep {b : Nat} {a : Option Addr} {l c p : Nat} {w w' : World} (h : Dr b a l c p w) (hb : Below w.heap.size w w') : Dr b a l c p w' := by
  have hlt := h.lt
  refine ⟨(hb.cell (p := ⟨b, 0, none⟩) hlt).trans h.c0, (hb.cell (p := ⟨b, 1, none⟩) hlt).trans h.c1, (hb.frozen (p := ⟨b, 1, none⟩) hlt).trans h.f1, ?_, h.hl⟩
  rcases h.src with h0 | ⟨g, o, ha, hg, hz⟩
  · exact .inl h0
  · refine .inr ⟨g, o, ha, hg, fun i hi => ?_⟩
    obtain ⟨z, h1, h2⟩ := hz i hi
    exact ⟨z, h1, (hb.cell (p := ⟨g, o + i, none⟩) (by show g < _; omega)).trans h2⟩
theorem Dr.alloc {b : Nat} {a : Option Addr} {l c p : Nat} {w : World} (h : Dr b a l c p w) (o : Obj) : Dr b a l c p (w.alloc o) := h.keep ((Below.refl _ _).alloc (Nat.le_refl _) o)
theorem Dr.drew {b : Nat} {a : Option Addr} {l c p : Nat} {w : World} (h : Dr b a l c p w) : Dr b a l c p w.drew := h.keep (Below.refl _ _).drew
theorem Dr.set {b : Nat} {a : Option Addr} {l c p : Nat} {w : World} (h : Dr b a l c p w) (q : Nat) : Dr b a l c q (w.setCell ⟨b, 1, none⟩ (.int .i64 q)) := by
  refine ⟨?_, World.cell?_setCell_same _ _ _ h.c1, by rw [World.frozen?_setCell]; exact h.f1, ?_, h.hl⟩
  · rw [World.cell?_setCell_other _ _ _ _ (by simp)]; exact h.c0
  · rcases h.src with h0 | ⟨g, o, ha, hg, hz⟩
    · exact .inl h0
    · refine .inr ⟨g, o, ha, hg, fun i hi => ?_⟩
      obtain ⟨z, h1, h2⟩ := hz i hi
      exact ⟨z, h1, by rw [World.cell?_setCell_other _ _ _ _ (by simp <;> omega)]; exact h2⟩
theorem Dr.drewN {b : Nat} {a : Option Addr} {l c p : Nat} {w : World} (h : Dr b a l c p w) (n : Nat) : Dr b a l c p (w.drewN n) := ⟨h.c0, h.c1, h.f1, h.src, h.hl⟩
theorem xor_i64 (a b : Nat) (ha : a < 1073741824) (hb : b < 1073741824) : bits .xor .i64 (a : Int) (b : Int) = ((a ^^^ b : Nat) : Int) := by
  have hx : a ^^^ b < 2 ^ 30 := Nat.xor_lt_two_pow (by omega) (by omega)
  have h1 : (BitVec.ofInt 64 (a : Int)).toNat = a := by
    rw [BitVec.ofInt_natCast, BitVec.toNat_ofNat]; exact Nat.mod_eq_of_lt (by omega)
  have h2 : (BitVec.ofInt 64 (b : Int)).toNat = b := by
    rw [BitVec.ofInt_natCast, BitVec.toNat_ofNat]; exact Nat.mod_eq_of_lt (by omega)
  show IntKind.i64.wrap ((BitVec.ofInt 64 (a : Int) ^^^ BitVec.ofInt 64 (b : Int)).toNat : Int) = _
  rw [BitVec.toNat_xor, h1, h2, IntKind.wrap_i64]
  omega
theorem cell_mod (z n : Nat) : Value.int IntKind.i64 ((z : Int) % (n : Int)) = .int .i64 ((z % n : Nat) : Int) := by rw [Int.natCast_emod]

set_option maxHeartbeats 1000000 in
theorem pick_none (b : Nat) (a : Option Addr) (c p n : Nat) (w : World) (h : Dr b a 0 c p w) (hp : p ≤ 1000000) (hn : 1 ≤ n) (hn2 : n ≤ 1000000) :
    Calls Try.prog 13 #[.pointer (some ⟨b, 0, none⟩), .int .i64 n] w fun e w' => ∃ k : Nat, e = .returned (.int .i64 k) ∧ k < n ∧ Dr b a 0 c (p + 1) w' ∧ w.grownBy w' (some b) := by
  have H := Lib.hid h
  have h1 : ¬ ((n : Int) < 1) := by omega
  obtain ⟨c0, c1, f1, _, _⟩ := h
  go_enter Try.func13, Try.ntmps13
  go_wp2_with fail
  go_ret
  exact ⟨0, rfl, by omega, H.out.set _, grownBy_setCell _ _ _ _⟩
set_option maxHeartbeats 1000000 in
theorem pick_in (b g o : Nat) (l c p n : Nat) (w : World) (h : Dr b (some ⟨g, o, none⟩) l c p w) (hg : g < b) (hp : p ≤ 1000000) (hn : 1 ≤ n) (hn2 : n ≤ 1000000) (hpl : p < l) (z : Nat) (hz : z < 256) (hc : w.cell? ⟨g, o + p, none⟩ = some (.int .u8 z)) :
    Calls Try.prog 13 #[.pointer (some ⟨b, 0, none⟩), .int .i64 n] w fun e w' => ∃ k : Nat, e = .returned (.int .i64 k) ∧ k < n ∧ Dr b (some ⟨g, o, none⟩) l c (p + 1) w' ∧ w.grownBy w' (some b) := by
  have H := Lib.hid h
  have h1 : ¬ ((n : Int) < 1) := by omega
  have h2 : ((l : Int) == 0) = false := by simp; omega
  have h3 : (p : Int) < (l : Int) := by omega
  have h4 : ¬ (n : Int) = 0 := by omega
  obtain ⟨c0, c1, f1, _, _⟩ := h
  go_enter Try.func13, Try.ntmps13
  go_wp2_with fail
  go_ret
  exact ⟨z % n, congrArg _ (cell_mod _ _), Nat.mod_lt _ (by omega), H.out.set _, grownBy_setCell _ _ _ _⟩
set_option maxHeartbeats 1000000 in
theorem pick_far (b g o : Nat) (l c p n : Nat) (w : World) (h : Dr b (some ⟨g, o, none⟩) l c p w) (hg : g < b) (hp : p ≤ 1000000) (hn : 1 ≤ n) (hn2 : n ≤ 1000000) (hl0 : 0 < l) (hpl : l ≤ p) (r1 r2 q z1 z2 : Nat) (hz1 : z1 < 256) (hz2 : z2 < 256) (hr1 : r1 < l) (hr2 : r2 < l) (hq : q ≤ 1000000)
    (e1 : (p : Int).tmod (l : Int) = (r1 : Int)) (e2 : ((p : Int) * 7 + 3).tmod (l : Int) = (r2 : Int)) (e3 : (p : Int).tdiv (l : Int) = (q : Int))
    (hc1 : w.cell? ⟨g, o + r1, none⟩ = some (.int .u8 z1)) (hc2 : w.cell? ⟨g, o + r2, none⟩ = some (.int .u8 z2)) :
    Calls Try.prog 13 #[.pointer (some ⟨b, 0, none⟩), .int .i64 n] w fun e w' => ∃ k : Nat, e = .returned (.int .i64 k) ∧ k < n ∧ Dr b (some ⟨g, o, none⟩) l c (p + 1) w' ∧ w.grownBy w' (some b) := by
  have H := Lib.hid h
  have h1 : ¬ ((n : Int) < 1) := by omega
  have h2 : ((l : Int) == 0) = false := by simp; omega
  have h3 : ¬ (p : Int) < (l : Int) := by omega
  have h4 : ¬ (n : Int) = 0 := by omega
  have h5 : ¬ (l : Int) = 0 := by omega
  obtain ⟨c0, c1, f1, _, _⟩ := h
  go_enter Try.func13, Try.ntmps13
  go_wp2_with fail
  go_quiet (fail)
  obtain ⟨X, hX, hXl⟩ : ∃ X : Nat, (z1 : Int) * 131 + (z2 : Int) * 1117 + (p : Int) * 29 + (q : Int) * 53 = (X : Int) ∧ X < 1000000000 := ⟨z1 * 131 + z2 * 1117 + p * 29 + q * 53, by omega, by omega⟩
  rw [hX]
  have hx : bits .xor .i64 (X : Int) ((X : Int) / 64) = ((X ^^^ (X / 64) : Nat) : Int) := by
    rw [show (X : Int) / 64 = ((X / 64 : Nat) : Int) by omega]
    exact xor_i64 _ _ (by omega) (by omega)
  obtain ⟨Y, hY⟩ : ∃ Y : Nat, X ^^^ (X / 64) = Y := ⟨_, rfl⟩
  rw [hY] at hx
  clear hX hY
  go_wp2_with fail
  go_ret
  exact ⟨Y % n, congrArg _ (cell_mod _ _), Nat.mod_lt _ (by omega), (H.out.set _).drewN _, grownBy_drewN (grownBy_setCell _ _ _ _) _⟩

theorem pick_c {b : Nat} {a : Option Addr} {l c p : Nat} {w : World} (h : Dr b a l c p w) (n : Nat) (hp : p ≤ 1000000) (hn : 1 ≤ n) (hn2 : n ≤ 1000000) :
    Calls Try.prog 13 #[.pointer (some ⟨b, 0, none⟩), .int .i64 n] w fun e w' => ∃ k : Nat, e = .returned (.int .i64 k) ∧ k < n ∧ Dr b a l c (p + 1) w' ∧ w.grownBy w' (some b) := by
  rcases h.src with rfl | ⟨g, o, rfl, hg, hz⟩
  · exact pick_none b a c p n w h hp hn hn2
  · by_cases h0 : l = 0
    · subst h0; exact pick_none b _ c p n w h hp hn hn2
    · by_cases hpl : p < l
      · obtain ⟨z, hz1, hz2⟩ := hz p hpl
        exact pick_in b g o l c p n w h hg hp hn hn2 hpl z hz1 hz2
      · have hl := h.hl
        obtain ⟨z1, hz1, hc1⟩ := hz (p % l) (Nat.mod_lt _ (by omega))
        obtain ⟨z2, hz2, hc2⟩ := hz ((p * 7 + 3) % l) (Nat.mod_lt _ (by omega))
        refine pick_far b g o l c p n w h hg hp hn hn2 (by omega) (by omega) (p % l) ((p * 7 + 3) % l) (p / l) z1 z2 hz1 hz2 (Nat.mod_lt _ (by omega)) (Nat.mod_lt _ (by omega)) (Nat.le_trans (Nat.div_le_self _ _) hp) ?_ ?_ ?_ hc1 hc2
        · rw [Int.tmod_eq_emod_of_nonneg (by omega), Int.natCast_emod]
        · rw [Int.tmod_eq_emod_of_nonneg (by omega), Int.natCast_emod]; norm_cast
        · rw [Int.tdiv_eq_ediv_of_nonneg (by omega), Int.natCast_ediv]

/-- The texts of a row. -/
def Row (w : World) (g : Nat) (ss : List Text) : Prop := ∀ j s, ss[j]? = some s → w.cell? ⟨g, j, none⟩ = some (.string ⟨s.toArray⟩)
set_option maxHeartbeats 1000000 in
theorem of_c {b : Nat} {a : Option Addr} {l c p : Nat} {w : World} (h : Dr b a l c p w) (g : Nat) (ss : List Text) (cap : Nat) (hrow : Row w g ss) (hgb : g ≠ b) (hp : p ≤ 1000000) (hn : 1 ≤ ss.length) (hn2 : ss.length ≤ 1000000) :
    Calls Try.prog 10 #[.pointer (some ⟨b, 0, none⟩), .slice (some ⟨g, 0, none⟩) ss.length cap] w fun e w' => ∃ s : Text, s ∈ ss ∧ e = .returned (.string ⟨s.toArray⟩) ∧ Dr b a l c (p + 1) w' ∧ w.grownBy w' (some b) := by
  have C := pick_c h ss.length hp hn hn2
  have hlt : ∀ j s, ss[j]? = some s → g < w.heap.size := fun j s hj => World.block_lt_of_cell? w ⟨g, j, none⟩ (hrow j s hj)
  have HR := Lib.hid hrow
  have HL := Lib.hid hlt
  clear hrow hlt
  go_enter Try.func10, Try.ntmps10
  go_wp2_with fail
  refine C.mono ?_
  rintro e w1 ⟨k, rfl, hk, hD, hg⟩
  obtain ⟨s, hs⟩ : ∃ s, ss[k]? = some s := ⟨_, List.getElem?_eq_getElem hk⟩
  have hc : w1.cell? ⟨g, k, none⟩ = some (.string ⟨s.toArray⟩) := (hg.cell (HR.out k s hs) (by simp; omega))
  have HS := Lib.hid (List.mem_of_getElem? hs)
  have HD := Lib.hid hD
  clear hs hD
  go_wp2_with fail
  go_ret
  exact ⟨s, HS.out, rfl, HD.out, hg⟩
end Go.Proofs.Ytdedhejpbnfnaaa
