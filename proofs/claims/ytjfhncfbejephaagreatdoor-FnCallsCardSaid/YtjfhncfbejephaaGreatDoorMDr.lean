import Derived.Test.YtjfhncfbejephaaGreatDoorMSp
import Derived.Laws.Bits64
import Derived.Laws.BitsLemmas
import Derived.Test.YtjfhncfbejephaaGreatDoorMFr
/- The model's drawn inputs: the reader of bytes. What is drawn is some number below n; of memory only the reader's place changes. -/
namespace Go.Proofs.YtjfhncfbejephaaGreatDoor
open Go.RowKit
open Ff
set_option linter.unusedVariables false

/-- The reader of bytes at block b: it reads l bytes at a, and stands at p. -/
structure Dr (b : Nat) (a : Option Addr) (l c p : Nat) (w : World) : Prop where
  c0 : w.cell? ⟨b, 0, none⟩ = some (.slice a l c)
  c1 : w.cell? ⟨b, 1, none⟩ = some (.int .i64 p)
  f1 : w.frozen? ⟨b, 1, none⟩ = false
  src : l = 0 ∨ ∃ g o, a = some ⟨g, o, none⟩ ∧ g < b ∧ ∀ i, i < l → ∃ z : Nat, z < 256 ∧ w.cell? ⟨g, o + i, none⟩ = some (.int .u8 z)
  hl : l ≤ 2000
theorem Dr.lt {b : Nat} {a : Option Addr} {l c p : Nat} {w : World} (h : Dr b a l c p w) : b < w.heap.size := World.block_lt_of_cell? w ⟨b, 0, none⟩ h.c0
theorem Dr.keep {b : Nat} {a : Option Addr} {l c p : Nat} {w w' : World} (h : Dr b a l c p w) (hb : Below w.heap.size w w') : Dr b a l c p w' := by
  have hlt := h.lt
  refine ⟨(hb.cell (p := ⟨b, 0, none⟩) hlt).trans h.c0, (hb.cell (p := ⟨b, 1, none⟩) hlt).trans h.c1, (hb.frozen (p := ⟨b, 1, none⟩) hlt).trans h.f1, ?_, h.hl⟩
  rcases h.src with h0 | ⟨g, o, ha, hg, hz⟩
  · exact .inl h0
  · refine .inr ⟨g, o, ha, hg, fun i hi => ?_⟩
    obtain ⟨z, h1, h2⟩ := hz i hi
    exact ⟨z, h1, (hb.cell (p := ⟨g, o + i, none⟩) (by show g < _; omega)).trans h2⟩
theorem Dr.alloc {b : Nat} {a : Option Addr} {l c p : Nat} {w : World} (h : Dr b a l c p w) (o : Obj) : Dr b a l c p (w.alloc o) := h.keep ((Below.refl _ _).alloc (Nat.le_refl _) o)
theorem Dr.drew {b : Nat} {a : Option Addr} {l c p : Nat} {w : World} (h : Dr b a l c p w) : Dr b a l c p w.drew := h.keep (Below.refl _ _).drew
theorem Dr.set {b : Nat} {a : Option Addr} {l c p : Nat} {w : World} (h : Dr b a l c p w) (q : Nat) : Dr b a l c q (w.setCell ⟨b, 1, none⟩ (.int .i64 q)) := by
  refine ⟨?_, World.cell?_setCell_same _ _ _ h.c1, by rw [World.frozen?_setCell]; exact h.f1, ?_, h.hl⟩
  · rw [World.cell?_setCell_other _ _ _ _ (by simp)]; exact h.c0
  · rcases h.src with h0 | ⟨g, o, ha, hg, hz⟩
    · exact .inl h0
    · refine .inr ⟨g, o, ha, hg, fun i hi => ?_⟩
      obtain ⟨z, h1, h2⟩ := hz i hi
      exact ⟨z, h1, by rw [World.cell?_setCell_other _ _ _ _ (by simp <;> omega)]; exact h2⟩
theorem Dr.drewN {b : Nat} {a : Option Addr} {l c p : Nat} {w : World} (h : Dr b a l c p w) (n : Nat) : Dr b a l c p (w.drewN n) := ⟨h.c0, h.c1, h.f1, h.src, h.hl⟩
theorem xor_i64 (a b : Nat) (ha : a < 1073741824) (hb : b < 1073741824) : bits .xor .i64 (a : Int) (b : Int) = ((a ^^^ b : Nat) : Int) := by
  have hx : a ^^^ b < 2 ^ 30 := Nat.xor_lt_two_pow (by omega) (by omega)
  have h1 : (BitVec.ofInt 64 (a : Int)).toNat = a := by
    rw [BitVec.ofInt_natCast, BitVec.toNat_ofNat]; exact Nat.mod_eq_of_lt (by omega)
  have h2 : (BitVec.ofInt 64 (b : Int)).toNat = b := by
    rw [BitVec.ofInt_natCast, BitVec.toNat_ofNat]; exact Nat.mod_eq_of_lt (by omega)
  show IntKind.i64.wrap ((BitVec.ofInt 64 (a : Int) ^^^ BitVec.ofInt 64 (b : Int)).toNat : Int) = _
  rw [BitVec.toNat_xor, h1, h2, IntKind.wrap_i64]
  omega
theorem cell_mod (z n : Nat) : Value.int IntKind.i64 ((z : Int) % (n : Int)) = .int .i64 ((z % n : Nat) : Int) := by rw [Int.natCast_emod]

set_option maxHeartbeats 1000000 in
theorem pick_none (b : Nat) (a : Option Addr) (c p n : Nat) (w : World) (h : Dr b a 0 c p w) (hp : p ≤ 1000000) (hn : 1 ≤ n) (hn2 : n ≤ 1000000) :
    Calls Tryz.prog 18 #[.pointer (some ⟨b, 0, none⟩), .int .i64 n] w fun e w' => ∃ k : Nat, e = .returned (.int .i64 k) ∧ k < n ∧ Dr b a 0 c (p + 1) w' ∧ w.grownBy w' (some b) := by
  have H := Lib.hid h
  have h1 : ¬ ((n : Int) < 1) := by omega
  obtain ⟨c0, c1, f1, _, _⟩ := h
  go_enter Tryz.func18, Tryz.ntmps18
  go_wp2_with fail
  go_ret
  exact ⟨0, rfl, by omega, H.out.set _, grownBy_setCell _ _ _ _⟩
set_option maxHeartbeats 1000000 in
theorem pick_in (b g o : Nat) (l c p n : Nat) (w : World) (h : Dr b (some ⟨g, o, none⟩) l c p w) (hg : g < b) (hp : p ≤ 1000000) (hn : 1 ≤ n) (hn2 : n ≤ 1000000) (hpl : p < l) (z : Nat) (hz : z < 256) (hc : w.cell? ⟨g, o + p, none⟩ = some (.int .u8 z)) :
    Calls Tryz.prog 18 #[.pointer (some ⟨b, 0, none⟩), .int .i64 n] w fun e w' => ∃ k : Nat, e = .returned (.int .i64 k) ∧ k < n ∧ Dr b (some ⟨g, o, none⟩) l c (p + 1) w' ∧ w.grownBy w' (some b) := by
  have H := Lib.hid h
  have h1 : ¬ ((n : Int) < 1) := by omega
  have h2 : ((l : Int) == 0) = false := by simp; omega
  have h3 : (p : Int) < (l : Int) := by omega
  have h4 : ¬ (n : Int) = 0 := by omega
  obtain ⟨c0, c1, f1, _, _⟩ := h
  go_enter Tryz.func18, Tryz.ntmps18
  go_wp2_with fail
  go_ret
  exact ⟨z % n, congrArg _ (cell_mod _ _), Nat.mod_lt _ (by omega), H.out.set _, grownBy_setCell _ _ _ _⟩
set_option maxHeartbeats 1000000 in
theorem pick_far (b g o : Nat) (l c p n : Nat) (w : World) (h : Dr b (some ⟨g, o, none⟩) l c p w) (hg : g < b) (hp : p ≤ 1000000) (hn : 1 ≤ n) (hn2 : n ≤ 1000000) (hl0 : 0 < l) (hpl : l ≤ p) (r1 r2 q z1 z2 : Nat) (hz1 : z1 < 256) (hz2 : z2 < 256) (hr1 : r1 < l) (hr2 : r2 < l) (hq : q ≤ 1000000)
    (e1 : (p : Int).tmod (l : Int) = (r1 : Int)) (e2 : ((p : Int) * 7 + 3).tmod (l : Int) = (r2 : Int)) (e3 : (p : Int).tdiv (l : Int) = (q : Int))
    (hc1 : w.cell? ⟨g, o + r1, none⟩ = some (.int .u8 z1)) (hc2 : w.cell? ⟨g, o + r2, none⟩ = some (.int .u8 z2)) :
    Calls Tryz.prog 18 #[.pointer (some ⟨b, 0, none⟩), .int .i64 n] w fun e w' => ∃ k : Nat, e = .returned (.int .i64 k) ∧ k < n ∧ Dr b (some ⟨g, o, none⟩) l c (p + 1) w' ∧ w.grownBy w' (some b) := by
  have H := Lib.hid h
  have h1 : ¬ ((n : Int) < 1) := by omega
  have h2 : ((l : Int) == 0) = false := by simp; omega
  have h3 : ¬ (p : Int) < (l : Int) := by omega
  have h4 : ¬ (n : Int) = 0 := by omega
  have h5 : ¬ (l : Int) = 0 := by omega
  obtain ⟨c0, c1, f1, _, _⟩ := h
  go_enter Tryz.func18, Tryz.ntmps18
  go_wp2_with fail
  go_quiet (fail)
  obtain ⟨X, hX, hXl⟩ : ∃ X : Nat, (z1 : Int) * 131 + (z2 : Int) * 1117 + (p : Int) * 29 + (q : Int) * 53 = (X : Int) ∧ X < 1000000000 := ⟨z1 * 131 + z2 * 1117 + p * 29 + q * 53, by omega, by omega⟩
  rw [hX]
  have hx : bits .xor .i64 (X : Int) ((X : Int) / 64) = ((X ^^^ (X / 64) : Nat) : Int) := by
    rw [show (X : Int) / 64 = ((X / 64 : Nat) : Int) by omega]
    exact xor_i64 _ _ (by omega) (by omega)
  obtain ⟨Y, hY⟩ : ∃ Y : Nat, X ^^^ (X / 64) = Y := ⟨_, rfl⟩
  rw [hY] at hx
  clear hX hY
  go_wp2_with fail
  go_ret
  exact ⟨Y % n, congrArg _ (cell_mod _ _), Nat.mod_lt _ (by omega), (H.out.set _).drewN _, grownBy_drewN (grownBy_setCell _ _ _ _) _⟩

theorem pick_c {b : Nat} {a : Option Addr} {l c p : Nat} {w : World} (h : Dr b a l c p w) (n : Nat) (hp : p ≤ 1000000) (hn : 1 ≤ n) (hn2 : n ≤ 1000000) :
    Calls Tryz.prog 18 #[.pointer (some ⟨b, 0, none⟩), .int .i64 n] w fun e w' => ∃ k : Nat, e = .returned (.int .i64 k) ∧ k < n ∧ Dr b a l c (p + 1) w' ∧ w.grownBy w' (some b) := by
  rcases h.src with rfl | ⟨g, o, rfl, hg, hz⟩
  · exact pick_none b a c p n w h hp hn hn2
  · by_cases h0 : l = 0
    · subst h0; exact pick_none b _ c p n w h hp hn hn2
    · by_cases hpl : p < l
      · obtain ⟨z, hz1, hz2⟩ := hz p hpl
        exact pick_in b g o l c p n w h hg hp hn hn2 hpl z hz1 hz2
      · have hl := h.hl
        obtain ⟨z1, hz1, hc1⟩ := hz (p % l) (Nat.mod_lt _ (by omega))
        obtain ⟨z2, hz2, hc2⟩ := hz ((p * 7 + 3) % l) (Nat.mod_lt _ (by omega))
        refine pick_far b g o l c p n w h hg hp hn hn2 (by omega) (by omega) (p % l) ((p * 7 + 3) % l) (p / l) z1 z2 hz1 hz2 (Nat.mod_lt _ (by omega)) (Nat.mod_lt _ (by omega)) (Nat.le_trans (Nat.div_le_self _ _) hp) ?_ ?_ ?_ hc1 hc2
        · rw [Int.tmod_eq_emod_of_nonneg (by omega), Int.natCast_emod]
        · rw [Int.tmod_eq_emod_of_nonneg (by omega), Int.natCast_emod]; norm_cast
        · rw [Int.tdiv_eq_ediv_of_nonneg (by omega), Int.natCast_ediv]

/-- The texts of a row. -/
def Row (w : World) (g : Nat) (ss : List Text) : Prop := ∀ j s, ss[j]? = some s → w.cell? ⟨g, j, none⟩ = some (.string ⟨s.toArray⟩)
set_option maxHeartbeats 1000000 in
theorem of_c {b : Nat} {a : Option Addr} {l c p : Nat} {w : World} (h : Dr b a l c p w) (g : Nat) (ss : List Text) (cap : Nat) (hrow : Row w g ss) (hgb : g ≠ b) (hp : p ≤ 1000000) (hn : 1 ≤ ss.length) (hn2 : ss.length ≤ 1000000) :
    Calls Tryz.prog 35 #[.pointer (some ⟨b, 0, none⟩), .slice (some ⟨g, 0, none⟩) ss.length cap] w fun e w' => ∃ s : Text, s ∈ ss ∧ e = .returned (.string ⟨s.toArray⟩) ∧ Dr b a l c (p + 1) w' ∧ w.grownBy w' (some b) := by
  have C := pick_c h ss.length hp hn hn2
  have hlt : ∀ j s, ss[j]? = some s → g < w.heap.size := fun j s hj => World.block_lt_of_cell? w ⟨g, j, none⟩ (hrow j s hj)
  have HR := Lib.hid hrow
  have HL := Lib.hid hlt
  clear hrow hlt
  go_enter Tryz.func35, Tryz.ntmps35
  go_wp2_with fail
  refine C.mono ?_
  rintro e w1 ⟨k, rfl, hk, hD, hg⟩
  obtain ⟨s, hs⟩ : ∃ s, ss[k]? = some s := ⟨_, List.getElem?_eq_getElem hk⟩
  have hc : w1.cell? ⟨g, k, none⟩ = some (.string ⟨s.toArray⟩) := (hg.cell (HR.out k s hs) (by simp; omega))
  have HS := Lib.hid (List.mem_of_getElem? hs)
  have HD := Lib.hid hD
  clear hs hD
  go_wp2_with fail
  go_ret
  exact ⟨s, HS.out, rfl, HD.out, hg⟩
end Go.Proofs.YtjfhncfbejephaaGreatDoor

/- The model's drawn inputs: the known terms. -/
namespace Go.Proofs.YtjfhncfbejephaaGreatDoor
open Go.RowKit
open Ff
set_option linter.unusedVariables false

/-- A text without its spaces. -/
def strip (s : Text) : Text := s.filter (fun c => !(((c.toNat : Int)) == 32))
theorem strip_take (s : Text) (k : Nat) (c : UInt8) (h : s[k]? = some c) : strip (s.take (k + 1)) = strip (s.take k) ++ (if ((c.toNat : Int) == 32) then [] else [c]) := by
  unfold strip
  rw [List.take_add_one, h]
  simp only [Option.toList_some, List.filter_append]
  cases h2 : ((c.toNat : Int) == 32) <;> simp [h2]
theorem known_at : ∀ (k : Nat) (h : k < 15), ∃ s : Text, ([.string ⟨#[40, 92, 106, 43, 106, 49, 32, 51, 41]⟩, .string ⟨#[40, 40, 92, 97, 92, 98, 43, 97, 98, 32, 50, 41, 51, 41]⟩, .string ⟨#[40, 64, 102, 110, 63, 110, 49, 42, 110, 40, 102, 45, 110, 49, 41, 53, 41]⟩, .string ⟨#[61, 97, 50, 61, 102, 92, 106, 43, 106, 97, 40, 102, 51, 41]⟩, .string ⟨#[40, 92, 102, 40, 102, 49, 41, 92, 103, 43, 103, 50, 41]⟩, .string ⟨#[40, 92, 102, 40, 102, 40, 102, 49, 41, 41, 92, 106, 42, 106, 50, 41]⟩, .string ⟨#[61, 99, 92, 103, 92, 104, 92, 110, 40, 103, 40, 104, 110, 41, 41, 40, 40, 40, 99, 92, 97, 43, 97, 49, 41, 92, 98, 42, 98, 51, 41, 52, 41]⟩, .string ⟨#[40, 49, 32, 50, 41]⟩, .string ⟨#[43, 49, 92, 97, 97]⟩, .string ⟨#[40, 92, 97, 40, 97, 97, 41, 92, 97, 40, 97, 97, 41, 41]⟩, .string ⟨#[40, 40, 92, 97, 92, 98, 98, 32, 49, 41, 50, 41]⟩, .string ⟨#[61, 107, 92, 97, 92, 98, 97, 40, 40, 107, 55, 41, 40, 64, 102, 103, 57, 32, 49, 41, 41]⟩, .string ⟨#[63, 48, 32, 51, 32, 52]⟩, .string ⟨#[61, 97, 49, 61, 97, 43, 97, 49, 61, 97, 43, 97, 49, 32, 97]⟩, .string ⟨#[40, 40, 64, 109, 97, 92, 98, 63, 97, 98, 43, 49, 40, 40, 109, 45, 97, 49, 41, 98, 41, 51, 41, 52, 41]⟩] : List Value)[k] = .string ⟨s.toArray⟩ ∧ s.length ≤ 40 ∧ 0 < (strip s).length
  | 0, _ => ⟨[40, 92, 106, 43, 106, 49, 32, 51, 41], rfl, by decide, by decide⟩
  | 1, _ => ⟨[40, 40, 92, 97, 92, 98, 43, 97, 98, 32, 50, 41, 51, 41], rfl, by decide, by decide⟩
  | 2, _ => ⟨[40, 64, 102, 110, 63, 110, 49, 42, 110, 40, 102, 45, 110, 49, 41, 53, 41], rfl, by decide, by decide⟩
  | 3, _ => ⟨[61, 97, 50, 61, 102, 92, 106, 43, 106, 97, 40, 102, 51, 41], rfl, by decide, by decide⟩
  | 4, _ => ⟨[40, 92, 102, 40, 102, 49, 41, 92, 103, 43, 103, 50, 41], rfl, by decide, by decide⟩
  | 5, _ => ⟨[40, 92, 102, 40, 102, 40, 102, 49, 41, 41, 92, 106, 42, 106, 50, 41], rfl, by decide, by decide⟩
  | 6, _ => ⟨[61, 99, 92, 103, 92, 104, 92, 110, 40, 103, 40, 104, 110, 41, 41, 40, 40, 40, 99, 92, 97, 43, 97, 49, 41, 92, 98, 42, 98, 51, 41, 52, 41], rfl, by decide, by decide⟩
  | 7, _ => ⟨[40, 49, 32, 50, 41], rfl, by decide, by decide⟩
  | 8, _ => ⟨[43, 49, 92, 97, 97], rfl, by decide, by decide⟩
  | 9, _ => ⟨[40, 92, 97, 40, 97, 97, 41, 92, 97, 40, 97, 97, 41, 41], rfl, by decide, by decide⟩
  | 10, _ => ⟨[40, 40, 92, 97, 92, 98, 98, 32, 49, 41, 50, 41], rfl, by decide, by decide⟩
  | 11, _ => ⟨[61, 107, 92, 97, 92, 98, 97, 40, 40, 107, 55, 41, 40, 64, 102, 103, 57, 32, 49, 41, 41], rfl, by decide, by decide⟩
  | 12, _ => ⟨[63, 48, 32, 51, 32, 52], rfl, by decide, by decide⟩
  | 13, _ => ⟨[61, 97, 49, 61, 97, 43, 97, 49, 61, 97, 43, 97, 49, 32, 97], rfl, by decide, by decide⟩
  | 14, _ => ⟨[40, 40, 64, 109, 97, 92, 98, 63, 97, 98, 43, 49, 40, 40, 109, 45, 97, 49, 41, 98, 41, 51, 41, 52, 41], rfl, by decide, by decide⟩

set_option maxRecDepth 100000 in
set_option maxHeartbeats 1000000 in
theorem known_c (k : Nat) (w : World) (hk : k < 15) :
    Calls Tryz.prog 37 #[.int .i64 k] w fun e w' => ∃ s : Text, e = .returned (.string ⟨s.toArray⟩) ∧ 0 < s.length ∧ s.length ≤ 40 ∧ Below w.heap.size w w' := by
  have h1 : (k : Int) % 15 = k := by omega
  have h2 : (k : Int).tmod 15 = k := by rw [Int.tmod_eq_emod_of_nonneg (by omega)]; omega
  obtain ⟨s, hs, hl, hp⟩ := known_at k hk
  have HP := Lib.hid hp
  clear hp
  go_enter Tryz.func37, Tryz.ntmps37
  go_wp2_with fail
  have hsz := size_data s
  clear hs
  obtain ⟨W1, hW1, hB⟩ : ∃ W1, w.alloc (.cells #[.string ⟨#[40, 92, 106, 43, 106, 49, 32, 51, 41]⟩, .string ⟨#[40, 40, 92, 97, 92, 98, 43, 97, 98, 32, 50, 41, 51, 41]⟩, .string ⟨#[40, 64, 102, 110, 63, 110, 49, 42, 110, 40, 102, 45, 110, 49, 41, 53, 41]⟩, .string ⟨#[61, 97, 50, 61, 102, 92, 106, 43, 106, 97, 40, 102, 51, 41]⟩, .string ⟨#[40, 92, 102, 40, 102, 49, 41, 92, 103, 43, 103, 50, 41]⟩, .string ⟨#[40, 92, 102, 40, 102, 40, 102, 49, 41, 41, 92, 106, 42, 106, 50, 41]⟩, .string ⟨#[61, 99, 92, 103, 92, 104, 92, 110, 40, 103, 40, 104, 110, 41, 41, 40, 40, 40, 99, 92, 97, 43, 97, 49, 41, 92, 98, 42, 98, 51, 41, 52, 41]⟩, .string ⟨#[40, 49, 32, 50, 41]⟩, .string ⟨#[43, 49, 92, 97, 97]⟩, .string ⟨#[40, 92, 97, 40, 97, 97, 41, 92, 97, 40, 97, 97, 41, 41]⟩, .string ⟨#[40, 40, 92, 97, 92, 98, 98, 32, 49, 41, 50, 41]⟩, .string ⟨#[61, 107, 92, 97, 92, 98, 97, 40, 40, 107, 55, 41, 40, 64, 102, 103, 57, 32, 49, 41, 41]⟩, .string ⟨#[63, 48, 32, 51, 32, 52]⟩, .string ⟨#[61, 97, 49, 61, 97, 43, 97, 49, 61, 97, 43, 97, 49, 32, 97]⟩, .string ⟨#[40, 40, 64, 109, 97, 92, 98, 63, 97, 98, 43, 49, 40, 40, 109, 45, 97, 49, 41, 98, 41, 51, 41, 52, 41]⟩] 9) = W1 ∧ Below w.heap.size w W1 := ⟨_, rfl, (Below.refl _ w).alloc (Nat.le_refl _) _⟩
  rw [hW1]
  clear hW1
  go_loopw [5, 17] (fun o i wr => ∃ (k : Nat) (out : Text), k ≤ s.length ∧ i = .int .i64 k ∧ o = .string ⟨out.toArray⟩ ∧ out = strip (s.take k) ∧ out.length ≤ k ∧ wr = W1) (fun _ i _ => s.length - (intOf i).toNat)
  case atStart => exact ⟨0, [], Nat.zero_le _, rfl, rfl, rfl, Nat.le_refl _, rfl⟩
  case round =>
    obtain ⟨k, out, hk, rfl, rfl, ho, hol, rfl⟩ := hrel
    have HO := Lib.hid ho
    clear ho
    by_cases hlt : k < s.length
    · obtain ⟨d, hd⟩ : ∃ d, s[k]? = some d := ⟨_, List.getElem?_eq_getElem hlt⟩
      have hix := index_byte s k d hd (by rw [size_data]; exact hlt)
      cases h3 : ((d.toNat : Int) == 32) with
      | true =>
        have HD := Lib.hid hd
        have H3 := Lib.hid h3
        go_wp2_with fail
        exact ⟨⟨k + 1, out, by omega, by go_num, rfl, by rw [strip_take s k d HD.out, H3.out, HO.out]; simp, by omega, trivial⟩, by simp [intOf]; omega⟩
      | false =>
        have HD := Lib.hid hd
        have H3 := Lib.hid h3
        go_wp2_with fail
        exact ⟨⟨k + 1, out ++ [d], by omega, by go_num, by rw [extract_one s k d HD.out, str_app], by rw [strip_take s k d HD.out, H3.out, HO.out]; simp, by simp; omega, trivial⟩, by simp [intOf]; omega⟩
    · obtain rfl : k = s.length := by omega
      have hk2 : s.take s.length = s := List.take_of_length_le (Nat.le_refl _)
      rw [hk2] at HO
      go_wp2_with fail
      go_ret
      exact ⟨out, rfl, by rw [HO.out]; exact HP.out, by omega, hB⟩
end Go.Proofs.YtjfhncfbejephaaGreatDoor

/- The model's drawn inputs: l1Draw. -/
namespace Go.Proofs.YtjfhncfbejephaaGreatDoor
open Go.RowKit
open Ff
set_option linter.unusedVariables false

theorem pick_i {b : Nat} {a : Option Addr} {l c p : Nat} {w : World} (h : Dr b a l c p w) (m : Int) (hp : p ≤ 1000000) (hn : 1 ≤ m) (hn2 : m ≤ 1000000) :
    Calls Tryz.prog 18 #[.pointer (some ⟨b, 0, none⟩), .int .i64 m] w fun e w' => ∃ k : Nat, e = .returned (.int .i64 k) ∧ (k : Int) < m ∧ Dr b a l c (p + 1) w' ∧ w.grownBy w' (some b) := by
  obtain ⟨n, rfl⟩ := Int.eq_ofNat_of_zero_le (show 0 ≤ m by omega)
  exact (pick_c h n hp (by omega) (by omega)).mono fun e w' ⟨k, he, hk, h1, h2⟩ => ⟨k, he, by omega, h1, h2⟩
theorem row_new (w : World) (ss : List Text) (t : TypeId) : Row (w.alloc (.cells (ss.map (fun s => Value.string ⟨s.toArray⟩)).toArray t)) w.heap.size ss := by
  intro j s hj
  have h : (w.alloc (.cells (ss.map (fun s => Value.string ⟨s.toArray⟩)).toArray t)).cell? ⟨w.heap.size, j, none⟩ = (ss.map (fun s => Value.string ⟨s.toArray⟩))[j]? := by
    show (match (w.heap.push _)[w.heap.size]? with | some (.cells c _ _) => if (none : Option Nat).isSome then none else c[j]? | _ => none) = _
    simp
  rw [h, List.getElem?_map, hj]
  rfl
theorem of_new {b : Nat} {a : Option Addr} {l c p : Nat} {w : World} (h : Dr b a l c p w) (ss : List Text) (t : TypeId) (k : Nat) (hk : ∀ s ∈ ss, s.length ≤ k) (hp : p ≤ 1000000) (hn : 1 ≤ ss.length) (hn2 : ss.length ≤ 1000000) :
    Calls Tryz.prog 35 #[.pointer (some ⟨b, 0, none⟩), .slice (some ⟨w.heap.size, 0, none⟩) ss.length ss.length] (w.alloc (.cells (ss.map (fun s => Value.string ⟨s.toArray⟩)).toArray t)) fun e w' => ∃ s : ByteArray, s.size ≤ k ∧ e = .returned (.string s) ∧ Dr b a l c (p + 1) w' ∧ w.grownBy w' (some b) :=
  (of_c (h.alloc _) w.heap.size ss ss.length (row_new w ss t) (by have := h.lt; omega) hp hn hn2).mono fun e w' ⟨s, hs, he, h1, h2⟩ => ⟨⟨s.toArray⟩, by rw [size_data]; exact hk s hs, he, h1, grownBy_trans (grownBy_alloc (World.grownBy.refl _ _) _) h2⟩

/-- How long what is drawn can be; how many bytes a draw can take. -/
def dM : Nat → Nat
  | 0 => 3
  | n + 1 => 3 * dM n + 7
def dN : Nat → Nat
  | 0 => 3
  | n + 1 => 3 * dN n + 6
def DrawC (n : Nat) : Prop := ∀ (b : Nat) (a : Option Addr) (l c p : Nat) (names : ByteArray) (w : World), Dr b a l c p w → p + dN n ≤ 100000 → names.size + n ≤ 100 → dM n ≤ 100000 →
  Calls Tryz.prog 51 #[.pointer (some ⟨b, 0, none⟩), .string names, .int .i64 n] w fun e w' => ∃ (s : ByteArray) (p' : Nat), e = .returned (.string s) ∧ s.size ≤ dM n ∧ p' ≤ p + dN n ∧ Dr b a l c p' w' ∧ w.grownBy w' (some b)

/-- A reader, and that from w0 on it alone has changed. -/
structure DG (b : Nat) (a : Option Addr) (l c : Nat) (w0 : World) (p : Nat) (w : World) : Prop where
  dr : Dr b a l c p w
  gr : w0.grownBy w (some b)
theorem pick_g {b : Nat} {a : Option Addr} {l c p : Nat} {w0 w : World} (h : DG b a l c w0 p w) (m : Int) (hp : p ≤ 1000000) (hn : 1 ≤ m) (hn2 : m ≤ 1000000) :
    Calls Tryz.prog 18 #[.pointer (some ⟨b, 0, none⟩), .int .i64 m] w fun e w' => ∃ k : Nat, e = .returned (.int .i64 k) ∧ (k : Int) < m ∧ DG b a l c w0 (p + 1) w' :=
  (pick_i h.dr m hp hn hn2).mono fun e w' ⟨k, he, hk, h1, h2⟩ => ⟨k, he, hk, h1, grownBy_trans h.gr h2⟩
theorem of_g {b : Nat} {a : Option Addr} {l c p : Nat} {w0 w : World} (h : DG b a l c w0 p w) (ss : List Text) (t : TypeId) (k : Nat) (hk : ∀ s ∈ ss, s.length ≤ k) (hp : p ≤ 1000000) (hn : 1 ≤ ss.length) (hn2 : ss.length ≤ 1000000) :
    Calls Tryz.prog 35 #[.pointer (some ⟨b, 0, none⟩), .slice (some ⟨w.heap.size, 0, none⟩) ss.length ss.length] (w.alloc (.cells (ss.map (fun s => Value.string ⟨s.toArray⟩)).toArray t)) fun e w' => ∃ s : ByteArray, s.size ≤ k ∧ e = .returned (.string s) ∧ DG b a l c w0 (p + 1) w' :=
  (of_new h.dr ss t k hk hp hn hn2).mono fun e w' ⟨s, hs, he, h1, h2⟩ => ⟨s, hs, he, h1, grownBy_trans h.gr h2⟩

theorem loop_len (b : ByteArray) : ∀ (n i : Nat) (r : List UInt8), b.size - i = n → (ByteArray.toList.loop b i r).length = n + r.length := by
  intro n
  induction n with
  | zero => intro i r h; unfold ByteArray.toList.loop; rw [if_neg (by omega)]; simp
  | succ n ih => intro i r h; unfold ByteArray.toList.loop; rw [if_pos (by omega), ih (i+1) _ (by omega)]; simp; omega
theorem full {names : ByteArray} (h : 0 < names.size) : names.toList.isEmpty = false := by
  have k := loop_len names _ 0 [] rfl
  have e : names.toList = ByteArray.toList.loop names 0 [] := rfl
  cases h2 : names.toList with
  | nil => rw [← e, h2] at k; simp at k; omega
  | cons => rfl
theorem bare {names : ByteArray} (h : names.size = 0) : names = ⟨#[]⟩ := by obtain ⟨⟨l⟩⟩ := names; simp [ByteArray.size] at h; rw [h]
/-- What l1Draw answers. -/
def DrawP (b : Nat) (a : Option Addr) (l c : Nat) (w0 : World) (p n : Nat) (e : Ending) (w' : World) : Prop := ∃ (s : ByteArray) (p' : Nat), e = .returned (.string s) ∧ s.size ≤ dM n ∧ p' ≤ p + dN n ∧ DG b a l c w0 p' w'
theorem DrawC.g {n : Nat} (ih : DrawC n) {b : Nat} {a : Option Addr} {l c p : Nat} {names : ByteArray} {w0 w : World} (h : DG b a l c w0 p w) (hp : p + dN n ≤ 100000) (hn : names.size + n ≤ 100) (hm : dM n ≤ 100000) :
    Calls Tryz.prog 51 #[.pointer (some ⟨b, 0, none⟩), .string names, .int .i64 n] w fun e w' => ∃ (s : ByteArray) (p' : Nat), e = .returned (.string s) ∧ s.size ≤ dM n ∧ p' ≤ p + dN n ∧ DG b a l c w0 p' w' :=
  (ih b a l c p names w h.dr hp hn hm).mono fun e w' ⟨s, p', he, hs, h0, h1, h2⟩ => ⟨s, p', he, hs, h0, h1, grownBy_trans h.gr h2⟩
attribute [local irreducible] Calls
theorem ext1 (s : ByteArray) (k : Nat) : (s.extract k (k + 1)).size ≤ 1 := by rw [ByteArray.size_extract]; omega

set_option maxRecDepth 100000 in
set_option maxHeartbeats 4000000 in
theorem draw_zero : DrawC 0 := by
  intro b a l c p names w h hp hn _
  have hD : DG b a l c w p w := ⟨h, World.grownBy.refl _ _⟩
  clear h
  show Calls Tryz.prog 51 #[.pointer (some ⟨b, 0, none⟩), .string names, .int .i64 0] w _
  simp only [dN] at hp ⊢
  have hM : ∀ s : ByteArray, s.size ≤ 3 → s.size ≤ dM 0 := fun s hs => hs
  generalize dM 0 = M at hM ⊢
  by_cases h0 : names.size = 0
  · obtain rfl := bare h0
    go_enter Tryz.func51, Tryz.ntmps51
    go_wp2_with (first | (go_at_call 35; refine (of_g (by assumption) [[49], [48], [50], [55], [53], [35, 52, 50]] _ 3 (by decide) (by omega) (by decide) (by decide)).mono ?_; rintro e w1 ⟨s, hs, rfl, hD⟩))
    go_ret
    exact ⟨s, _, rfl, hM s hs, by omega, hD.dr, hD.gr⟩
  · have hi := full (names := names) (by omega)
    go_enter Tryz.func51, Tryz.ntmps51
    go_wp2_with (first
      | (go_at_call 35; refine (of_g (by assumption) [[49], [48], [50], [55], [53], [35, 52, 50]] _ 3 (by decide) (by omega) (by decide) (by decide)).mono ?_; rintro e w1 ⟨s, hs, rfl, hD⟩)
      | (go_at_call 18; refine (pick_g (by assumption) _ (by omega) (by omega) (by omega)).mono ?_; rintro e w1 ⟨k, rfl, hk, hD⟩))
    · go_ret
      exact ⟨_, _, rfl, hM _ (Nat.le_trans (ext1 _ _) (by omega)), by omega, hD.dr, hD.gr⟩
    · go_ret
      exact ⟨s, _, rfl, hM s hs, by omega, hD.dr, hD.gr⟩
end Go.Proofs.YtjfhncfbejephaaGreatDoor

/- The model's drawn inputs: l1Draw, a step. -/
namespace Go.Proofs.YtjfhncfbejephaaGreatDoor
open Go.RowKit
open Ff
set_option linter.unusedVariables false
set_option linter.unusedSimpArgs false
attribute [local irreducible] Calls

theorem lit_size (s : Text) : (⟨s.toArray⟩ : ByteArray).size = s.length := size_data s
set_option maxRecDepth 100000 in
set_option maxHeartbeats 8000000 in
theorem draw_step (n : Nat) (ih : DrawC n) : DrawC (n + 1) := by
  intro b a l c p names w h hp hn hm
  have hD : DG b a l c w p w := ⟨h, World.grownBy.refl _ _⟩
  clear h
  simp only [dN] at hp ⊢
  have hM : ∀ s : ByteArray, s.size ≤ 3 * dM n + 7 → s.size ≤ dM (n + 1) := fun s hs => hs
  have hm1 : 3 * dM n + 7 ≤ 100000 := hm
  clear hm
  generalize dM (n + 1) = M at hM ⊢
  have C := fun (p : Nat) (names : ByteArray) (w' : World) (h : DG b a l c w p w') (hp : p + dN n ≤ 100000) (hn : names.size + n ≤ 100) => ih.g h hp hn (by omega)
  generalize dN n = N at hp C ⊢
  generalize dM n = L at hm1 hM C ⊢
  clear ih
  have hn0 : ((n : Int) + 1 == 0) = false := by simp; omega
  have hd1 : (⟨#[100]⟩ : ByteArray).size = 1 := rfl
  show Calls Tryz.prog 51 #[.pointer (some ⟨b, 0, none⟩), .string names, .int .i64 ((n : Int) + 1)] w _
  by_cases h0 : names.size = 0
  · obtain rfl := bare h0
    go_enter Tryz.func51, Tryz.ntmps51
    go_wp2_with fail
    refine (pick_g hD _ (by omega) (by omega) (by omega)).mono ?_; rintro e w1 ⟨k1, rfl, hk1, hD1⟩
    go_wp2_with fail
    · refine (of_g hD1 [[49], [48], [50], [55], [53], [35, 52, 50]] _ 3 (by decide) (by omega) (by decide) (by decide)).mono ?_; rintro e w2 ⟨s, hs, rfl, hD2⟩
      go_wp2_with fail
      go_ret
      exact ⟨s, _, rfl, hM s (by omega), by omega, hD2.dr, hD2.gr⟩
    · refine (of_g hD1 [[97], [98], [99]] _ 1 (by decide) (by omega) (by decide) (by decide)).mono ?_; rintro e w2 ⟨x, hx, rfl, hD2⟩
      go_wp2_with fail
      refine (pick_g hD2 _ (by omega) (by omega) (by omega)).mono ?_; rintro e w3 ⟨k2, rfl, hk2, hD3⟩
      obtain rfl | rfl | rfl | rfl | rfl | rfl | rfl | rfl | rfl | rfl : k2 = 0 ∨ k2 = 1 ∨ k2 = 2 ∨ k2 = 3 ∨ k2 = 4 ∨ k2 = 5 ∨ k2 = 6 ∨ k2 = 7 ∨ k2 = 8 ∨ k2 = 9 := by omega
      · go_wp2_with fail
        refine (C _ _ _ hD3 (by omega) (by omega)).mono ?_; rintro e w4 ⟨s3, p3, rfl, hs3, hp3, hD4⟩
        go_wp2_with fail
        refine (of_g hD4 [[43], [42], [45]] _ 1 (by decide) (by omega) (by decide) (by decide)).mono ?_; rintro e w5 ⟨s4, hs4, rfl, hD5⟩
        go_wp2_with fail
        refine (C _ _ _ hD5 (by omega) (by omega)).mono ?_; rintro e w6 ⟨s5, p5, rfl, hs5, hp5, hD6⟩
        go_wp2_with fail
        go_ret
        exact ⟨_, _, rfl, hM _ (by simp only [ByteArray.size_append, lit_size, List.length_cons, List.length_nil]; omega), by omega, hD6.dr, hD6.gr⟩
      · go_wp2_with fail
        refine (C _ _ _ hD3 (by omega) (by omega)).mono ?_; rintro e w4 ⟨s3, p3, rfl, hs3, hp3, hD4⟩
        go_wp2_with fail
        refine (of_g hD4 [[43], [42], [45]] _ 1 (by decide) (by omega) (by decide) (by decide)).mono ?_; rintro e w5 ⟨s4, hs4, rfl, hD5⟩
        go_wp2_with fail
        refine (C _ _ _ hD5 (by omega) (by omega)).mono ?_; rintro e w6 ⟨s5, p5, rfl, hs5, hp5, hD6⟩
        go_wp2_with fail
        go_ret
        exact ⟨_, _, rfl, hM _ (by simp only [ByteArray.size_append, lit_size, List.length_cons, List.length_nil]; omega), by omega, hD6.dr, hD6.gr⟩
      · go_wp2_with fail
        refine (C _ _ _ hD3 (by omega) (by omega)).mono ?_; rintro e w4 ⟨s3, p3, rfl, hs3, hp3, hD4⟩
        go_wp2_with fail
        refine (C _ _ _ hD4 (by omega) (by omega)).mono ?_; rintro e w5 ⟨s4, p4, rfl, hs4, hp4, hD5⟩
        go_wp2_with fail
        refine (C _ _ _ hD5 (by omega) (by omega)).mono ?_; rintro e w6 ⟨s5, p5, rfl, hs5, hp5, hD6⟩
        go_wp2_with fail
        go_ret
        exact ⟨_, _, rfl, hM _ (by simp only [ByteArray.size_append, lit_size, List.length_cons, List.length_nil]; omega), by omega, hD6.dr, hD6.gr⟩
      · go_wp2_with fail
        refine (C _ _ _ hD3 (by omega) (by omega)).mono ?_; rintro e w4 ⟨s3, p3, rfl, hs3, hp3, hD4⟩
        go_wp2_with fail
        refine (C _ _ _ hD4 (by omega) (by rw [ByteArray.size_append]; omega)).mono ?_; rintro e w5 ⟨s4, p4, rfl, hs4, hp4, hD5⟩
        go_wp2_with fail
        go_ret
        exact ⟨_, _, rfl, hM _ (by simp only [ByteArray.size_append, lit_size, List.length_cons, List.length_nil]; omega), by omega, hD5.dr, hD5.gr⟩
      · go_wp2_with fail
        refine (C _ _ _ hD3 (by omega) (by omega)).mono ?_; rintro e w4 ⟨s3, p3, rfl, hs3, hp3, hD4⟩
        go_wp2_with fail
        refine (C _ _ _ hD4 (by omega) (by rw [ByteArray.size_append]; omega)).mono ?_; rintro e w5 ⟨s4, p4, rfl, hs4, hp4, hD5⟩
        go_wp2_with fail
        go_ret
        exact ⟨_, _, rfl, hM _ (by simp only [ByteArray.size_append, lit_size, List.length_cons, List.length_nil]; omega), by omega, hD5.dr, hD5.gr⟩
      · go_wp2_with fail
        refine (C _ _ _ hD3 (by omega) (by rw [ByteArray.size_append]; omega)).mono ?_; rintro e w4 ⟨s3, p3, rfl, hs3, hp3, hD4⟩
        go_wp2_with fail
        go_ret
        exact ⟨_, _, rfl, hM _ (by simp only [ByteArray.size_append, lit_size, List.length_cons, List.length_nil]; omega), by omega, hD4.dr, hD4.gr⟩
      · go_wp2_with fail
        refine (C _ _ _ hD3 (by omega) (by rw [ByteArray.size_append]; omega)).mono ?_; rintro e w4 ⟨s3, p3, rfl, hs3, hp3, hD4⟩
        go_wp2_with fail
        refine (C _ _ _ hD4 (by omega) (by omega)).mono ?_; rintro e w5 ⟨s4, p4, rfl, hs4, hp4, hD5⟩
        go_wp2_with fail
        go_ret
        exact ⟨_, _, rfl, hM _ (by simp only [ByteArray.size_append, lit_size, List.length_cons, List.length_nil]; omega), by omega, hD5.dr, hD5.gr⟩
      · go_wp2_with fail
        refine (C _ _ _ hD3 (by omega) (by rw [ByteArray.size_append]; omega)).mono ?_; rintro e w4 ⟨s3, p3, rfl, hs3, hp3, hD4⟩
        go_wp2_with fail
        refine (C _ _ _ hD4 (by omega) (by omega)).mono ?_; rintro e w5 ⟨s4, p4, rfl, hs4, hp4, hD5⟩
        go_wp2_with fail
        go_ret
        exact ⟨_, _, rfl, hM _ (by simp only [ByteArray.size_append, lit_size, List.length_cons, List.length_nil]; omega), by omega, hD5.dr, hD5.gr⟩
      · go_wp2_with fail
        refine (C _ _ _ hD3 (by omega) (by rw [ByteArray.size_append]; omega)).mono ?_; rintro e w4 ⟨s3, p3, rfl, hs3, hp3, hD4⟩
        go_wp2_with fail
        refine (C _ _ _ hD4 (by omega) (by rw [ByteArray.size_append]; omega)).mono ?_; rintro e w5 ⟨s4, p4, rfl, hs4, hp4, hD5⟩
        go_wp2_with fail
        go_ret
        exact ⟨_, _, rfl, hM _ (by simp only [ByteArray.size_append, lit_size, List.length_cons, List.length_nil]; omega), by omega, hD5.dr, hD5.gr⟩
      · go_wp2_with fail
        refine (C _ _ _ hD3 (by omega) (by omega)).mono ?_; rintro e w4 ⟨s3, p3, rfl, hs3, hp3, hD4⟩
        go_wp2_with fail
        refine (C _ _ _ hD4 (by omega) (by omega)).mono ?_; rintro e w5 ⟨s4, p4, rfl, hs4, hp4, hD5⟩
        go_wp2_with fail
        go_ret
        exact ⟨_, _, rfl, hM _ (by simp only [ByteArray.size_append, lit_size, List.length_cons, List.length_nil]; omega), by omega, hD5.dr, hD5.gr⟩
  · have hi := full (names := names) (by omega)
    go_enter Tryz.func51, Tryz.ntmps51
    go_wp2_with fail
    refine (pick_g hD _ (by omega) (by omega) (by omega)).mono ?_; rintro e w1 ⟨k1, rfl, hk1, hD1⟩
    go_wp2_with fail
    · refine (pick_g hD1 _ (by omega) (by omega) (by omega)).mono ?_; rintro e w2 ⟨k2, rfl, hk2, hD2⟩
      go_wp2_with fail
      · refine (pick_g hD2 _ (by omega) (by omega) (by omega)).mono ?_; rintro e w3 ⟨k3, rfl, hk3, hD3⟩
        go_wp2_with fail
        go_ret
        exact ⟨_, _, rfl, hM _ (Nat.le_trans (ext1 _ _) (by omega)), by omega, hD3.dr, hD3.gr⟩
      · refine (of_g hD2 [[49], [48], [50], [55], [53], [35, 52, 50]] _ 3 (by decide) (by omega) (by decide) (by decide)).mono ?_; rintro e w3 ⟨s, hs, rfl, hD3⟩
        go_wp2_with fail
        go_ret
        exact ⟨s, _, rfl, hM s (by omega), by omega, hD3.dr, hD3.gr⟩
    · refine (of_g hD1 [[97], [98], [99]] _ 1 (by decide) (by omega) (by decide) (by decide)).mono ?_; rintro e w2 ⟨x, hx, rfl, hD2⟩
      go_wp2_with fail
      refine (pick_g hD2 _ (by omega) (by omega) (by omega)).mono ?_; rintro e w3 ⟨k2, rfl, hk2, hD3⟩
      obtain rfl | rfl | rfl | rfl | rfl | rfl | rfl | rfl | rfl | rfl : k2 = 0 ∨ k2 = 1 ∨ k2 = 2 ∨ k2 = 3 ∨ k2 = 4 ∨ k2 = 5 ∨ k2 = 6 ∨ k2 = 7 ∨ k2 = 8 ∨ k2 = 9 := by omega
      · go_wp2_with fail
        refine (C _ _ _ hD3 (by omega) (by omega)).mono ?_; rintro e w4 ⟨s3, p3, rfl, hs3, hp3, hD4⟩
        go_wp2_with fail
        refine (of_g hD4 [[43], [42], [45]] _ 1 (by decide) (by omega) (by decide) (by decide)).mono ?_; rintro e w5 ⟨s4, hs4, rfl, hD5⟩
        go_wp2_with fail
        refine (C _ _ _ hD5 (by omega) (by omega)).mono ?_; rintro e w6 ⟨s5, p5, rfl, hs5, hp5, hD6⟩
        go_wp2_with fail
        go_ret
        exact ⟨_, _, rfl, hM _ (by simp only [ByteArray.size_append, lit_size, List.length_cons, List.length_nil]; omega), by omega, hD6.dr, hD6.gr⟩
      · go_wp2_with fail
        refine (C _ _ _ hD3 (by omega) (by omega)).mono ?_; rintro e w4 ⟨s3, p3, rfl, hs3, hp3, hD4⟩
        go_wp2_with fail
        refine (of_g hD4 [[43], [42], [45]] _ 1 (by decide) (by omega) (by decide) (by decide)).mono ?_; rintro e w5 ⟨s4, hs4, rfl, hD5⟩
        go_wp2_with fail
        refine (C _ _ _ hD5 (by omega) (by omega)).mono ?_; rintro e w6 ⟨s5, p5, rfl, hs5, hp5, hD6⟩
        go_wp2_with fail
        go_ret
        exact ⟨_, _, rfl, hM _ (by simp only [ByteArray.size_append, lit_size, List.length_cons, List.length_nil]; omega), by omega, hD6.dr, hD6.gr⟩
      · go_wp2_with fail
        refine (C _ _ _ hD3 (by omega) (by omega)).mono ?_; rintro e w4 ⟨s3, p3, rfl, hs3, hp3, hD4⟩
        go_wp2_with fail
        refine (C _ _ _ hD4 (by omega) (by omega)).mono ?_; rintro e w5 ⟨s4, p4, rfl, hs4, hp4, hD5⟩
        go_wp2_with fail
        refine (C _ _ _ hD5 (by omega) (by omega)).mono ?_; rintro e w6 ⟨s5, p5, rfl, hs5, hp5, hD6⟩
        go_wp2_with fail
        go_ret
        exact ⟨_, _, rfl, hM _ (by simp only [ByteArray.size_append, lit_size, List.length_cons, List.length_nil]; omega), by omega, hD6.dr, hD6.gr⟩
      · go_wp2_with fail
        refine (C _ _ _ hD3 (by omega) (by omega)).mono ?_; rintro e w4 ⟨s3, p3, rfl, hs3, hp3, hD4⟩
        go_wp2_with fail
        refine (C _ _ _ hD4 (by omega) (by rw [ByteArray.size_append]; omega)).mono ?_; rintro e w5 ⟨s4, p4, rfl, hs4, hp4, hD5⟩
        go_wp2_with fail
        go_ret
        exact ⟨_, _, rfl, hM _ (by simp only [ByteArray.size_append, lit_size, List.length_cons, List.length_nil]; omega), by omega, hD5.dr, hD5.gr⟩
      · go_wp2_with fail
        refine (C _ _ _ hD3 (by omega) (by omega)).mono ?_; rintro e w4 ⟨s3, p3, rfl, hs3, hp3, hD4⟩
        go_wp2_with fail
        refine (C _ _ _ hD4 (by omega) (by rw [ByteArray.size_append]; omega)).mono ?_; rintro e w5 ⟨s4, p4, rfl, hs4, hp4, hD5⟩
        go_wp2_with fail
        go_ret
        exact ⟨_, _, rfl, hM _ (by simp only [ByteArray.size_append, lit_size, List.length_cons, List.length_nil]; omega), by omega, hD5.dr, hD5.gr⟩
      · go_wp2_with fail
        refine (C _ _ _ hD3 (by omega) (by rw [ByteArray.size_append]; omega)).mono ?_; rintro e w4 ⟨s3, p3, rfl, hs3, hp3, hD4⟩
        go_wp2_with fail
        go_ret
        exact ⟨_, _, rfl, hM _ (by simp only [ByteArray.size_append, lit_size, List.length_cons, List.length_nil]; omega), by omega, hD4.dr, hD4.gr⟩
      · go_wp2_with fail
        refine (C _ _ _ hD3 (by omega) (by rw [ByteArray.size_append]; omega)).mono ?_; rintro e w4 ⟨s3, p3, rfl, hs3, hp3, hD4⟩
        go_wp2_with fail
        refine (C _ _ _ hD4 (by omega) (by omega)).mono ?_; rintro e w5 ⟨s4, p4, rfl, hs4, hp4, hD5⟩
        go_wp2_with fail
        go_ret
        exact ⟨_, _, rfl, hM _ (by simp only [ByteArray.size_append, lit_size, List.length_cons, List.length_nil]; omega), by omega, hD5.dr, hD5.gr⟩
      · go_wp2_with fail
        refine (C _ _ _ hD3 (by omega) (by rw [ByteArray.size_append]; omega)).mono ?_; rintro e w4 ⟨s3, p3, rfl, hs3, hp3, hD4⟩
        go_wp2_with fail
        refine (C _ _ _ hD4 (by omega) (by omega)).mono ?_; rintro e w5 ⟨s4, p4, rfl, hs4, hp4, hD5⟩
        go_wp2_with fail
        go_ret
        exact ⟨_, _, rfl, hM _ (by simp only [ByteArray.size_append, lit_size, List.length_cons, List.length_nil]; omega), by omega, hD5.dr, hD5.gr⟩
      · go_wp2_with fail
        refine (C _ _ _ hD3 (by omega) (by rw [ByteArray.size_append]; omega)).mono ?_; rintro e w4 ⟨s3, p3, rfl, hs3, hp3, hD4⟩
        go_wp2_with fail
        refine (C _ _ _ hD4 (by omega) (by rw [ByteArray.size_append]; omega)).mono ?_; rintro e w5 ⟨s4, p4, rfl, hs4, hp4, hD5⟩
        go_wp2_with fail
        go_ret
        exact ⟨_, _, rfl, hM _ (by simp only [ByteArray.size_append, lit_size, List.length_cons, List.length_nil]; omega), by omega, hD5.dr, hD5.gr⟩
      · go_wp2_with fail
        refine (C _ _ _ hD3 (by omega) (by omega)).mono ?_; rintro e w4 ⟨s3, p3, rfl, hs3, hp3, hD4⟩
        go_wp2_with fail
        refine (C _ _ _ hD4 (by omega) (by omega)).mono ?_; rintro e w5 ⟨s4, p4, rfl, hs4, hp4, hD5⟩
        go_wp2_with fail
        go_ret
        exact ⟨_, _, rfl, hM _ (by simp only [ByteArray.size_append, lit_size, List.length_cons, List.length_nil]; omega), by omega, hD5.dr, hD5.gr⟩
end Go.Proofs.YtjfhncfbejephaaGreatDoor
