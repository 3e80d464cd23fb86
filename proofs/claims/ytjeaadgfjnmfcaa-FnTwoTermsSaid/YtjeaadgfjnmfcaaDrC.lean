/- The model's drawn inputs: l1Draw. -/
import Derived.Test.YtjeaadgfjnmfcaaDrB
namespace Go.Proofs.Ytjeaadgfjnmfcaa
open Go.RowKit
open Ff
set_option linter.unusedVariables false

theorem pick_i {b : Nat} {a : Option Addr} {l c p : Nat} {w : World} (h : Dr b a l c p w) (m : Int) (hp : p ≤ 1000000) (hn : 1 ≤ m) (hn2 : m ≤ 1000000) :
    Calls Try.prog 34 #[.pointer (some ⟨b, 0, none⟩), .int .i64 m] w fun e w' => ∃ k : Nat, e = .returned (.int .i64 k) ∧ (k : Int) < m ∧ Dr b a l c (p + 1) w' ∧ w.grownBy w' (some b) := by
  obtain ⟨n, rfl⟩ := Int.eq_ofNat_of_zero_le (show 0 ≤ m by omega)
  exact (pick_c h n hp (by omega) (by omega)).mono fun e w' ⟨k, he, hk, h1, h2⟩ => ⟨k, he, by omega, h1, h2⟩
theorem row_new (w : World) (ss : List Text) (t : TypeId) : Row (w.alloc (.cells (ss.map (fun s => Value.string ⟨s.toArray⟩)).toArray t)) w.heap.size ss := by
  intro j s hj
  have h : (w.alloc (.cells (ss.map (fun s => Value.string ⟨s.toArray⟩)).toArray t)).cell? ⟨w.heap.size, j, none⟩ = (ss.map (fun s => Value.string ⟨s.toArray⟩))[j]? := by
    show (match (w.heap.push _)[w.heap.size]? with | some (.cells c _ _) => if (none : Option Nat).isSome then none else c[j]? | _ => none) = _
    simp
  rw [h, List.getElem?_map, hj]
  rfl
theorem of_new {b : Nat} {a : Option Addr} {l c p : Nat} {w : World} (h : Dr b a l c p w) (ss : List Text) (t : TypeId) (k : Nat) (hk : ∀ s ∈ ss, s.length ≤ k) (hp : p ≤ 1000000) (hn : 1 ≤ ss.length) (hn2 : ss.length ≤ 1000000) :
    Calls Try.prog 36 #[.pointer (some ⟨b, 0, none⟩), .slice (some ⟨w.heap.size, 0, none⟩) ss.length ss.length] (w.alloc (.cells (ss.map (fun s => Value.string ⟨s.toArray⟩)).toArray t)) fun e w' => ∃ s : ByteArray, s.size ≤ k ∧ e = .returned (.string s) ∧ Dr b a l c (p + 1) w' ∧ w.grownBy w' (some b) :=
  (of_c (h.alloc _) w.heap.size ss ss.length (row_new w ss t) (by have := h.lt; omega) hp hn hn2).mono fun e w' ⟨s, hs, he, h1, h2⟩ => ⟨⟨s.toArray⟩, by rw [size_data]; exact hk s hs, he, h1, grownBy_trans (grownBy_alloc (World.grownBy.refl _ _) _) h2⟩

/-- How long what is drawn can be; how many bytes a draw can take. -/
def dM : Nat → Nat
  | 0 => 3
  | n + 1 => 3 * dM n + 7
def dN : Nat → Nat
  | 0 => 3
  | n + 1 => 3 * dN n + 6
def DrawC (n : Nat) : Prop := ∀ (b : Nat) (a : Option Addr) (l c p : Nat) (names : ByteArray) (w : World), Dr b a l c p w → p + dN n ≤ 100000 → names.size + n ≤ 100 → dM n ≤ 100000 →
  Calls Try.prog 67 #[.pointer (some ⟨b, 0, none⟩), .string names, .int .i64 n] w fun e w' => ∃ (s : ByteArray) (p' : Nat), e = .returned (.string s) ∧ s.size ≤ dM n ∧ p' ≤ p + dN n ∧ Dr b a l c p' w' ∧ w.grownBy w' (some b)

/-- A reader, and that from w0 on it alone has changed. -/
structure DG (b : Nat) (a : Option Addr) (l c : Nat) (w0 : World) (p : Nat) (w : World) : Prop where
  dr : Dr b a l c p w
  gr : w0.grownBy w (some b)
theorem pick_g {b : Nat} {a : Option Addr} {l c p : Nat} {w0 w : World} (h : DG b a l c w0 p w) (m : Int) (hp : p ≤ 1000000) (hn : 1 ≤ m) (hn2 : m ≤ 1000000) :
    Calls Try.prog 34 #[.pointer (some ⟨b, 0, none⟩), .int .i64 m] w fun e w' => ∃ k : Nat, e = .returned (.int .i64 k) ∧ (k : Int) < m ∧ DG b a l c w0 (p + 1) w' :=
  (pick_i h.dr m hp hn hn2).mono fun e w' ⟨k, he, hk, h1, h2⟩ => ⟨k, he, hk, h1, grownBy_trans h.gr h2⟩
theorem of_g {b : Nat} {a : Option Addr} {l c p : Nat} {w0 w : World} (h : DG b a l c w0 p w) (ss : List Text) (t : TypeId) (k : Nat) (hk : ∀ s ∈ ss, s.length ≤ k) (hp : p ≤ 1000000) (hn : 1 ≤ ss.length) (hn2 : ss.length ≤ 1000000) :
    Calls Try.prog 36 #[.pointer (some ⟨b, 0, none⟩), .slice (some ⟨w.heap.size, 0, none⟩) ss.length ss.length] (w.alloc (.cells (ss.map (fun s => Value.string ⟨s.toArray⟩)).toArray t)) fun e w' => ∃ s : ByteArray, s.size ≤ k ∧ e = .returned (.string s) ∧ DG b a l c w0 (p + 1) w' :=
  (of_new h.dr ss t k hk hp hn hn2).mono fun e w' ⟨s, hs, he, h1, h2⟩ => ⟨s, hs, he, h1, grownBy_trans h.gr h2⟩

theorem loop_len (b : ByteArray) : ∀ (n i : Nat) (r : List UInt8), b.size - i = n → (ByteArray.toList.loop b i r).length = n + r.length := by
  intro n
  induction n with
  | zero => intro i r h; unfold ByteArray.toList.loop; rw [if_neg (by omega)]; simp
  | succ n ih => intro i r h; unfold ByteArray.toList.loop; rw [if_pos (by omega), ih (i+1) _ (by omega)]; simp; omega
theorem full {names : ByteArray} (h : 0 < names.size) : names.toList.isEmpty = false := by
  have k := loop_len names _ 0 [] rfl
  have e : names.toList = ByteArray.toList.loop names 0 [] := rfl
  cases h2 : names.toList with
  | nil => rw [← e, h2] at k; simp at k; omega
  | cons => rfl
theorem bare {names : ByteArray} (h : names.size = 0) : names = ⟨#[]⟩ := by obtain ⟨⟨l⟩⟩ := names; simp [ByteArray.size] at h; rw [h]
/-- What l1Draw answers. -/
def DrawP (b : Nat) (a : Option Addr) (l c : Nat) (w0 : World) (p n : Nat) (e : Ending) (w' : World) : Prop := ∃ (s : ByteArray) (p' : Nat), e = .returned (.string s) ∧ s.size ≤ dM n ∧ p' ≤ p + dN n ∧ DG b a l c w0 p' w'
theorem DrawC.g {n : Nat} (ih : DrawC n) {b : Nat} {a : Option Addr} {l c p : Nat} {names : ByteArray} {w0 w : World} (h : DG b a l c w0 p w) (hp : p + dN n ≤ 100000) (hn : names.size + n ≤ 100) (hm : dM n ≤ 100000) :
    Calls Try.prog 67 #[.pointer (some ⟨b, 0, none⟩), .string names, .int .i64 n] w fun e w' => ∃ (s : ByteArray) (p' : Nat), e = .returned (.string s) ∧ s.size ≤ dM n ∧ p' ≤ p + dN n ∧ DG b a l c w0 p' w' :=
  (ih b a l c p names w h.dr hp hn hm).mono fun e w' ⟨s, p', he, hs, h0, h1, h2⟩ => ⟨s, p', he, hs, h0, h1, grownBy_trans h.gr h2⟩
attribute [local irreducible] Calls
theorem ext1 (s : ByteArray) (k : Nat) : (s.extract k (k + 1)).size ≤ 1 := by rw [ByteArray.size_extract]; omega

set_option maxRecDepth 100000 in
set_option maxHeartbeats 4000000 in
theorem draw_zero : DrawC 0 := by
  intro b a l c p names w h hp hn _
  have hD : DG b a l c w p w := ⟨h, World.grownBy.refl _ _⟩
  clear h
  show Calls Try.prog 67 #[.pointer (some ⟨b, 0, none⟩), .string names, .int .i64 0] w _
  simp only [dN] at hp ⊢
  have hM : ∀ s : ByteArray, s.size ≤ 3 → s.size ≤ dM 0 := fun s hs => hs
  generalize dM 0 = M at hM ⊢
  by_cases h0 : names.size = 0
  · obtain rfl := bare h0
    go_enter Try.func67, Try.ntmps67
    go_wp2_with (first | (go_at_call 36; refine (of_g (by assumption) [[49], [48], [50], [55], [53], [35, 52, 50]] _ 3 (by decide) (by omega) (by decide) (by decide)).mono ?_; rintro e w1 ⟨s, hs, rfl, hD⟩))
    go_ret
    exact ⟨s, _, rfl, hM s hs, by omega, hD.dr, hD.gr⟩
  · have hi := full (names := names) (by omega)
    go_enter Try.func67, Try.ntmps67
    go_wp2_with (first
      | (go_at_call 36; refine (of_g (by assumption) [[49], [48], [50], [55], [53], [35, 52, 50]] _ 3 (by decide) (by omega) (by decide) (by decide)).mono ?_; rintro e w1 ⟨s, hs, rfl, hD⟩)
      | (go_at_call 34; refine (pick_g (by assumption) _ (by omega) (by omega) (by omega)).mono ?_; rintro e w1 ⟨k, rfl, hk, hD⟩))
    · go_ret
      exact ⟨_, _, rfl, hM _ (Nat.le_trans (ext1 _ _) (by omega)), by omega, hD.dr, hD.gr⟩
    · go_ret
      exact ⟨s, _, rfl, hM s hs, by omega, hD.dr, hD.gr⟩
end Go.Proofs.Ytjeaadgfjnmfcaa
