/- The model's drawn inputs: l1Draw. -/
import Derived.Test.YtdedhejpbnfnaaaDrB
namespace Go.Proofs.Ytdedhejpbnfnaaa
open Go.RowKit
open Ff
set_option linter.unusedVariables false

theorem pick_i {b : Nat} {a : Option Addr} {l c p : Nat} {w : World} (h : Dr b a l c p w) (m : Int) (hp : p ≤ 1000000) (hn : 1 ≤ m) (hn2 : m ≤ 1000000) :
    Calls Try.prog 13 #[.pointer (some ⟨b, 0, none⟩), .int .i64 m] w fun e w' => ∃ k : Nat, e = .returned (.int .i64 k) ∧ (k : Int) < m ∧ Dr b a l c (p + 1) w' ∧ w.grownBy w' (some b) := by
  obtain ⟨n, rfl⟩ := Int.eq_ofNat_of_zero_le (show 0 ≤ m by omega)
  exact (pick_c h n hp (by omega) (by omega)).mono fun e w' ⟨k, he, hk, h1, h2⟩ => ⟨k, he, by omega, h1, h2⟩
theorem row_new (w : World) (ss : List Text) (t : TypeId) : Row (w.alloc (.cells (ss.map (fun s => Value.string ⟨s.toArray⟩)).toArray t)) w.heap.size ss := by
  intro j s hj
  have h : (w.alloc (.cells (ss.map (fun s => Value.string ⟨s.toArray⟩)).toArray t)).cell? ⟨w.heap.size, j, none⟩ = (ss.map (fun s => Value.string ⟨s.toArray⟩))[j]? := by
    show (match (w.heap.push _)[w.heap.size]? with | some (.cells c _ _) => if (none : Option Nat).isSome then none else c[j]? | _ => none) = _
    simp
  rw [h, List.getElem?_map, hj]
  rfl
theorem of_new {b : Nat} {a : Option Addr} {l c p : Nat} {w : World} (h : Dr b a l c p w) (ss : List Text) (t : TypeId) (k : Nat) (hk : ∀ s ∈ ss, s.length ≤ k) (hp : p ≤ 1000000) (hn : 1 ≤ ss.length) (hn2 : ss.length ≤ 1000000) :
    Calls Try.prog 10 #[.pointer (some ⟨b, 0, none⟩), .slice (some ⟨w.heap.size, 0, none⟩) ss.length ss.length] (w.alloc (.cells (ss.map (fun s => Value.string ⟨s.toArray⟩)).toArray t)) fun e w' => ∃ s : ByteArray, s.size ≤ k ∧ e = .returned (.string s) ∧ Dr b a l c (p + 1) w' ∧ w.grownBy w' (some b) :=
  (of_c (h.alloc _) w.heap.size ss ss.length (row_new w ss t) (by have := h.lt; omega) hp hn hn2).mono fun e w' ⟨s, hs, he, h1, h2⟩ => ⟨⟨s.toArray⟩, by rw [size_data]; exact hk s hs, he, h1, grownBy_trans (grownBy_alloc (World.grownBy.refl _ _) _) h2⟩

/-- How long what is drawn can be; how many bytes a draw can take. -/
def dM : Nat → Nat
  | 0 => 3
  | n + 1 => 3 * dM n + 7
def dN : Nat → Nat
  | 0 => 3
  | n + 1 => 3 * dN n + 6
/-- A reader, and that from w0 on it alone has changed. -/
structure DG (b : Nat) (a : Option Addr) (l c : Nat) (w0 : World) (p : Nat) (w : World) : Prop where
  dr : Dr b a l c p w
  gr : w0.grownBy w (some b)
theorem pick_g {b : Nat} {a : Option Addr} {l c p : Nat} {w0 w : World} (h : DG b a l c w0 p w) (m : Int) (hp : p ≤ 1000000) (hn : 1 ≤ m) (hn2 : m ≤ 1000000) :
    Calls Try.prog 13 #[.pointer (some ⟨b, 0, none⟩), .int .i64 m] w fun e w' => ∃ k : Nat, e = .returned (.int .i64 k) ∧ (k : Int) < m ∧ DG b a l c w0 (p + 1) w' :=
  (pick_i h.dr m hp hn hn2).mono fun e w' ⟨k, he, hk, h1, h2⟩ => ⟨k, he, hk, h1, grownBy_trans h.gr h2⟩
theorem of_g {b : Nat} {a : Option Addr} {l c p : Nat} {w0 w : World} (h : DG b a l c w0 p w) (ss : List Text) (t : TypeId) (k : Nat) (hk : ∀ s ∈ ss, s.length ≤ k) (hp : p ≤ 1000000) (hn : 1 ≤ ss.length) (hn2 : ss.length ≤ 1000000) :
    Calls Try.prog 10 #[.pointer (some ⟨b, 0, none⟩), .slice (some ⟨w.heap.size, 0, none⟩) ss.length ss.length] (w.alloc (.cells (ss.map (fun s => Value.string ⟨s.toArray⟩)).toArray t)) fun e w' => ∃ s : ByteArray, s.size ≤ k ∧ e = .returned (.string s) ∧ DG b a l c w0 (p + 1) w' :=
  (of_new h.dr ss t k hk hp hn hn2).mono fun e w' ⟨s, hs, he, h1, h2⟩ => ⟨s, hs, he, h1, grownBy_trans h.gr h2⟩

theorem loop_len (b : ByteArray) : ∀ (n i : Nat) (r : List UInt8), b.size - i = n → (ByteArray.toList.loop b i r).length = n + r.length := by
  intro n
  induction n with
  | zero => intro i r h; unfold ByteArray.toList.loop; rw [if_neg (by omega)]; simp
  | succ n ih => intro i r h; unfold ByteArray.toList.loop; rw [if_pos (by omega), ih (i+1) _ (by omega)]; simp; omega
theorem full {names : ByteArray} (h : 0 < names.size) : names.toList.isEmpty = false := by
  have k := loop_len names _ 0 [] rfl
  have e : names.toList = ByteArray.toList.loop names 0 [] := rfl
  cases h2 : names.toList with
  | nil => rw [← e, h2] at k; simp at k; omega
  | cons => rfl
theorem bare {names : ByteArray} (h : names.size = 0) : names = ⟨#[]⟩ := by obtain ⟨⟨l⟩⟩ := names; simp [ByteArray.size] at h; rw [h]
/-- What l1Draw answers. -/
def DrawP (b : Nat) (a : Option Addr) (l c : Nat) (w0 : World) (p n : Nat) (e : Ending) (w' : World) : Prop := ∃ (s : ByteArray) (p' : Nat), e = .returned (.string s) ∧ s.size ≤ dM n ∧ p' ≤ p + dN n ∧ DG b a l c w0 p' w'
attribute [local irreducible] Calls
theorem ext1 (s : ByteArray) (k : Nat) : (s.extract k (k + 1)).size ≤ 1 := by rw [ByteArray.size_extract]; omega

end Go.Proofs.Ytdedhejpbnfnaaa
