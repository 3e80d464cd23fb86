import Derived.Test.YthjhpfcilaghgaaGreatDoorSvA
import Derived.Maps.AppendAt
import Derived.Deep.RegionLaw
/- The specification's names of a run: one name more. -/
namespace Go.Proofs.YthjhpfcilaghgaaGreatDoor
open Go.RowKit Go.Shelf
open Ff
set_option linter.unusedVariables false
variable {X : Nat → Prop}
attribute [local irreducible] Calls

theorem Tryz.infoBound : (Tryz.prog.info? 94).map (fun i => (i.zero, i.size, i.bytes)) = some (some (.agg #[.string ⟨#[]⟩, .bool false, .int .i64 0, .int .u8 0, .int .i64 0, .string ⟨#[]⟩, .slice none 0 0, .int .i64 0, .slice none 0 0]), 9, 120) := by kernel_rfl
/-- An append at a step of a region that draws. -/
theorem step_append_at {ops : Array Oper} {o : Oper} {a : Act} {K : Act → World → Prop} {Q : Exit → Act → World → Prop} {E : Prop} (W : World) (hgd : o.guard = none) (s x : Operand)
    (ho : o.op = .call { callee := .builtin .append, args := #[s, x], argTypes := #[51, 51] })
    (base : Nat) (v : Value) (n : Nat) (xs : List Value) (hs : a.eval s = v) (hown : W.ownsRow base 94 9 v n xs) (ad : Addr) (m c : Nat) (news : List Value) (hx : a.eval x = .slice (some ad) m c) (hl : news.length = m * 9) (hnews : ∀ j u, news[j]? = some u → W.cell? (ad.add j) = some u) (h1 : ∀ u ∈ news, u.oneCell' = true)
    (hn : n + m ≤ 4000) (hbase : base ≤ W.heap.size)
    (h : ∀ v' w', w'.ownsRow base 94 9 v' (n + m) (xs ++ news) → W.grownBy w' v.ownBlock → (v' = .slice none 0 0 ↔ v = .slice none 0 0 ∧ m = 0) → (v'.ownBlock = v.ownBlock ∨ v'.ownBlock = some W.heap.size) → K (a.put o.dst v') w') :
    if Region.wanted o (yielded ops a.tmps) = true then Oper.wp Tryz.prog o a W K Q else E := by
  obtain ⟨i0, hi0, hz0, hz1, hz2⟩ := info_parts Tryz.infoBound
  have hw : Region.wanted o (yielded ops a.tmps) = true := by simp [Region.wanted, hgd]
  rw [if_pos hw]
  obtain ⟨v', w', hr, h2, h3, h4, h5⟩ := run_append_own_at (P := Tryz.prog) W base 51 o.type 94 i0 _ 9 120 Tryz.underlying51 hi0 hz0 hz1 hz2 rfl (by decide) v n xs hown ad m c news hl hnews h1 (by unfold maxLen; omega) (by omega) hbase
  unfold Oper.wp execOp
  simp only [ho, resolve, invoke, builtin, Sem.run_bind, Sem.run_pure, Result.andThen_ok, List.map_toArray, List.map_cons, List.map_nil, hs, hx, hr]
  exact h v' w' h2 h3 h4 h5
theorem En.ents_len (e : En) : e.ents.length = e.names.length := by
  induction e using En.rec (motive_1 := fun _ => True) with
  | nil => rfl
  | cons d v e _ ih => simp [En.ents, En.names, ih]
  | num n => trivial
  | clo i t e _ => trivial
theorem nine_of {c : Nat → Value} {k : Nat} {S : Nat → Prop} {w : World} {v : Vl} (h : SV S w v (nine c k)) : ∀ r, r < 8 → (c (9 * k + 1 + r)).oneCell' = true := by
  obtain ⟨b, n, kk, m, s, a, l, cc, i, a2, l2, c2, he⟩ := h.form
  unfold nine at he
  simp only [Value.agg.injEq, Array.mk.injEq, List.cons.injEq, and_true] at he
  obtain ⟨e0, e1, e2, e3, e4, e5, e6, e7⟩ := he
  intro r hr
  have : r = 0 ∨ r = 1 ∨ r = 2 ∨ r = 3 ∨ r = 4 ∨ r = 5 ∨ r = 6 ∨ r = 7 := by omega
  rcases this with rfl | rfl | rfl | rfl | rfl | rfl | rfl | rfl
  · rw [e0]; rfl
  · rw [show 9 * k + 1 + 1 = 9 * k + 2 by omega, e1]; rfl
  · rw [show 9 * k + 1 + 2 = 9 * k + 3 by omega, e2]; rfl
  · rw [show 9 * k + 1 + 3 = 9 * k + 4 by omega, e3]; rfl
  · rw [show 9 * k + 1 + 4 = 9 * k + 5 by omega, e4]; rfl
  · rw [show 9 * k + 1 + 5 = 9 * k + 6 by omega, e5]; rfl
  · rw [show 9 * k + 1 + 6 = 9 * k + 7 by omega, e6]; rfl
  · rw [show 9 * k + 1 + 7 = 9 * k + 8 by omega, e7]; rfl
/-- The row of what names are. -/
structure EntRow (S : Nat → Prop) (w : World) (e : En) (xs : List Value) : Prop where
  len : xs.length = e.ents.length * 9
  one : ∀ u ∈ xs, u.oneCell' = true
  name : ∀ k x v, e.ents[k]? = some (x, v) → xs[9 * k]? = some (.string ⟨#[x]⟩)
  val : ∀ k x v, e.ents[k]? = some (x, v) → SV S w v (nine (fun j => (xs[j]?).getD undef) k)
theorem SE.row {S : Nat → Prop} {w : World} {e : En} {a : Addr} {n c : Nat} (h : SE S w e (.slice (some a) n c)) : n = e.ents.length ∧ ∃ xs, EntRow S w e xs ∧ ∀ j u, xs[j]? = some u → w.cell? (a.add j) = some u := by
  cases h with
  | nil => exact ⟨rfl, [], ⟨rfl, by simp, by simp [En.ents], by simp [En.ents]⟩, by simp⟩
  | mk e g cap c hg hc hn hv =>
    refine ⟨rfl, (List.range (9 * e.ents.length)).map c, ⟨by simp; omega, fun u hu => ?_, fun k x v hk => ?_, fun k x v hk => ?_⟩, fun j u hj => ?_⟩
    · obtain ⟨j, hj, rfl⟩ := List.mem_map.1 hu
      have hj2 := List.mem_range.1 hj
      have hq : j / 9 < e.ents.length := by omega
      obtain ⟨p, hp⟩ : ∃ p, e.ents[j / 9]? = some p := ⟨_, List.getElem?_eq_getElem hq⟩
      by_cases hr : j % 9 = 0
      · have := hn _ _ _ hp
        rw [show 9 * (j / 9) = j by omega] at this
        rw [this]; rfl
      · have := nine_of (hv _ _ _ hp) (j % 9 - 1) (by omega)
        rwa [show 9 * (j / 9) + 1 + (j % 9 - 1) = j by omega] at this
    · have hk2 := (List.getElem?_eq_some_iff.1 hk).1
      rw [List.getElem?_map, List.getElem?_range (by omega)]
      simp [hn k x v hk]
    · have hk2 := (List.getElem?_eq_some_iff.1 hk).1
      have e8 : nine (fun j => (((List.range (9 * e.ents.length)).map c)[j]?).getD undef) k = nine c k := by
        have q : ∀ r, r < 9 → (((List.range (9 * e.ents.length)).map c)[9 * k + r]?).getD undef = c (9 * k + r) := fun r hr => by
          rw [List.getElem?_map, List.getElem?_range (by omega)]; rfl
        unfold nine
        dsimp only
        rw [q 1 (by omega), q 2 (by omega), q 3 (by omega), q 4 (by omega), q 5 (by omega), q 6 (by omega), q 7 (by omega), q 8 (by omega)]
      rw [e8]
      exact hv k x v hk
    · have hj2 : j < 9 * e.ents.length := by simpa using (List.getElem?_eq_some_iff.1 hj).1
      rw [List.getElem?_map, List.getElem?_range hj2] at hj
      simp only [Option.map_some, Option.some.injEq] at hj
      rw [show (⟨g, 0, none⟩ : Addr).add j = ⟨g, j, none⟩ by simp [Addr.add]; omega, hc j hj2, hj]
theorem EntRow.keep {S S' : Nat → Prop} {w w' : World} (H : ∀ g, S g → w'.heap[g]? = w.heap[g]? ∧ S' g) {e : En} {xs : List Value} (h : EntRow S w e xs) : EntRow S' w' e xs := ⟨h.len, h.one, h.name, fun k x v hk => (h.val k x v hk).keep H⟩
/-- One entry more. -/
theorem EntRow.cons {S : Nat → Prop} {w : World} {e : En} {xs : List Value} (h : EntRow S w e xs) {c : UInt8} {v : Vl} {b : Bool} {n k m : Int} {s : ByteArray} {a : Option Addr} {l cp : Nat} {i : Int} {a2 : Option Addr} {l2 c2 : Nat} (hv : SV S w v (v8 b n k m s a l cp i a2 l2 c2)) :
    EntRow S w (.cons c v e) (xs ++ [.string ⟨#[c]⟩, .bool b, .int .i64 n, .int .u8 k, .int .i64 m, .string s, .slice a l cp, .int .i64 i, .slice a2 l2 c2]) := by
  have hl := h.len
  refine ⟨by simp [En.ents, hl]; omega, fun u hu => ?_, fun j x y hj => ?_, fun j x y hj => ?_⟩
  · rcases List.mem_append.1 hu with hu | hu
    · exact h.one u hu
    · simp only [List.mem_cons, List.not_mem_nil, or_false] at hu
      rcases hu with rfl | rfl | rfl | rfl | rfl | rfl | rfl | rfl | rfl <;> rfl
  · by_cases hlt : j < e.ents.length
    · rw [En.ents, List.getElem?_append_left hlt] at hj
      rw [List.getElem?_append_left (by omega)]
      exact h.name j x y hj
    · rw [En.ents, List.getElem?_append_right (by omega)] at hj
      obtain rfl : j = e.ents.length := by have := (List.getElem?_eq_some_iff.1 hj).1; simp at this; omega
      simp at hj
      obtain ⟨rfl, rfl⟩ := hj
      rw [List.getElem?_append_right (by omega), show 9 * e.ents.length - xs.length = 0 by omega]
      rfl
  · by_cases hlt : j < e.ents.length
    · rw [En.ents, List.getElem?_append_left hlt] at hj
      have q : ∀ r, r < 9 → (xs ++ [.string ⟨#[c]⟩, .bool b, .int .i64 n, .int .u8 k, .int .i64 m, .string s, .slice a l cp, .int .i64 i, .slice a2 l2 c2])[9 * j + r]? = xs[9 * j + r]? := fun r hr => List.getElem?_append_left (by omega)
      unfold nine
      dsimp only
      rw [q 1 (by omega), q 2 (by omega), q 3 (by omega), q 4 (by omega), q 5 (by omega), q 6 (by omega), q 7 (by omega), q 8 (by omega)]
      exact h.val j x y hj
    · rw [En.ents, List.getElem?_append_right (by omega)] at hj
      obtain rfl : j = e.ents.length := by have := (List.getElem?_eq_some_iff.1 hj).1; simp at this; omega
      simp at hj
      obtain ⟨rfl, rfl⟩ := hj
      have q : ∀ r, r < 9 → (xs ++ [.string ⟨#[c]⟩, .bool b, .int .i64 n, .int .u8 k, .int .i64 m, .string s, .slice a l cp, .int .i64 i, .slice a2 l2 c2])[9 * e.ents.length + r]? = ([.string ⟨#[c]⟩, .bool b, .int .i64 n, .int .u8 k, .int .i64 m, .string s, .slice a l cp, .int .i64 i, .slice a2 l2 c2] : List Value)[r]? := fun r hr => by
        rw [List.getElem?_append_right (by omega), show 9 * e.ents.length + r - xs.length = r by omega]
      unfold nine
      dsimp only
      rw [q 1 (by omega), q 2 (by omega), q 3 (by omega), q 4 (by omega), q 5 (by omega), q 6 (by omega), q 7 (by omega), q 8 (by omega)]
      exact hv
/-- A row that is owned is what names are. -/
theorem EntRow.se {S : Nat → Prop} {w : World} {e : En} {xs : List Value} {base : Nat} {v : Value} (h : EntRow S w e xs) (hown : w.ownsRow base 94 9 v e.ents.length xs) (hn : 0 < e.ents.length) (hS : ∀ g, base ≤ g → g < w.heap.size → S g) : SE S w e v := by
  obtain ⟨g, cap, rfl, hg, hlt⟩ := hown.form hn
  have hc := hown.cells (g := g) rfl
  refine .mk e g cap (fun j => (xs[j]?).getD undef) (hS g hg hlt) (fun k hk => ?_) (fun k x y hk => ?_) h.val
  · obtain ⟨u, hu⟩ : ∃ u, xs[k]? = some u := ⟨_, List.getElem?_eq_getElem (by have := h.len; omega)⟩
    have := hc k u hu
    rw [show (⟨g, 0, none⟩ : Addr).add k = ⟨g, k, none⟩ by simp [Addr.add]; omega] at this
    rw [this, hu]; rfl
  · show (xs[9 * k]?).getD undef = _
    rw [h.name k x y hk]; rfl
end Go.Proofs.YthjhpfcilaghgaaGreatDoor
