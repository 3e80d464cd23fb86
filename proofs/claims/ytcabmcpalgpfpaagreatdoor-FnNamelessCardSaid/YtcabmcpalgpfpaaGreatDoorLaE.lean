import Derived.Test.YtcabmcpalgpfpaaGreatDoorLaA
/- DrawTermValid; laws.ffWithin; FnTwoTerms. -/
namespace Go.Proofs.YtcabmcpalgpfpaaGreatDoor
open Go.RowKit
open Ff
set_option linter.unusedVariables false
attribute [local irreducible] Calls

theorem halves (S n : Nat) : S * n = (if n % 2 = 1 then S else 0) + (S + S) * (n / 2) := by
  have h : S * n = S * (2 * (n / 2) + n % 2) := by rw [Nat.div_add_mod]
  rw [h, Nat.mul_add, ← Nat.mul_assoc, Nat.mul_two]
  rcases Nat.mod_two_eq_zero_or_one n with h2 | h2 <;> simp [h2]; omega
/-- A row of texts; a row of numbers. -/
theorem row_at (w : World) (vs : List Value) (t : TypeId) (j : Nat) : (w.alloc (.cells vs.toArray t)).cell? ⟨w.heap.size, j, none⟩ = vs[j]? := by
  show (match (w.heap.push _)[w.heap.size]? with | some (.cells c _ _) => if (none : Option Nat).isSome then none else c[j]? | _ => none) = _
  simp
set_option maxHeartbeats 1000000 in
theorem of_v {b : Nat} {a : Option Addr} {l c p : Nat} {w0 w : World} (h : DG b a l c w0 p w) (vs : List ByteArray) (t : TypeId) (hp : p ≤ 1000000) (hn : 1 ≤ vs.length) (hn2 : vs.length ≤ 1000000) :
    Calls Tryz.prog 31 #[.pointer (some ⟨b, 0, none⟩), .slice (some ⟨w.heap.size, 0, none⟩) vs.length vs.length] (w.alloc (.cells (vs.map Value.string).toArray t)) fun e w' => ∃ s : ByteArray, s ∈ vs ∧ e = .returned (.string s) ∧ DG b a l c w0 (p + 1) w' := by
  have hr : ∀ j v, vs[j]? = some v → (w.alloc (.cells (vs.map Value.string).toArray t)).cell? ⟨w.heap.size, j, none⟩ = some (.string v) := fun j v hj => by rw [row_at, List.getElem?_map, hj]; rfl
  have hA : DG b a l c w0 p (w.alloc (.cells (vs.map Value.string).toArray t)) := h.out ((Below.refl _ _).alloc (Nat.le_refl _) _)
  have hb := h.dr.lt
  generalize w.alloc (.cells (vs.map Value.string).toArray t) = W at hr hA ⊢
  generalize w.heap.size = g at hr hb ⊢
  have C := pick_i hA.dr vs.length hp (by omega) (by omega)
  have HR := Lib.hid hr
  clear hr
  go_enter Tryz.func31, Tryz.ntmps31
  go_wp2_with fail
  refine C.mono ?_
  rintro e w1 ⟨k, rfl, hk, hD, hg⟩
  obtain ⟨s, hs⟩ : ∃ s, vs[k]? = some s := ⟨_, List.getElem?_eq_getElem (by omega)⟩
  have hc : w1.cell? ⟨g, k, none⟩ = some (.string s) := (hg.cell (HR.out k s hs) (by simp; omega))
  have HS := Lib.hid (List.mem_of_getElem? hs)
  have HD := Lib.hid hD
  have HA := Lib.hid hA
  clear hs hD hA
  go_wp2_with fail
  go_ret
  exact ⟨s, HS.out, rfl, HD.out, grownBy_trans HA.out.gr hg⟩
set_option maxRecDepth 100000 in
set_option maxHeartbeats 1000000 in
theorem within2_c (s t : Text) (w : World) (hl : s.length ≤ 100000) (hl2 : t.length ≤ 100000) (h : ∀ x ∈ s, x ∈ t) :
    Calls Tryz.prog 13 #[.string ⟨s.toArray⟩, .string ⟨t.toArray⟩] w fun e w' => e = .returned (.bool true) ∧ w' = w := by
  go_enter Tryz.func13, Tryz.ntmps13
  go_wp2_with fail
  go_loopw [8] (fun i wr => ∃ (k : Nat), k ≤ s.length ∧ i = .int .i64 k ∧ wr = w) (fun i _ => s.length - (intOf i).toNat)
  case atStart => exact ⟨0, Nat.zero_le _, rfl, rfl⟩
  case round =>
    obtain ⟨k, hk, rfl, rfl⟩ := hrel
    by_cases hlt : k < s.length
    · obtain ⟨d, hd⟩ : ∃ d, s[k]? = some d := ⟨_, List.getElem?_eq_getElem hlt⟩
      have hx := extract_one s k d hd
      have hm := h d (List.mem_of_getElem? hd)
      have HD := Lib.hid hd
      have HM := Lib.hid hm
      clear hd hm h
      go_wp2_with fail
      refine (has_c t d wr hl2).mono ?_; rw [decide_eq_true HM.out]; rintro e w1 ⟨rfl, rfl⟩
      go_wp2_with fail
      exact ⟨⟨k + 1, by omega, by go_num, trivial⟩, by simp [intOf]; omega⟩
    · obtain rfl : k = s.length := by omega
      clear h
      go_wp2_with fail
      go_ret
      exact ⟨rfl, rfl⟩
theorem kValidS2 (s : Text) (hs : s.length ≤ 100000) (w : World) : Calls Tryz.prog 64 #[.string ⟨s.toArray⟩] w fun e w' => e = .returned (.bool (readS s).isSome) ∧ Below w.heap.size w w' := sTermValid_c s w (by omega)
theorem size_app (T U : Tm) : (parts (.app T U)).length = (parts T).length + (parts U).length + 1 := by simp [parts]
theorem free_app {T U : Tm} (hT : T.good) (hU : U.good) (x : UInt8) : x ∈ sfree (.app T U) ↔ x ∈ sfree T ∨ x ∈ sfree U := by
  rw [sfree, mem_sort, List.mem_append]
  exact ⟨fun h => h.2, fun h => ⟨by rcases h with h | h; exact free_letters hT h; exact free_letters hU h, h⟩⟩

end Go.Proofs.YtcabmcpalgpfpaaGreatDoor
