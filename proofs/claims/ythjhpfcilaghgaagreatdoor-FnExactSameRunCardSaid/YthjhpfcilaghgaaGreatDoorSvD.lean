import Derived.Test.YthjhpfcilaghgaaGreatDoorSvC
/- The specification's run: what a name is, whether it goes on, its end. -/
namespace Go.Proofs.YthjhpfcilaghgaaGreatDoor
open Go.RowKit Go.Shelf
open Ff
set_option linter.unusedVariables false
variable {X : Nat → Prop}
attribute [local irreducible] Calls

theorem eight_of {w : World} {b : Nat} {z0 z1 z2 z3 z4 z5 z6 z7 : Value} {t : TypeId} (h : w.heap[b]? = some (.cells #[z0, z1, z2, z3, z4, z5, z6, z7] t (0, 0))) : w.cell? ⟨b, 0, none⟩ = some z0 ∧ w.cell? ⟨b, 1, none⟩ = some z1 ∧ w.cell? ⟨b, 2, none⟩ = some z2 ∧ w.cell? ⟨b, 3, none⟩ = some z3 ∧ w.cell? ⟨b, 4, none⟩ = some z4 ∧ w.cell? ⟨b, 5, none⟩ = some z5 ∧ w.cell? ⟨b, 6, none⟩ = some z6 ∧ w.cell? ⟨b, 7, none⟩ = some z7 ∧ ∀ k, w.frozen? ⟨b, k, none⟩ = false := by
  refine ⟨?_, ?_, ?_, ?_, ?_, ?_, ?_, ?_, fun k => ?_⟩ <;> simp [World.cell?, World.frozen?, h]
/-- Eight stores. -/
def set8 (w : World) (B : Nat) (u0 u1 u2 u3 u4 u5 u6 u7 : Value) : World := ((((((((w.setCell ⟨B, 0, none⟩ u0).setCell ⟨B, 1, none⟩ u1).setCell ⟨B, 2, none⟩ u2).setCell ⟨B, 3, none⟩ u3).setCell ⟨B, 4, none⟩ u4).setCell ⟨B, 5, none⟩ u5).setCell ⟨B, 6, none⟩ u6).setCell ⟨B, 7, none⟩ u7)
theorem set_cells_at {w : World} {b : Nat} {cs : Array Value} {T : TypeId} (hb : w.heap[b]? = some (.cells cs T (0, 0))) (i : Nat) (v : Value) : (w.setCell ⟨b, i, none⟩ v).heap[b]? = some (.cells (cs.setIfInBounds i v) T (0, 0)) := by
  simp [World.setCell, Array.getElem?_modify, hb]
theorem set8_heap (w : World) (B : Nat) (u0 u1 u2 u3 u4 u5 u6 u7 : Value) {j : Nat} (h : j ≠ B) : (set8 w B u0 u1 u2 u3 u4 u5 u6 u7).heap[j]? = w.heap[j]? := by
  unfold set8
  rw [Below.heap_setCell _ _ _ _ (by exact h), Below.heap_setCell _ _ _ _ (by exact h), Below.heap_setCell _ _ _ _ (by exact h), Below.heap_setCell _ _ _ _ (by exact h), Below.heap_setCell _ _ _ _ (by exact h), Below.heap_setCell _ _ _ _ (by exact h), Below.heap_setCell _ _ _ _ (by exact h), Below.heap_setCell _ _ _ _ (by exact h)]
theorem set8_size (w : World) (B : Nat) (u0 u1 u2 u3 u4 u5 u6 u7 : Value) : (set8 w B u0 u1 u2 u3 u4 u5 u6 u7).heap.size = w.heap.size := by simp [set8]
theorem set8_at {w : World} {B : Nat} {z0 z1 z2 z3 z4 z5 z6 z7 : Value} {t : TypeId} (h : w.heap[B]? = some (.cells #[z0, z1, z2, z3, z4, z5, z6, z7] t (0, 0))) (u0 u1 u2 u3 u4 u5 u6 u7 : Value) : (set8 w B u0 u1 u2 u3 u4 u5 u6 u7).heap[B]? = some (.cells #[u0, u1, u2, u3, u4, u5, u6, u7] t (0, 0)) := by
  unfold set8
  have h0 := set_cells_at h 0 u0
  have h1 := set_cells_at h0 1 u1
  have h2 := set_cells_at h1 2 u2
  have h3 := set_cells_at h2 3 u3
  have h4 := set_cells_at h3 4 u4
  have h5 := set_cells_at h4 5 u5
  have h6 := set_cells_at h5 6 u6
  have h7 := set_cells_at h6 7 u7
  simpa using h7

theorem find_ents {e : En} {x : UInt8} {v : Vl} (h : e.find x = some v) : ∃ c u e', e = .cons c u e' ∧ (c = x ∧ u = v ∨ c ≠ x ∧ e'.find x = some v) := by
  cases e with
  | nil => simp [En.find] at h
  | cons c u e' =>
    refine ⟨c, u, e', rfl, ?_⟩
    by_cases hc : c = x
    · simp only [En.find, if_pos hc] at h
      injection h with h
      exact .inl ⟨hc, h⟩
    · simp only [En.find, if_neg hc] at h
      exact .inr ⟨hc, h⟩
set_option maxRecDepth 100000 in
set_option maxHeartbeats 4000000 in
theorem sfind_c (S : Nat → Prop) (e : En) (x : UInt8) (v : Vl) (ev : Value) (w : World) (hE : SE S w e ev) (hf : e.find x = some v) (hl : e.ents.length ≤ 900) :
    Calls Tryz.prog 62 #[ev, .string ⟨#[x]⟩] w fun e' w' => ∃ y, e' = .returned y ∧ SV S w v y ∧ Below w.heap.size w w' := by
  cases hE with
  | nil a c => simp [En.find] at hf
  | mk e g cap c hg hc hn hv =>
    have hpos : 0 < e.ents.length := by obtain ⟨_, _, _, rfl, _⟩ := find_ents hf; simp [En.ents]
    have hb1 := (Below.refl w.heap.size w).alloc (Nat.le_refl _) (.cells #[.bool false, .int .i64 0, .int .u8 0, .int .i64 0, .string ⟨#[]⟩, .slice none 0 0, .int .i64 0, .slice none 0 0] 71)
    have hz := World.alloc_heap_new w (.cells #[.bool false, .int .i64 0, .int .u8 0, .int .i64 0, .string ⟨#[]⟩, .slice none 0 0, .int .i64 0, .slice none 0 0] 71)
    go_enter Tryz.func62, Tryz.ntmps62
    go_wp2_with fail
    generalize w.alloc (.cells #[.bool false, .int .i64 0, .int .u8 0, .int .i64 0, .string ⟨#[]⟩, .slice none 0 0, .int .i64 0, .slice none 0 0] 71) = W1 at hb1 hz ⊢
    have HC := Lib.hid hc
    have HN := Lib.hid hn
    have HV := Lib.hid hv
    have HZ := Lib.hid hz
    clear hc hn hv hz
    go_loopw [5] (fun i wr => ∃ (k : Nat) (e' : En), i = .int .i64 (k : Int) ∧ e'.ents.length = k + 1 ∧ e'.ents = e.ents.take (k + 1) ∧ e'.find x = some v ∧ wr = W1) (fun i _ => (intOf i).toNat)
    case atStart => exact ⟨e.ents.length - 1, e, by go_num, by omega, by rw [List.take_of_length_le (by omega)], hf, rfl⟩
    case round =>
      obtain ⟨k, e', rfl, hlen, htk, hf', rfl⟩ := hrel
      obtain ⟨d, u, e2, rfl, hor⟩ := find_ents hf'
      have hk : k < e.ents.length := by have := congrArg List.length htk; simp at this; omega
      have hent : e.ents[k]? = some (d, u) := by
        have h1 : (e.ents.take (k + 1))[k]? = e.ents[k]? := by rw [List.getElem?_take]; simp
        rw [← h1, ← htk, En.ents, List.getElem?_append_right (by simp [En.ents] at hlen; omega)]
        simp [En.ents] at hlen
        simp [hlen]
      have hvk := HV.out k d u hent
      obtain ⟨b, n, kk, m, s, a, l, cc, i, a2, l2, c2, he⟩ := hvk.form
      have he' := he
      unfold nine at he
      simp only [Value.agg.injEq, Array.mk.injEq, List.cons.injEq, and_true] at he
      obtain ⟨i0, i1, i2, i3, i4, i5, i6, i7⟩ := he
      have hlt : g < wr.heap.size := by
        have := HC.out 0 (by omega)
        exact Nat.lt_of_lt_of_le (World.block_lt_of_cell? w _ this) hb1.size
      have hgw : g < w.heap.size := World.block_lt_of_cell? w _ (HC.out 0 (by omega))
      have cell : ∀ r, r < 9 → wr.cell? ⟨g, k * 9 + r, none⟩ = some (c (9 * k + r)) := fun r hr => by
        rw [Nat.mul_comm k 9]; exact (hb1.cell (p := ⟨g, 9 * k + r, none⟩) hgw).trans (HC.out _ (by omega))
      have e0 : wr.cell? ⟨g, k * 9, none⟩ = some (.string ⟨#[d]⟩) := by rw [← HN.out k d u hent]; exact cell 0 (by omega)
      have q1 := cell 1 (by omega)
      have q2 := cell 2 (by omega)
      have q3 := cell 3 (by omega)
      have q4 := cell 4 (by omega)
      have q5 := cell 5 (by omega)
      have q6 := cell 6 (by omega)
      have q7 := cell 7 (by omega)
      have q8 := cell 8 (by omega)
      rw [i0] at q1
      rw [i1] at q2
      rw [i2] at q3
      rw [i3] at q4
      rw [i4] at q5
      rw [i5] at q6
      rw [i6] at q7
      rw [i7] at q8
      rw [he'] at hvk
      have HE := Lib.hid hent
      have HT := Lib.hid htk
      have HO := Lib.hid hor
      have HL := Lib.hid hlen
      clear cell i0 i1 i2 i3 i4 i5 i6 i7 he' hent htk hor hf' hf hlen
      by_cases hd : d = x
      · subst hd
        obtain rfl : u = v := HO.out.elim (fun h => h.2) (fun h => absurd rfl h.1)
        obtain ⟨z0, z1, z2, z3, z4, z5, z6, z7, zf⟩ := eight_of HZ.out
        go_wp2_with fail
        have h8 := eight_of (set8_at HZ.out (.bool b) (.int .i64 n) (.int .u8 kk) (.int .i64 m) (.string s) (.slice a l cc) (.int .i64 i) (.slice a2 l2 c2))
        obtain ⟨y0, y1, y2, y3, y4, y5, y6, y7, _⟩ := h8
        unfold set8 at y0 y1 y2 y3 y4 y5 y6 y7
        refine bodyPost_ret (v := v8 b n kk m s a l cc i a2 l2 c2) (by simp [results, Tryz.results62, go_sem, y0, y1, y2, y3, y4, y5, y6, y7]) rfl ?_
        refine ⟨_, rfl, hvk, ?_⟩
        exact (((((((hb1.setCell (p := ⟨w.heap.size, 0, none⟩) (Nat.le_refl _) _).setCell (p := ⟨w.heap.size, 1, none⟩) (Nat.le_refl _) _).setCell (p := ⟨w.heap.size, 2, none⟩) (Nat.le_refl _) _).setCell (p := ⟨w.heap.size, 3, none⟩) (Nat.le_refl _) _).setCell (p := ⟨w.heap.size, 4, none⟩) (Nat.le_refl _) _).setCell (p := ⟨w.heap.size, 5, none⟩) (Nat.le_refl _) _).setCell (p := ⟨w.heap.size, 6, none⟩) (Nat.le_refl _) _).setCell (p := ⟨w.heap.size, 7, none⟩) (Nat.le_refl _) _
      · have hdx : (d == x) = false := by simpa using hd
        have hf2 : e2.find x = some v := HO.out.elim (fun h => absurd h.1 hd) (fun h => h.2)
        have HF := Lib.hid hf2
        clear hf2
        have hp2 : 0 < e2.ents.length := by obtain ⟨_, _, _, rfl, _⟩ := find_ents HF.out; simp [En.ents]
        go_wp2_with fail
        have l2 : e2.ents.length = k := by have := HL.out; simpa [En.ents] using this
        have t2 : e2.ents = e.ents.take k := by
          have h := congrArg (List.take k) HT.out
          rw [En.ents, List.take_append_of_le_length (by omega), List.take_of_length_le (by omega), List.take_take, Nat.min_eq_left (by omega)] at h
          exact h
        exact ⟨⟨k - 1, e2, by go_num, by omega, by rw [show k - 1 + 1 = k by omega]; exact t2, HF.out, trivial⟩, by simp [intOf]; omega⟩
/-- Whether the run goes on. -/
theorem goes_c (rb : Nat) (en : Int) (w : World) (h : w.cell? ⟨rb, 0, none⟩ = some (.int .i64 en)) : Calls Tryz.prog 61 #[ptr rb] w fun e' w' => e' = .returned (.bool (en == 0)) ∧ w' = w := by
  go_enter Tryz.func61, Tryz.ntmps61
  go_wp2_with fail
  go_ret
  exact ⟨rfl, rfl⟩
abbrev zero8 : Value := v8 false 0 0 0 ⟨#[]⟩ none 0 0 0 none 0 0
/-- The run's end. -/
theorem stop_live (rb : Nat) (en : Int) (w : World) (h : w.cell? ⟨rb, 0, none⟩ = some (.int .i64 0)) (hf : w.frozen? ⟨rb, 0, none⟩ = false) : Calls Tryz.prog 60 #[ptr rb, .int .i64 en] w fun e' w' => e' = .returned zero8 ∧ w' = (w.setCell ⟨rb, 0, none⟩ (.int .i64 en)).alloc (.cells #[.bool false, .int .i64 0, .int .u8 0, .int .i64 0, .string ⟨#[]⟩, .slice none 0 0, .int .i64 0, .slice none 0 0] 71) := by
  have hl := World.block_lt_of_cell? w ⟨rb, 0, none⟩ h
  have hb1 := (Below.refl w.heap.size w).alloc (Nat.le_refl _) (.cells #[.bool false, .int .i64 0, .int .u8 0, .int .i64 0, .string ⟨#[]⟩, .slice none 0 0, .int .i64 0, .slice none 0 0] 71)
  have h2 := (hb1.cell (p := ⟨rb, 0, none⟩) hl).trans h
  have C := goes_c rb 0 _ h2
  go_enter Tryz.func60, Tryz.ntmps60
  go_wp2_with fail
  refine C.mono ?_
  rintro e' w' ⟨rfl, rfl⟩
  clear C
  go_wp2_with fail
  refine bodyPost_ret (v := zero8) (by simp [results, Tryz.results60, go_sem]) rfl ⟨rfl, rfl⟩
theorem stop_dead (rb : Nat) (en e0 : Int) (w : World) (h : w.cell? ⟨rb, 0, none⟩ = some (.int .i64 e0)) (hne : e0 ≠ 0) : Calls Tryz.prog 60 #[ptr rb, .int .i64 en] w fun e' w' => e' = .returned zero8 ∧ Below w.heap.size w w' := by
  have hl := World.block_lt_of_cell? w ⟨rb, 0, none⟩ h
  have hb1 := (Below.refl w.heap.size w).alloc (Nat.le_refl _) (.cells #[.bool false, .int .i64 0, .int .u8 0, .int .i64 0, .string ⟨#[]⟩, .slice none 0 0, .int .i64 0, .slice none 0 0] 71)
  have h2 := (hb1.cell (p := ⟨rb, 0, none⟩) hl).trans h
  have C := goes_c rb e0 _ h2
  have e1 : (e0 == 0) = false := by simpa using hne
  rw [e1] at C
  go_enter Tryz.func60, Tryz.ntmps60
  go_wp2_with fail
  refine C.mono ?_
  rintro e' w' ⟨rfl, rfl⟩
  clear C
  go_wp2_with fail
  refine bodyPost_ret (v := zero8) (by simp [results, Tryz.results60, go_sem]) rfl ⟨rfl, hb1⟩
end Go.Proofs.YthjhpfcilaghgaaGreatDoor
