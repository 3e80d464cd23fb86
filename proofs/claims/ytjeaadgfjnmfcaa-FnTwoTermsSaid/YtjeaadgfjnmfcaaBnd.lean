/- The specification's l1Bound. -/
import Derived.Test.YtjeaadgfjnmfcaaEach
import Derived.Test.YtjeaadgfjnmfcaaCtA
namespace Go.Proofs.Ytjeaadgfjnmfcaa
open Go.RowKit
open Ff
set_option linter.unusedVariables false

theorem binds_var (t : Tm) (h : kindOf t = 118) : bindsOf t = [] := by
  cases t with
  | var c => rfl
  | op s l r => rfl
  | _ => simp [kindOf] at h
set_option maxRecDepth 100000 in
set_option maxHeartbeats 4000000 in
theorem bound_c (t : Tm) (B : Nat) (v : Value) (w : World) (ht : t.depth ≤ 1000) (hp : (parts t).length ≤ 1000) (hrep : Rep (fun g => g < B) w t v) (hB : B ≤ w.heap.size) :
    Calls Try.prog 48 #[v] w fun e w' => e = .returned (.string ⟨(sbound t).toArray⟩) ∧ Below w.heap.size w w' := by
  obtain ⟨x0, y0, st0, aa0, l0, cc0, rfl⟩ := hrep.junk
  have hb0 : Below w.heap.size w (w.alloc (.cells #[.int .u8 x0, .int .i64 y0, .string st0, .slice aa0 l0 cc0] 49)) := (Below.refl _ w).alloc (Nat.le_refl _) _
  have D := each_c 1000 t B _ (w.alloc (.cells #[.int .u8 x0, .int .i64 y0, .string st0, .slice aa0 l0 cc0] 49)) ht hp (hrep.keep (fun g' hg' => hb0.block g' (by omega)) (fun g' hg' => hg')) (by simp; omega)
  clear hrep
  go_enter Try.func48, Try.ntmps48
  go_wp2_with fail
  refine D.mono ?_
  clear D
  rintro e w2 ⟨v2, xs, rfl, hb2, hown, hv2, hreps⟩
  obtain ⟨g, cap, rfl⟩ := own_shape hown hv2
  have hcell := hown.cells (g := g) rfl
  have hbw : Below w.heap.size w w2 := hb0.trans (hb2.mono (by simp))
  have hgl : g < w2.heap.size := by
    obtain ⟨gv, hgv, _, h⟩ := own_ne_nil hown hv2
    simp only [Value.ownBlock, Option.some.injEq] at hgv
    omega
  have hxl := hown.1
  have HC := Lib.hid hcell
  have HR := Lib.hid hreps
  clear hcell hreps hown hv2
  obtain ⟨W2, hW2⟩ : ∃ W2, w2 = W2 := ⟨_, rfl⟩
  subst hW2
  go_wp2_with fail
  go_loopw [3, 9] (fun o i wr => ∃ k : Nat, k ≤ (parts t).length ∧ i = .int .i64 k ∧ o = .string ⟨(boundTo (parts t) k).toArray⟩ ∧ Below w2.heap.size w2 wr) (fun _ i _ => (parts t).length - (intOf i).toNat)
  case atStart => exact ⟨0, Nat.zero_le _, rfl, rfl, Below.refl _ _⟩
  case round =>
    obtain ⟨k, hkl, rfl, rfl, hBl⟩ := hrel
    have hbl := boundTo_len (parts t) k
    by_cases hlt : k < (parts t).length
    · obtain ⟨s, hs⟩ : ∃ s, (parts t)[k]? = some s := ⟨_, List.getElem?_eq_getElem hlt⟩
      have hr := HR.out k s hs
      have hcells : ∀ j, j < 4 → wr.cell? ⟨g, 4 * k + j, none⟩ = some ((xs[4 * k + j]?).getD undef) := fun j hj => by
        have hj2 : 4 * k + j < xs.length := by omega
        have h1 := HC.out (4 * k + j) _ (List.getElem?_eq_getElem hj2)
        rw [Addr.add_lit, Nat.zero_add] at h1
        rw [List.getElem?_eq_getElem hj2]
        show _ = some _
        exact (hBl.cell (p := ⟨g, 4 * k + j, none⟩) hgl).trans h1
      have hsn : ∃ g' cap', four (fun j => (xs[j]?).getD undef) k = tmHead s g' cap' := by
        generalize four (fun j => (xs[j]?).getD undef) k = vv at hr
        cases hr with
        | mk _ g' cap' _ _ _ _ => exact ⟨g', cap', rfl⟩
      obtain ⟨g', cap', he⟩ := hsn
      unfold four tmHead at he
      simp only [Value.agg.injEq, Array.mk.injEq, List.cons.injEq, and_true] at he
      obtain ⟨i0, i1, i2, i3⟩ := he
      have e0 : wr.cell? ⟨g, k * 4, none⟩ = some (.int .u8 (kindOf s : Int)) := by rw [← i0]; have := hcells 0 (by omega); rwa [Nat.mul_comm k 4]
      have e1 : wr.cell? ⟨g, k * 4 + 1, none⟩ = some (.int .i64 (numOf s : Int)) := by rw [← i1]; have := hcells 1 (by omega); rwa [Nat.mul_comm k 4]
      have e2 : wr.cell? ⟨g, k * 4 + 2, none⟩ = some (.string ⟨(namesOf s).toArray⟩) := by rw [← i2]; have := hcells 2 (by omega); rwa [Nat.mul_comm k 4]
      have e3 : wr.cell? ⟨g, k * 4 + 3, none⟩ = some (.slice (some ⟨g', 0, none⟩) s.kids.length cap') := by rw [← i3]; have := hcells 3 (by omega); rwa [Nat.mul_comm k 4]
      have hsz := hBl.size
      have hnx := boundTo_succ _ _ _ hs
      have HN := Lib.hid hnx
      have hnl : (namesOf s).length ≤ 2 := by cases s <;> simp [namesOf]
      have z3 : ¬ 9223372036854775807 < (boundTo (parts t) k).length + (namesOf s).length := by omega
      clear hcells i0 i1 i2 i3 hs hr HC HR hnx
      by_cases hk : kindOf s = 118
      · have b1 : (kindOf s : Int) = 118 := by omega
        rw [b1] at e0
        go_wp2_with fail
        refine ⟨⟨k + 1, by omega, by go_num, ?_, hBl.alloc hsz _⟩, by simp [intOf]; omega⟩
        rw [HN.out, binds_var s hk, List.append_nil]
      · have b1 : ¬ ((kindOf s : Int) = 118) := by omega
        have b2 : ((kindOf s : Int) == 118) = false := by simp; omega
        go_wp2_with fail
        refine ⟨⟨k + 1, by omega, by go_num, ?_, hBl.alloc hsz _⟩, by simp [intOf]; omega⟩
        rw [HN.out, binds_names s hk, str_app2]
    · obtain rfl : k = (parts t).length := by omega
      have C := sorted_c (boundTo (parts t) (parts t).length) wr (by omega)
      go_wp2_with (go_at_call 63; refine C.mono ?_; clear C; rintro e w3 ⟨rfl, hb3⟩)
      go_ret
      exact ⟨rfl, hbw.trans ((hBl.trans (hb3.mono hBl.size)).mono hbw.size)⟩
end Go.Proofs.Ytjeaadgfjnmfcaa
