import Derived.Test.YtkhdghbjififnaaDoorNb
/- Nameless: the program's visit of the kids, as knots; knotOf. -/
namespace Go.Proofs.YtkhdghbjififnaaDoor
open Go.RowKit
open Ff
set_option linter.unusedVariables false
attribute [local go_sem] Oper.semAt_some

theorem Tryd.infoKnot : (Tryd.prog.info? 39).map (fun i => (i.zero, i.size, i.bytes)) = some (some (.agg #[.int .u8 0, .int .i64 0, .slice none 0 0]), 3, 40) := by kernel_rfl
/-- A visitor. -/
def VisK (w0 : World) (fv : Value) (s : Tm) (k : Knot) : Prop :=
  ∃ (f : FuncId) (cap : Array Value), fv = .func (.func f) #[] cap ∧ (∀ (W : World) (v : Value), (callFunc f (#[v] ++ cap)).run Tryd.prog W = .ok (.enter f (#[v] ++ cap)) W) ∧
    ∀ W, Below w0.heap.size w0 W → Calls Tryd.prog f (#[enc s] ++ cap) W fun e W' => ∃ v, e = .returned v ∧ Below W.heap.size W W' ∧ KRep (New W W') W' k v
/-- Where the knots of a row lie. -/
def KIn (B r : Nat) (W : World) (g : Nat) : Prop := (B ≤ g ∧ g < W.heap.size) ∧ g ≠ r
set_option maxRecDepth 100000 in
set_option maxHeartbeats 8000000 in
theorem visitN_c (t : Tm) (K : Nat → Tm → Knot) (fo fi : Value) (w : World) (hv : ∀ k s, t.kids[k]? = some s → VisK w (if k + 1 = t.kids.length then fi else fo) s (K k s)) :
    Calls Tryd.prog 29 #[enc t, fo, fi] w fun e w' => ∃ g cap c, e = .returned (.slice (some ⟨g, 0, none⟩) t.kids.length cap) ∧ Below w.heap.size w w' ∧ New w w' g ∧
      (∀ k, k < 3 * t.kids.length → w'.cell? ⟨g, k, none⟩ = some (c k)) ∧ ∀ i x, (t.kids.mapIdx K)[i]? = some x → KRep (New w w') w' x (three c i) := by
  obtain ⟨i0, hi, hz0, hz1, hz2⟩ := info_parts Tryd.infoKnot
  have hk3 : t.kids.length ≤ 3 := by cases t <;> simp [Tm.kids]
  rw [enc_ty t]
  have HV := Lib.hid hv
  clear hv
  obtain ⟨n, hn⟩ : ∃ n, t.kids.length = n := ⟨_, rfl⟩
  go_enter Tryd.func29, Tryd.ntmps29
  go_wp2_with (refine wpList_invoke rfl _ _ (ty t) (pl t) rfl rfl (kf t) (kids_m t _ (by unfold KidsName; kernel_rfl) _) (kids_f t _) (fun v w' => SliceOf w.heap.size w' v (t.kids.map enc) ∧ Below w.heap.size w w') (kids_c t _) ?_; rintro x w1 ⟨hs, hb⟩; obtain ⟨a, rfl, hcell⟩ := hs.uni; clear hs; have HC := Lib.hid hcell; clear hcell; rw [List.length_map, hn]; obtain ⟨w2, hrun, hown, hgrow⟩ := run_make_full (P := Tryd.prog) w1 w1.heap.size 37 39 i0 (.agg #[.int .u8 0, .int .i64 0, .slice none 0 0]) 3 Tryd.underlying37 hi hz0 hz1 .i64 .i64 n (by rw [hz2]; omega) (by unfold maxLen; omega) (Nat.le_refl _))
  have hb2 : Below w.heap.size w w2 := hb.grown hgrow hb.size (fun j hj => by cases hj)
  have hs1 := hb.size
  have hs12 := hgrow.size
  have HC2 : Hid (∀ i x, (t.kids.map enc)[i]? = some x → ∃ g, a = some ⟨g, 0, none⟩ ∧ w.heap.size ≤ g ∧ g < w1.heap.size ∧ w2.cell? ⟨g, i, none⟩ = some x) := Lib.hid fun i x hx => by
    obtain ⟨g, h1, h2, h3, h4⟩ := HC.out i x hx
    exact ⟨g, h1, h2, h3, hgrow.cell h4 (by simp)⟩
  have HO := Lib.hid hown
  have HN := Lib.hid hn
  clear hown hrun HC
  go_loopw [18] (fun i wr => ∃ (k : Nat) (ys : List Value), k ≤ n ∧ i = .int .i64 k ∧ wr.ownsRow w1.heap.size 39 3 (.slice (some ⟨w1.heap.size, 0, none⟩) n n) n ys ∧ Below w.heap.size w wr ∧ w2.grownBy wr (some w1.heap.size) ∧ ∀ (j : Nat) (s : Tm), j < k → t.kids[j]? = some s → KRep (KIn w.heap.size w1.heap.size wr) wr (K j s) (three (fun i => (ys[i]?).getD undef) j)) (fun i _ => n - (intOf i).toNat)
  case atStart => exact ⟨0, _, Nat.zero_le _, rfl, HO.out, hb2, World.grownBy.refl _ _, fun j s h => by omega⟩
  case round =>
    obtain ⟨k, ys, hk, rfl, hO, hBr, hG, hys⟩ := hrel
    have hyl : ys.length = n * 3 := hO.1
    by_cases hlt : k < n
    · obtain ⟨s, hs⟩ : ∃ s, t.kids[k]? = some s := ⟨_, List.getElem?_eq_getElem (by have := HN.out; omega)⟩
      obtain ⟨y0, hy0⟩ : ∃ y, ys[k * 3]? = some y := ⟨_, List.getElem?_eq_getElem (by omega)⟩
      obtain ⟨y1, hy1⟩ : ∃ y, ys[k * 3 + 1]? = some y := ⟨_, List.getElem?_eq_getElem (by omega)⟩
      obtain ⟨y2, hy2⟩ : ∃ y, ys[k * 3 + 2]? = some y := ⟨_, List.getElem?_eq_getElem (by omega)⟩
      obtain ⟨g, rfl, hg1, hg2, hc⟩ := HC2.out k (enc s) (by simp [hs])
      have hc2 := hG.cell hc (by simp; omega)
      have hvis := HV.out k s hs
      rw [HN.out] at hvis
      have hsr : w1.heap.size < wr.heap.size := (hO.lt w1.heap.size rfl).2
      have c0 := hO.cells (g := w1.heap.size) rfl (k * 3) y0 hy0
      have c1 := hO.cells (g := w1.heap.size) rfl (k * 3 + 1) y1 hy1
      have c2 := hO.cells (g := w1.heap.size) rfl (k * 3 + 2) y2 hy2
      rw [Addr.add_lit, Nat.zero_add] at c0 c1 c2
      have f0 := Ints.frozen hO (k * 3)
      have f1 := Ints.frozen hO (k * 3 + 1)
      have f2 := Ints.frozen hO (k * 3 + 2)
      have HS := Lib.hid hs
      have HY := Lib.hid hys
      have HYL := Lib.hid hyl
      have HOO := Lib.hid hO
      clear hs hys hyl hc hO hy0 hy1 hy2
      rw [enc_ty s] at hc2
      have fin : ∀ (w3 : World) (z0 z1 : Int) (z2 : Option Addr) (z3 z4 : Nat), Below wr.heap.size wr w3 → KRep (New wr w3) w3 (K k s) (.agg #[.int .u8 z0, .int .i64 z1, .slice z2 z3 z4]) →
          ∃ (k' : Nat) (ys' : List Value), k' ≤ n ∧ Value.int .i64 ((k : Int) + 1) = .int .i64 k' ∧ (((w3.setCell ⟨w1.heap.size, k * 3, none⟩ (.int .u8 z0)).setCell ⟨w1.heap.size, k * 3 + 1, none⟩ (.int .i64 z1)).setCell ⟨w1.heap.size, k * 3 + 2, none⟩ (.slice z2 z3 z4)).ownsRow w1.heap.size 39 3 (.slice (some ⟨w1.heap.size, 0, none⟩) n n) n ys' ∧
            Below w.heap.size w (((w3.setCell ⟨w1.heap.size, k * 3, none⟩ (.int .u8 z0)).setCell ⟨w1.heap.size, k * 3 + 1, none⟩ (.int .i64 z1)).setCell ⟨w1.heap.size, k * 3 + 2, none⟩ (.slice z2 z3 z4)) ∧ w2.grownBy (((w3.setCell ⟨w1.heap.size, k * 3, none⟩ (.int .u8 z0)).setCell ⟨w1.heap.size, k * 3 + 1, none⟩ (.int .i64 z1)).setCell ⟨w1.heap.size, k * 3 + 2, none⟩ (.slice z2 z3 z4)) (some w1.heap.size) ∧
            ∀ (j : Nat) (s : Tm), j < k' → t.kids[j]? = some s → KRep (KIn w.heap.size w1.heap.size (((w3.setCell ⟨w1.heap.size, k * 3, none⟩ (.int .u8 z0)).setCell ⟨w1.heap.size, k * 3 + 1, none⟩ (.int .i64 z1)).setCell ⟨w1.heap.size, k * 3 + 2, none⟩ (.slice z2 z3 z4))) (((w3.setCell ⟨w1.heap.size, k * 3, none⟩ (.int .u8 z0)).setCell ⟨w1.heap.size, k * 3 + 1, none⟩ (.int .i64 z1)).setCell ⟨w1.heap.size, k * 3 + 2, none⟩ (.slice z2 z3 z4)) (K j s) (three (fun i => (ys'[i]?).getD undef) j) := by
        intro w3 z0 z1 z2 z3 z4 hb3 hr3
        have hs3 := hb3.size
        have hsz : (((w3.setCell ⟨w1.heap.size, k * 3, none⟩ (.int .u8 z0)).setCell ⟨w1.heap.size, k * 3 + 1, none⟩ (.int .i64 z1)).setCell ⟨w1.heap.size, k * 3 + 2, none⟩ (.slice z2 z3 z4)).heap.size = w3.heap.size := by simp [World.setCell]
        have hfar : ∀ g', g' ≠ w1.heap.size → (((w3.setCell ⟨w1.heap.size, k * 3, none⟩ (.int .u8 z0)).setCell ⟨w1.heap.size, k * 3 + 1, none⟩ (.int .i64 z1)).setCell ⟨w1.heap.size, k * 3 + 2, none⟩ (.slice z2 z3 z4)).heap[g']? = w3.heap[g']? := fun g' hg' =>
          (Below.heap_setCell _ _ _ _ hg').trans ((Below.heap_setCell _ _ _ _ hg').trans (Below.heap_setCell _ _ _ _ hg'))
        refine ⟨k + 1, ((ys.set (k * 3) (.int .u8 z0)).set (k * 3 + 1) (.int .i64 z1)).set (k * 3 + 2) (.slice z2 z3 z4), by omega, by simp, row_setS (row_setS (row_setS (ownsRow_keep HOO.out hb3) _ _) _ _) _ _, ?_, ?_, ?_⟩
        · exact (((hBr.trans (hb3.mono hBr.size)).setCell (p := ⟨w1.heap.size, k * 3, none⟩) hs1 _).setCell (p := ⟨w1.heap.size, k * 3 + 1, none⟩) hs1 _).setCell (p := ⟨w1.heap.size, k * 3 + 2, none⟩) hs1 _
        · exact grownBy_set (grownBy_set (grownBy_set (hG.andThen (below_grown hb3) (fun j hj => by cases hj)) _ _) _ _) _ _
        · intro j s' hj hs'
          by_cases e : j = k
          · subst e
            rw [HS.out] at hs'
            injection hs' with hs'
            subst hs'
            have hyl := HYL.out
            have e3 : three (fun i => ((((ys.set (j * 3) (.int .u8 z0)).set (j * 3 + 1) (.int .i64 z1)).set (j * 3 + 2) (.slice z2 z3 z4))[i]?).getD undef) j = .agg #[.int .u8 z0, .int .i64 z1, .slice z2 z3 z4] := by
              unfold three
              rw [Nat.mul_comm 3 j]
              simp only [List.getElem?_set, List.length_set]
              simp [show j * 3 < ys.length by omega, show j * 3 + 1 < ys.length by omega, show j * 3 + 2 < ys.length by omega]
            rw [e3]
            exact hr3.keep (fun g' hg' => hfar g' (by have := hg'.1; omega)) (fun g' hg' => ⟨⟨by have := hg'.1; have := hBr.size; omega, by rw [hsz]; exact hg'.2⟩, by have := hg'.1; omega⟩)
          · have e3 : three (fun i => ((((ys.set (k * 3) (.int .u8 z0)).set (k * 3 + 1) (.int .i64 z1)).set (k * 3 + 2) (.slice z2 z3 z4))[i]?).getD undef) j = three (fun i => (ys[i]?).getD undef) j := by
              unfold three
              simp only [List.getElem?_set_ne (show k * 3 + 2 ≠ 3 * j by omega), List.getElem?_set_ne (show k * 3 + 2 ≠ 3 * j + 1 by omega), List.getElem?_set_ne (show k * 3 + 2 ≠ 3 * j + 2 by omega), List.getElem?_set_ne (show k * 3 + 1 ≠ 3 * j by omega), List.getElem?_set_ne (show k * 3 + 1 ≠ 3 * j + 1 by omega), List.getElem?_set_ne (show k * 3 + 1 ≠ 3 * j + 2 by omega), List.getElem?_set_ne (show k * 3 ≠ 3 * j by omega), List.getElem?_set_ne (show k * 3 ≠ 3 * j + 1 by omega), List.getElem?_set_ne (show k * 3 ≠ 3 * j + 2 by omega)]
            rw [e3]
            exact (HY.out j s' (by omega) hs').keep (fun g' hg' => (hfar g' hg'.2).trans (hb3.block g' hg'.1.2)) (fun g' hg' => ⟨⟨hg'.1.1, by rw [hsz]; have := hg'.1.2; omega⟩, hg'.2⟩)
      have HF := Lib.hid fin
      clear fin
      by_cases hlast : k + 1 = n
      · rw [if_pos hlast] at hvis
        have hq := last_eq hlast
        obtain ⟨f, cap, rfl, hcf, hC⟩ := hvis
        have C := hC wr hBr
        rw [enc_ty s] at C
        have hw : IntKind.i64.wrap ((n : Int) - 1) = (n : Int) - 1 := by rw [IntKind.wrap_i64]; omega
        have HLA := Lib.hid hlast
        clear hlast hC HV
        go_wp2_with fail
        refine C.mono ?_
        clear C hcf
        rintro e w3 ⟨v, rfl, hb3, hr3⟩
        obtain ⟨z0, z1, z2, z3, z4, rfl⟩ := hr3.junk
        have x0 := (hb3.cell (p := ⟨w1.heap.size, k * 3, none⟩) hsr).trans c0
        have x1 := (hb3.cell (p := ⟨w1.heap.size, k * 3 + 1, none⟩) hsr).trans c1
        have x2 := (hb3.cell (p := ⟨w1.heap.size, k * 3 + 2, none⟩) hsr).trans c2
        have u0 := (hb3.frozen (p := ⟨w1.heap.size, k * 3, none⟩) hsr).trans f0
        have u1 := (hb3.frozen (p := ⟨w1.heap.size, k * 3 + 1, none⟩) hsr).trans f1
        have u2 := (hb3.frozen (p := ⟨w1.heap.size, k * 3 + 2, none⟩) hsr).trans f2
        have HF2 := Lib.hid (HF.out w3 z0 z1 z2 z3 z4 hb3 hr3)
        clear c0 c1 c2 f0 f1 f2 hr3 HF
        go_wp2_with fail
        refine ⟨HF2.out, by simp [intOf]; omega⟩
      · rw [if_neg hlast] at hvis
        have hq := last_ne hlast
        obtain ⟨f, cap, rfl, hcf, hC⟩ := hvis
        have C := hC wr hBr
        rw [enc_ty s] at C
        have hw : IntKind.i64.wrap ((n : Int) - 1) = (n : Int) - 1 := by rw [IntKind.wrap_i64]; omega
        have HLA := Lib.hid hlast
        clear hlast hC HV
        go_wp2_with fail
        refine C.mono ?_
        clear C hcf
        rintro e w3 ⟨v, rfl, hb3, hr3⟩
        obtain ⟨z0, z1, z2, z3, z4, rfl⟩ := hr3.junk
        have x0 := (hb3.cell (p := ⟨w1.heap.size, k * 3, none⟩) hsr).trans c0
        have x1 := (hb3.cell (p := ⟨w1.heap.size, k * 3 + 1, none⟩) hsr).trans c1
        have x2 := (hb3.cell (p := ⟨w1.heap.size, k * 3 + 2, none⟩) hsr).trans c2
        have u0 := (hb3.frozen (p := ⟨w1.heap.size, k * 3, none⟩) hsr).trans f0
        have u1 := (hb3.frozen (p := ⟨w1.heap.size, k * 3 + 1, none⟩) hsr).trans f1
        have u2 := (hb3.frozen (p := ⟨w1.heap.size, k * 3 + 2, none⟩) hsr).trans f2
        have HF2 := Lib.hid (HF.out w3 z0 z1 z2 z3 z4 hb3 hr3)
        clear c0 c1 c2 f0 f1 f2 hr3 HF
        go_wp2_with fail
        refine ⟨HF2.out, by simp [intOf]; omega⟩
    · obtain rfl : k = n := by omega
      have HY := Lib.hid hys
      have HYL := Lib.hid hyl
      have HOO := Lib.hid hO
      clear hys hyl hO
      go_wp2_with fail
      go_ret
      have hr := (HOO.out.lt w1.heap.size rfl).2
      refine ⟨w1.heap.size, k, fun i => (ys[i]?).getD undef, by rw [HN.out]; rfl, hBr, ⟨hs1, hr⟩, fun j hj => ?_, fun i x hx => ?_⟩
      · rw [HN.out] at hj
        obtain ⟨y, hy⟩ : ∃ y, ys[j]? = some y := ⟨_, List.getElem?_eq_getElem (by have := HYL.out; omega)⟩
        have h3 := HOO.out.cells (g := w1.heap.size) rfl j _ hy
        rw [Addr.add_lit, Nat.zero_add] at h3
        rw [h3]; simp [hy]
      · rw [List.getElem?_mapIdx] at hx
        obtain ⟨s, hs, rfl⟩ := Option.map_eq_some_iff.1 hx
        exact (HY.out i s (by have := (List.getElem?_eq_some_iff.1 hs).1; have := HN.out; omega) hs).keep (fun _ _ => rfl) (fun g' hg' => hg'.1)
end Go.Proofs.YtkhdghbjififnaaDoor
