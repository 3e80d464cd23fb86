import Derived.Test.YtjfhncfbejephaaGreatDoorMPa
/- The program's PartsOf. -/
namespace Go.Proofs.YtjfhncfbejephaaGreatDoor
open Go.RowKit Go.Shelf
open Ff
set_option linter.unusedVariables false
attribute [local go_sem] Oper.semAt_some

set_option maxRecDepth 100000 in
set_option maxHeartbeats 4000000 in
theorem iPartsOf_c (s : Text) (w : World) (hl : s.length ≤ 9223372036854775807) :
    Calls Tryz.prog 11 #[.string ⟨s.toArray⟩] w fun e w' => ∃ v, e = .returned (.tuple #[v, .bool (readT s).isSome]) ∧ Strs w' w.heap.size v (partsO (readT s)) ∧ Below w.heap.size w w' := by
  have C := read_c s w hl
  obtain ⟨i0, hi, hz0, hz1, hz2⟩ := info_parts Tryz.infoStr
  refine (callsIn_wide (n := 9)).1 ?_
  refine callsIn_of_wp_marks Tryz.func11 rfl trivial ?_ rfl
  simp only [Tryz.ntmps11, List.size_toArray, List.length_cons, List.length_nil, Nat.reduceAdd, Nat.reduceSub, Array.replicate_succ, Array.replicate_zero, List.push_toArray, List.append_toArray, List.nil_append, List.cons_append]
  gi_wp2_with (refine ⟨trivial, ?_⟩; gi_at_call 20; refine (callsIn_wide.2 C).mono ?_; clear C)
  rcases hr : readT s with _ | t
  · rintro e w1 ⟨rfl, hb1⟩
    have HR := Lib.hid hr
    clear hr
    gi_wp2
    refine ⟨_, results_tmp2 rfl _ _ _, _, by rw [HR.out]; rfl, ?_, hb1⟩
    rw [HR.out]
    exact World.ownsRow_nil _ _ _ _
  · rintro e w1 ⟨rfl, hb1⟩
    have hs := readS_eq s ▸ hr
    have hp := readS_parts hs
    have hgd := readS_good hs
    have HR := Lib.hid hr
    clear hr
    have P := partsOf_c 8 t (w1.alloc (.cells #[.slice none 0 0] 31))
    rw [enc_ty t] at P ⊢
    gi_wp2_with (refine ⟨trivial, ?_⟩; gi_at_call 21; refine P.mono ?_; clear P; rintro e w2 ⟨rfl, rfl⟩)
    have hbx := Boxed.new w1 31 (.slice none 0 0)
    have hb := cell_new_v (w1.alloc (.cells #[.slice none 0 0] 31)) (.iface (ty t) (pl t)) 63
    rw [World.size_alloc] at hb
    have hbx2 := hbx.alloc (.cells #[.iface (ty t) (pl t)] 63)
    have hsz1 := hb1.size
    have hB2 : Below w.heap.size w ((w1.alloc (.cells #[.slice none 0 0] 31)).alloc (.cells #[.iface (ty t) (pl t)] 63)) := (hb1.alloc hsz1 _).alloc (by simp; omega) _
    have hs2 : ((w1.alloc (.cells #[.slice none 0 0] 31)).alloc (.cells #[.iface (ty t) (pl t)] 63)).heap.size = w1.heap.size + 2 := by simp
    obtain ⟨W2, hW2⟩ : ∃ W2, (w1.alloc (.cells #[.slice none 0 0] 31)).alloc (.cells #[.iface (ty t) (pl t)] 63) = W2 := ⟨_, rfl⟩
    rw [hW2] at hb hbx2 hB2 hs2 ⊢
    clear hW2 hbx
    refine wpIn_rangeFunc_ownF rfl (by decide) (gf := 32) (lb := #[.pointer (some ⟨w1.heap.size + 1, 0, none⟩)]) rfl trivial (enters_of Tryz.func32 (by kernel_rfl) rfl)
      (partsG_stops 8 (w1.heap.size + 1) W2.heap.size (RowT w1.heap.size) (told_row (by omega)) t ⟨hgd, by have := readS_depth hs; omega, by omega⟩ W2 (by omega) (Nat.le_refl _) (by rw [enc_ty t]; exact hb.1)) KeepT.trans (fun W l o o' hl h ho _ => rowT_putObj W l o o' (by omega) h ho) (Below.refl _ _) (fun _ => rfl)
      (fun pre W => (∃ v, Boxed W w1.heap.size 31 v ∧ Strs W w1.heap.size v (partsT (pre.map (·.1))) ∧ (partsT (pre.map (·.1)) = [] → v = .slice none 0 0)) ∧ Below w.heap.size w W)
      (fun _ _ _ => False)
      (OwnFrom.and ((holdsRow_own w1.heap.size w1.heap.size 31 9 1 (fun pre : List GT => (partsT (pre.map (·.1))).length) (fun pre => (partsT (pre.map (·.1))).map sv) (fun pre v => partsT (pre.map (·.1)) = [] → v = .slice none 0 0)).from _) (ownFrom_below (Nat.le_refl _) (by omega)))
      (fun _ _ _ _ _ hs _ _ => hs)
      ⟨⟨_, hbx2, World.ownsRow_nil _ _ _ _, fun _ => rfl⟩, hB2⟩
      (fun x => { tmps := #[.string ⟨s.toArray⟩, undef, .slice none 0 0, .bool false, .iface (ty t) (pl t), .bool true, .pointer (some ⟨w1.heap.size, 0, none⟩), enc x.1, .tuple #[.iface (ty t) (pl t), .bool true], .string ⟨s.toArray⟩, .tuple #[.iface (ty t) (pl t), .bool true], .iface (ty t) (pl t), .bool true, .bool true, .bool false, .iface (ty t) (pl t), .func (.func 32) #[] #[.pointer (some ⟨w1.heap.size + 1, 0, none⟩)], enc x.1, undef, undef, undef, undef, undef, undef], defers := [] }) ?assign ?body ?done ?stop
    case assign =>
      intro l x W K hK
      have ez : (#[17] : Array Tmp).zip #[enc x.1] = #[(17, enc x.1)] := by simp
      rw [ez]
      gi_wp2
      exact hK
    case body =>
      rintro l pre ⟨x, hx⟩ W ⟨⟨v, hv, hrow, hnil⟩, hB⟩ hlt
      have hBW : w1.heap.size < W.heap.size := hv.lt
      have hcv := hv.cell
      have hfv := hv.frozen
      have hlen : (partsT (pre.map (·.1))).length ≤ 4000 := by have := partsT_len (pre.map (·.1)); rw [List.length_map] at this; omega
      have C := fun w' => text_c 200 x hx.2.1 hx.1 (Nat.le_trans hx.2.2 (by decide)) w'
      have hRL : partsT ((pre ++ [(⟨x, hx⟩ : GT)]).map (·.1)) = partsT (pre.map (·.1)) ++ [textN x] := by rw [List.map_append]; exact partsT_snoc _ _
      rw [enc_ty x]
      gi_wp2
      refine wpIn_region_any (by kernel_rfl) ?_
      refine wpAnyIn_ready (rs := [0, 1]) (by kernel_rfl) (by simp) ?_
      refine AllReadyIn.cons rfl (fun K hK => ?_) ?_
      · go_simp
        refine hK _ _ ?_
        clear hK K
        refine wpAnyIn_ready (rs := [1]) (by kernel_rfl) (by simp) ?_
        refine AllReadyIn.cons rfl (fun K hK => ?_) ?_
        · go_simp
          refine hK _ _ ?_
          clear hK K
          refine wpAnyIn_ready (rs := [2]) (by kernel_rfl) (by simp) ?_
          refine AllReadyIn.cons rfl (fun K hK => ?_) ?_
          · refine wpIn_invoke_if rfl _ _ (ty x) (pl x) rfl rfl (tf x) (text_m x _ (by unfold TextName; kernel_rfl) _) (text_f x _) (fun rv w' => rv = sv (textN x) ∧ Below W.heap.size W w') (keepI (C _)) ?_
            rintro rv w3 ⟨rfl, hWa⟩
            have hv3 : Boxed w3 w1.heap.size 31 v := (hWa.block w1.heap.size hBW).trans hv
            have hc3 := hv3.cell
            have hca := (hv3.alloc (.cells #[sv (textN x)] 9)).cell
            refine hK _ _ ?_
            clear hK K
            refine wpAnyIn_ready (rs := [3]) (by kernel_rfl) (by simp) ?_
            refine AllReadyIn.cons rfl (fun K hK => ?_) ?_
            · go_simp
              refine hK _ _ ?_
              clear hK K
              refine wpAnyIn_ready (rs := [4]) (by kernel_rfl) (by simp) ?_
              refine AllReadyIn.cons rfl (fun K hK => ?_) ?_
              · refine wpIn_append_if rfl _ _ rfl hi hz0 hz1 hz2 rfl ((Strs.below hrow hWa (Nat.le_refl _)).alloc _) ⟨w3.heap.size, 0, none⟩ rfl (cell_one_new _ _ _) (by have := hWa.size; simp; omega) (by omega) ?_
                intro v' w5 hown' hgrow hwhere
                obtain ⟨k1, k2, k3, k4, k5, k6⟩ := row_step hv hrow hnil (Nat.le_refl _) hBW hWa hown' hgrow hwhere
                obtain ⟨g', cap', rfl⟩ := strs_succ hown'
                have hcs := k1.cell
                have hfs := k1.frozen
                refine hK _ _ ?_
                clear hK K
                refine wpAnyIn_ready (rs := [5]) (by kernel_rfl) (by simp) ?_
                refine AllReadyIn.cons rfl (fun K hK => ?_) ?_
                · go_simp
                  refine hK _ _ ?_
                  clear hK K
                  refine wpAnyIn_done (by kernel_rfl) ?_ _
                  refine ⟨k4, k6, ⟨⟨_, k2, ?_, fun h => ?_⟩, hB.trans (k5.mono hsz1)⟩⟩
                  · rw [hRL]; exact k3
                  · rw [hRL] at h; simp at h
                exact AllReadyIn.nil
              exact AllReadyIn.nil
            exact AllReadyIn.nil
          exact AllReadyIn.nil
        exact AllReadyIn.nil
      refine AllReadyIn.cons rfl (fun K hK => ?_) ?_
      · go_simp
        refine hK _ _ ?_
        clear hK K
        refine wpAnyIn_ready (rs := [0, 2]) (by kernel_rfl) (by simp) ?_
        refine AllReadyIn.cons rfl (fun K hK => ?_) ?_
        · go_simp
          refine hK _ _ ?_
          clear hK K
          refine wpAnyIn_ready (rs := [2]) (by kernel_rfl) (by simp) ?_
          refine AllReadyIn.cons rfl (fun K hK => ?_) ?_
          · refine wpIn_invoke_if rfl _ _ (ty x) (pl x) rfl rfl (tf x) (text_m x _ (by unfold TextName; kernel_rfl) _) (text_f x _) (fun rv w' => rv = sv (textN x) ∧ Below W.heap.size W w') (keepI (C _)) ?_
            rintro rv w3 ⟨rfl, hWa⟩
            have hv3 : Boxed w3 w1.heap.size 31 v := (hWa.block w1.heap.size hBW).trans hv
            have hc3 := hv3.cell
            have hca := (hv3.alloc (.cells #[sv (textN x)] 9)).cell
            refine hK _ _ ?_
            clear hK K
            refine wpAnyIn_ready (rs := [3]) (by kernel_rfl) (by simp) ?_
            refine AllReadyIn.cons rfl (fun K hK => ?_) ?_
            · go_simp
              refine hK _ _ ?_
              clear hK K
              refine wpAnyIn_ready (rs := [4]) (by kernel_rfl) (by simp) ?_
              refine AllReadyIn.cons rfl (fun K hK => ?_) ?_
              · refine wpIn_append_if rfl _ _ rfl hi hz0 hz1 hz2 rfl ((Strs.below hrow hWa (Nat.le_refl _)).alloc _) ⟨w3.heap.size, 0, none⟩ rfl (cell_one_new _ _ _) (by have := hWa.size; simp; omega) (by omega) ?_
                intro v' w5 hown' hgrow hwhere
                obtain ⟨k1, k2, k3, k4, k5, k6⟩ := row_step hv hrow hnil (Nat.le_refl _) hBW hWa hown' hgrow hwhere
                obtain ⟨g', cap', rfl⟩ := strs_succ hown'
                have hcs := k1.cell
                have hfs := k1.frozen
                refine hK _ _ ?_
                clear hK K
                refine wpAnyIn_ready (rs := [5]) (by kernel_rfl) (by simp) ?_
                refine AllReadyIn.cons rfl (fun K hK => ?_) ?_
                · go_simp
                  refine hK _ _ ?_
                  clear hK K
                  refine wpAnyIn_done (by kernel_rfl) ?_ _
                  refine ⟨k4, k6, ⟨⟨_, k2, ?_, fun h => ?_⟩, hB.trans (k5.mono hsz1)⟩⟩
                  · rw [hRL]; exact k3
                  · rw [hRL] at h; simp at h
                exact AllReadyIn.nil
              exact AllReadyIn.nil
            exact AllReadyIn.nil
          exact AllReadyIn.nil
        refine AllReadyIn.cons rfl (fun K hK => ?_) ?_
        · refine wpIn_invoke_if rfl _ _ (ty x) (pl x) rfl rfl (tf x) (text_m x _ (by unfold TextName; kernel_rfl) _) (text_f x _) (fun rv w' => rv = sv (textN x) ∧ Below W.heap.size W w') (keepI (C _)) ?_
          rintro rv w3 ⟨rfl, hWa⟩
          have hv3 : Boxed w3 w1.heap.size 31 v := (hWa.block w1.heap.size hBW).trans hv
          have hc3 := hv3.cell
          have hca := (hv3.alloc (.cells #[sv (textN x)] 9)).cell
          refine hK _ _ ?_
          clear hK K
          refine wpAnyIn_ready (rs := [0, 3]) (by kernel_rfl) (by simp) ?_
          refine AllReadyIn.cons rfl (fun K hK => ?_) ?_
          · go_simp
            refine hK _ _ ?_
            clear hK K
            refine wpAnyIn_ready (rs := [3]) (by kernel_rfl) (by simp) ?_
            refine AllReadyIn.cons rfl (fun K hK => ?_) ?_
            · go_simp
              refine hK _ _ ?_
              clear hK K
              refine wpAnyIn_ready (rs := [4]) (by kernel_rfl) (by simp) ?_
              refine AllReadyIn.cons rfl (fun K hK => ?_) ?_
              · refine wpIn_append_if rfl _ _ rfl hi hz0 hz1 hz2 rfl ((Strs.below hrow hWa (Nat.le_refl _)).alloc _) ⟨w3.heap.size, 0, none⟩ rfl (cell_one_new _ _ _) (by have := hWa.size; simp; omega) (by omega) ?_
                intro v' w5 hown' hgrow hwhere
                obtain ⟨k1, k2, k3, k4, k5, k6⟩ := row_step hv hrow hnil (Nat.le_refl _) hBW hWa hown' hgrow hwhere
                obtain ⟨g', cap', rfl⟩ := strs_succ hown'
                have hcs := k1.cell
                have hfs := k1.frozen
                refine hK _ _ ?_
                clear hK K
                refine wpAnyIn_ready (rs := [5]) (by kernel_rfl) (by simp) ?_
                refine AllReadyIn.cons rfl (fun K hK => ?_) ?_
                · go_simp
                  refine hK _ _ ?_
                  clear hK K
                  refine wpAnyIn_done (by kernel_rfl) ?_ _
                  refine ⟨k4, k6, ⟨⟨_, k2, ?_, fun h => ?_⟩, hB.trans (k5.mono hsz1)⟩⟩
                  · rw [hRL]; exact k3
                  · rw [hRL] at h; simp at h
                exact AllReadyIn.nil
              exact AllReadyIn.nil
            exact AllReadyIn.nil
          refine AllReadyIn.cons rfl (fun K hK => ?_) ?_
          · go_simp
            refine hK _ _ ?_
            clear hK K
            refine wpAnyIn_ready (rs := [0]) (by kernel_rfl) (by simp) ?_
            refine AllReadyIn.cons rfl (fun K hK => ?_) ?_
            · go_simp
              refine hK _ _ ?_
              clear hK K
              refine wpAnyIn_ready (rs := [4]) (by kernel_rfl) (by simp) ?_
              refine AllReadyIn.cons rfl (fun K hK => ?_) ?_
              · refine wpIn_append_if rfl _ _ rfl hi hz0 hz1 hz2 rfl ((Strs.below hrow hWa (Nat.le_refl _)).alloc _) ⟨w3.heap.size, 0, none⟩ rfl (cell_one_new _ _ _) (by have := hWa.size; simp; omega) (by omega) ?_
                intro v' w5 hown' hgrow hwhere
                obtain ⟨k1, k2, k3, k4, k5, k6⟩ := row_step hv hrow hnil (Nat.le_refl _) hBW hWa hown' hgrow hwhere
                obtain ⟨g', cap', rfl⟩ := strs_succ hown'
                have hcs := k1.cell
                have hfs := k1.frozen
                refine hK _ _ ?_
                clear hK K
                refine wpAnyIn_ready (rs := [5]) (by kernel_rfl) (by simp) ?_
                refine AllReadyIn.cons rfl (fun K hK => ?_) ?_
                · go_simp
                  refine hK _ _ ?_
                  clear hK K
                  refine wpAnyIn_done (by kernel_rfl) ?_ _
                  refine ⟨k4, k6, ⟨⟨_, k2, ?_, fun h => ?_⟩, hB.trans (k5.mono hsz1)⟩⟩
                  · rw [hRL]; exact k3
                  · rw [hRL] at h; simp at h
                exact AllReadyIn.nil
              exact AllReadyIn.nil
            exact AllReadyIn.nil
          exact AllReadyIn.nil
        exact AllReadyIn.nil
      exact AllReadyIn.nil
    case done =>
      rintro D ys W hD hys ⟨⟨v, hv, hrow, hnil⟩, hB⟩ hK
      have hc := hv.cell
      gi_wp2
      refine ⟨by simp, .inl ⟨_, _, rfl, run_takeDeferred hK, ?_⟩⟩
      refine ⟨_, results_tmp2 rfl _ _ _, v, by rw [HR.out]; rfl, ?_, hB.trans (belowK_b (w := w) (Nat.le_refl _) W D _ _ (by omega) hK rfl rfl)⟩
      have h := ownsRow_putObj hrow (.deferred none) hK rfl
      rw [HR.out]
      show Strs _ _ _ (partsT (parts t))
      rw [← hys]
      exact Strs.base (base := w1.heap.size) h hsz1
    case stop =>
      rintro D c pre W _ _ h _
      exact h.elim
end Go.Proofs.YtjfhncfbejephaaGreatDoor
