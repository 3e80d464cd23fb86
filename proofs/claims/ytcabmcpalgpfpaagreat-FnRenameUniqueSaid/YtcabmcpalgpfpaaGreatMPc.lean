import Derived.Test.YtcabmcpalgpfpaaGreatMPa
import Derived.Test.YtcabmcpalgpfpaaGreatMCt
/- The program's CapturedBy. -/
namespace Go.Proofs.YtcabmcpalgpfpaaGreat
open Go.RowKit Go.Shelf
open Ff
set_option linter.unusedVariables false
attribute [local go_sem] Oper.semAt_some

theorem keepF {x : Tm} {W : World} (h : Calls Tryz.prog 27 #[.iface (ty x) (pl x)] W.drew fun e w' => ∃ b k, e = .returned (.map (some b)) ∧ W.drew.heap.size ≤ b ∧ k ≤ (parts x).length ∧ Tally w' b k (cntF x) ∧ Below W.drew.heap.size W.drew w') :
    Calls Tryz.prog 27 #[.iface (ty x) (pl x)] W.drew fun e w' => ∃ r, e = .returned r ∧ ∃ b k, r = .map (some b) ∧ Tally w' b k (cntF x) ∧ Below W.heap.size W w' :=
  h.mono (by rintro e w' ⟨b, k, rfl, _, _, hT, hb⟩; exact ⟨_, rfl, b, k, rfl, hT, (Below.refl W.heap.size W).drew.trans hb⟩)
theorem keepO {x : Tm} {W w3 : World} {b k : Nat} (hf : sfree x = namesIn (cntF x)) (hT : Tally w3 b k (cntF x)) (hW : Below W.heap.size W w3) :
    Calls Tryz.prog 38 #[.map (some b)] w3 fun e w' => ∃ r, e = .returned r ∧ r = sv (sfree x) ∧ Below W.heap.size W w' :=
  (inOrder_c b k (cntF x) w3 hT).mono (by rintro e w' ⟨rfl, hb⟩; exact ⟨_, rfl, by rw [hf], hW.trans (hb.mono hW.size)⟩)
set_option maxRecDepth 100000 in
set_option maxHeartbeats 4000000 in
theorem iCapturedBy_c (s : Text) (w : World) (hl : s.length ≤ 9223372036854775807) :
    Calls Tryz.prog 17 #[.string ⟨s.toArray⟩] w fun e w' => ∃ v, e = .returned (.tuple #[v, .bool (readT s).isSome]) ∧ Strs w' w.heap.size v (capsO (readT s)) ∧ Below w.heap.size w w' := by
  have C := read_c s w hl
  obtain ⟨i0, hi, hz0, hz1, hz2⟩ := info_parts Tryz.infoStr
  refine (callsIn_wide (n := 9)).1 ?_
  refine callsIn_of_wp_marks Tryz.func17 rfl trivial ?_ rfl
  simp only [Tryz.ntmps17, List.size_toArray, List.length_cons, List.length_nil, Nat.reduceAdd, Nat.reduceSub, Array.replicate_succ, Array.replicate_zero, List.push_toArray, List.append_toArray, List.nil_append, List.cons_append]
  gi_wp2_with (refine ⟨trivial, ?_⟩; gi_at_call 23; refine (callsIn_wide.2 C).mono ?_; clear C)
  rcases hr : readT s with _ | t
  · rintro e w1 ⟨rfl, hb1⟩
    have HR := Lib.hid hr
    clear hr
    gi_wp2
    refine ⟨_, results_tmp2 rfl _ _ _, _, by rw [HR.out]; rfl, ?_, hb1⟩
    rw [HR.out]
    exact World.ownsRow_nil _ _ _ _
  · rintro e w1 ⟨rfl, hb1⟩
    have hs := readS_eq s ▸ hr
    have hp := readS_parts hs
    have hgd := readS_good hs
    have HR := Lib.hid hr
    clear hr
    have P := partsOf_c 8 t (w1.alloc (.cells #[.slice none 0 0] 34))
    rw [enc_ty t] at P ⊢
    gi_wp2_with (refine ⟨trivial, ?_⟩; gi_at_call 41; refine P.mono ?_; clear P; rintro e w2 ⟨rfl, rfl⟩)
    have hbx := Boxed.new w1 34 (.slice none 0 0)
    have hb := cell_new_v (w1.alloc (.cells #[.slice none 0 0] 34)) (.iface (ty t) (pl t)) 43
    rw [World.size_alloc] at hb
    have hbx2 := hbx.alloc (.cells #[.iface (ty t) (pl t)] 43)
    have hsz1 := hb1.size
    have hB2 : Below w.heap.size w ((w1.alloc (.cells #[.slice none 0 0] 34)).alloc (.cells #[.iface (ty t) (pl t)] 43)) := (hb1.alloc hsz1 _).alloc (by simp; omega) _
    have hs2 : ((w1.alloc (.cells #[.slice none 0 0] 34)).alloc (.cells #[.iface (ty t) (pl t)] 43)).heap.size = w1.heap.size + 2 := by simp
    obtain ⟨W2, hW2⟩ : ∃ W2, (w1.alloc (.cells #[.slice none 0 0] 34)).alloc (.cells #[.iface (ty t) (pl t)] 43) = W2 := ⟨_, rfl⟩
    rw [hW2] at hb hbx2 hB2 hs2 ⊢
    clear hW2 hbx
    refine wpIn_rangeFunc_ownF rfl (by decide) (gf := 71) (lb := #[.pointer (some ⟨w1.heap.size + 1, 0, none⟩)]) rfl trivial (enters_of Tryz.func71 (by kernel_rfl) rfl)
      (partsG_stops 8 (w1.heap.size + 1) W2.heap.size (RowT w1.heap.size) (told_row (by omega)) t ⟨hgd, by have := readS_depth hs; omega, by omega⟩ W2 (by omega) (Nat.le_refl _) (by rw [enc_ty t]; exact hb.1)) KeepT.trans (fun W l o o' hl h ho _ => rowT_putObj W l o o' (by omega) h ho) (Below.refl _ _) (fun _ => rfl)
      (fun pre W => (∃ v, Boxed W w1.heap.size 34 v ∧ Strs W w1.heap.size v (capsT (pre.map (·.1))) ∧ (capsT (pre.map (·.1)) = [] → v = .slice none 0 0)) ∧ Below w.heap.size w W)
      (fun _ _ _ => False)
      (OwnFrom.and ((holdsRow_own w1.heap.size w1.heap.size 34 9 1 (fun pre : List GT => (capsT (pre.map (·.1))).length) (fun pre => (capsT (pre.map (·.1))).map sv) (fun pre v => capsT (pre.map (·.1)) = [] → v = .slice none 0 0)).from _) (ownFrom_below (Nat.le_refl _) (by omega)))
      (fun _ _ _ _ _ hs _ _ => hs)
      ⟨⟨_, hbx2, World.ownsRow_nil _ _ _ _, fun _ => rfl⟩, hB2⟩
      (fun x => { tmps := #[.string ⟨s.toArray⟩, undef, .slice none 0 0, .bool false, .iface (ty t) (pl t), .bool true, .pointer (some ⟨w1.heap.size, 0, none⟩), enc x.1, .tuple #[.iface (ty t) (pl t), .bool true], .string ⟨s.toArray⟩, .tuple #[.iface (ty t) (pl t), .bool true], .iface (ty t) (pl t), .bool true, .bool true, .bool false, .iface (ty t) (pl t), .func (.func 71) #[] #[.pointer (some ⟨w1.heap.size + 1, 0, none⟩)], enc x.1, undef, undef, undef, undef, undef, undef, undef, undef, undef], defers := [] }) ?assign ?body ?done ?stop
    case assign =>
      intro l x W K hK
      have ez : (#[17] : Array Tmp).zip #[enc x.1] = #[(17, enc x.1)] := by simp
      rw [ez]
      gi_wp2
      exact hK
    case body =>
      rintro l pre ⟨x, hx⟩ W ⟨⟨v, hv, hrow, hnil⟩, hB⟩ hlt
      have hBW : w1.heap.size < W.heap.size := hv.lt
      have hcv := hv.cell
      have hfv := hv.frozen
      have hlen : (capsT (pre.map (·.1))).length ≤ 4000 := by have := capsT_len (pre.map (·.1)); rw [List.length_map] at this; omega
      have C := fun w' => freeIn_c 200 x w' hx.2.1 (by omega) hx.2.2 hx.1
      have hfx0 := free_names hx.1
      have HFX := Lib.hid hfx0
      clear hfx0
      rw [enc_ty x] at C
      rw [enc_ty x]
      by_cases hf : isFun x = true
      · have I := isFunction_c x W
        rw [hf] at I
        have hRL : capsT ((pre ++ [(⟨x, hx⟩ : GT)]).map (·.1)) = capsT (pre.map (·.1)) ++ [sfree x] := by rw [List.map_append]; exact capsT_snoc hf
        clear hf
        gi_wp2_with (refine ⟨trivial, ?_⟩; gi_at_call 49; refine (CallsIn.inRound l (callsIn_wide.2 I)).mono ?_; clear I; rintro e wq ⟨rfl, hbq⟩)
        have hvq : Boxed wq w1.heap.size 34 v := (hbq.block w1.heap.size hBW).trans hv
        have hrowq := Strs.below hrow hbq (Nat.le_refl _)
        have hBq := hB.trans (hbq.mono hB.size)
        have hBWq := hvq.lt
        have hcq := hvq.cell
        have hfq := hvq.frozen
        have KK : KeepT (RowT w1.heap.size) W wq := KeepT.still2 (told_row (n₀ := w1.heap.size + 1) (by omega)) (by omega) hbq
        have KO : KeepsOthers W wq := KeepsOthers.of_grownBy (below_grown hbq) (fun j o e => by cases e)
        clear hcv hfv
        refine wpIn_region_any (by kernel_rfl) ?_
        refine wpAnyIn_ready (rs := [0, 1]) (by kernel_rfl) (by simp) ?_
        refine AllReadyIn.cons rfl (fun K hK => ?_) ?_
        · go_simp
          refine hK _ _ ?_
          clear hK K
          refine wpAnyIn_ready (rs := [1]) (by kernel_rfl) (by simp) ?_
          refine AllReadyIn.cons rfl (fun K hK => ?_) ?_
          · go_simp
            refine hK _ _ ?_
            clear hK K
            refine wpAnyIn_ready (rs := [2]) (by kernel_rfl) (by simp) ?_
            refine AllReadyIn.cons rfl (fun K hK => ?_) ?_
            · refine wpIn_call_if rfl 27 _ _ (.iface (ty x) (pl x)) rfl rfl (enters_of Tryz.func27 (by kernel_rfl) rfl) (fun rv w' => ∃ b k, rv = .map (some b) ∧ Tally w' b k (cntF x) ∧ Below wq.heap.size wq w') (keepF (C _)) ?_
              rintro rv w3 ⟨b, k, rfl, hT, hWf⟩
              have hv3 : Boxed w3 w1.heap.size 34 v := (hWf.block w1.heap.size hBWq).trans hvq
              have hc3 := hv3.cell
              refine hK _ _ ?_
              clear hK K
              refine wpAnyIn_ready (rs := [3]) (by kernel_rfl) (by simp) ?_
              refine AllReadyIn.cons rfl (fun K hK => ?_) ?_
              · refine wpIn_call_if rfl 38 _ _ (.map (some b)) rfl rfl (enters_of Tryz.func38 (by kernel_rfl) rfl) (fun rv w' => rv = sv (sfree x) ∧ Below wq.heap.size wq w') (keepO HFX.out hT hWf) ?_
                rintro rv w4 ⟨rfl, hWa⟩
                have hv4 : Boxed w4 w1.heap.size 34 v := (hWa.block w1.heap.size hBWq).trans hvq
                have hc4 := hv4.cell
                have hca := (hv4.alloc (.cells #[sv (sfree x)] 9)).cell
                refine hK _ _ ?_
                clear hK K
                refine wpAnyIn_ready (rs := [4]) (by kernel_rfl) (by simp) ?_
                refine AllReadyIn.cons rfl (fun K hK => ?_) ?_
                · go_simp
                  refine hK _ _ ?_
                  clear hK K
                  refine wpAnyIn_ready (rs := [5]) (by kernel_rfl) (by simp) ?_
                  refine AllReadyIn.cons rfl (fun K hK => ?_) ?_
                  · refine wpIn_append_if rfl _ _ rfl hi hz0 hz1 hz2 rfl ((Strs.below hrowq hWa (Nat.le_refl _)).alloc _) ⟨w4.heap.size, 0, none⟩ rfl (cell_one_new _ _ _) (by have := hWa.size; simp; omega) (by omega) ?_
                    intro v' w5 hown' hgrow hwhere
                    obtain ⟨k1, k2, k3, k4, k5, k6⟩ := row_step hvq hrowq hnil (Nat.le_refl _) hBWq hWa hown' hgrow hwhere
                    obtain ⟨g', cap', rfl⟩ := strs_succ hown'
                    have hcs := k1.cell
                    have hfs := k1.frozen
                    refine hK _ _ ?_
                    clear hK K
                    refine wpAnyIn_ready (rs := [6]) (by kernel_rfl) (by simp) ?_
                    refine AllReadyIn.cons rfl (fun K hK => ?_) ?_
                    · go_simp
                      refine hK _ _ ?_
                      clear hK K
                      refine wpAnyIn_done (by kernel_rfl) ?_ _
                      refine ⟨KO.trans k4, KeepT.trans KK k6, ⟨⟨_, k2, ?_, fun h => ?_⟩, hBq.trans (k5.mono hsz1)⟩⟩
                      · rw [hRL]; exact k3
                      · rw [hRL] at h; simp at h
                    exact AllReadyIn.nil
                  exact AllReadyIn.nil
                exact AllReadyIn.nil
              exact AllReadyIn.nil
            exact AllReadyIn.nil
          exact AllReadyIn.nil
        refine AllReadyIn.cons rfl (fun K hK => ?_) ?_
        · go_simp
          refine hK _ _ ?_
          clear hK K
          refine wpAnyIn_ready (rs := [0, 2]) (by kernel_rfl) (by simp) ?_
          refine AllReadyIn.cons rfl (fun K hK => ?_) ?_
          · go_simp
            refine hK _ _ ?_
            clear hK K
            refine wpAnyIn_ready (rs := [2]) (by kernel_rfl) (by simp) ?_
            refine AllReadyIn.cons rfl (fun K hK => ?_) ?_
            · refine wpIn_call_if rfl 27 _ _ (.iface (ty x) (pl x)) rfl rfl (enters_of Tryz.func27 (by kernel_rfl) rfl) (fun rv w' => ∃ b k, rv = .map (some b) ∧ Tally w' b k (cntF x) ∧ Below wq.heap.size wq w') (keepF (C _)) ?_
              rintro rv w3 ⟨b, k, rfl, hT, hWf⟩
              have hv3 : Boxed w3 w1.heap.size 34 v := (hWf.block w1.heap.size hBWq).trans hvq
              have hc3 := hv3.cell
              refine hK _ _ ?_
              clear hK K
              refine wpAnyIn_ready (rs := [3]) (by kernel_rfl) (by simp) ?_
              refine AllReadyIn.cons rfl (fun K hK => ?_) ?_
              · refine wpIn_call_if rfl 38 _ _ (.map (some b)) rfl rfl (enters_of Tryz.func38 (by kernel_rfl) rfl) (fun rv w' => rv = sv (sfree x) ∧ Below wq.heap.size wq w') (keepO HFX.out hT hWf) ?_
                rintro rv w4 ⟨rfl, hWa⟩
                have hv4 : Boxed w4 w1.heap.size 34 v := (hWa.block w1.heap.size hBWq).trans hvq
                have hc4 := hv4.cell
                have hca := (hv4.alloc (.cells #[sv (sfree x)] 9)).cell
                refine hK _ _ ?_
                clear hK K
                refine wpAnyIn_ready (rs := [4]) (by kernel_rfl) (by simp) ?_
                refine AllReadyIn.cons rfl (fun K hK => ?_) ?_
                · go_simp
                  refine hK _ _ ?_
                  clear hK K
                  refine wpAnyIn_ready (rs := [5]) (by kernel_rfl) (by simp) ?_
                  refine AllReadyIn.cons rfl (fun K hK => ?_) ?_
                  · refine wpIn_append_if rfl _ _ rfl hi hz0 hz1 hz2 rfl ((Strs.below hrowq hWa (Nat.le_refl _)).alloc _) ⟨w4.heap.size, 0, none⟩ rfl (cell_one_new _ _ _) (by have := hWa.size; simp; omega) (by omega) ?_
                    intro v' w5 hown' hgrow hwhere
                    obtain ⟨k1, k2, k3, k4, k5, k6⟩ := row_step hvq hrowq hnil (Nat.le_refl _) hBWq hWa hown' hgrow hwhere
                    obtain ⟨g', cap', rfl⟩ := strs_succ hown'
                    have hcs := k1.cell
                    have hfs := k1.frozen
                    refine hK _ _ ?_
                    clear hK K
                    refine wpAnyIn_ready (rs := [6]) (by kernel_rfl) (by simp) ?_
                    refine AllReadyIn.cons rfl (fun K hK => ?_) ?_
                    · go_simp
                      refine hK _ _ ?_
                      clear hK K
                      refine wpAnyIn_done (by kernel_rfl) ?_ _
                      refine ⟨KO.trans k4, KeepT.trans KK k6, ⟨⟨_, k2, ?_, fun h => ?_⟩, hBq.trans (k5.mono hsz1)⟩⟩
                      · rw [hRL]; exact k3
                      · rw [hRL] at h; simp at h
                    exact AllReadyIn.nil
                  exact AllReadyIn.nil
                exact AllReadyIn.nil
              exact AllReadyIn.nil
            exact AllReadyIn.nil
          refine AllReadyIn.cons rfl (fun K hK => ?_) ?_
          · refine wpIn_call_if rfl 27 _ _ (.iface (ty x) (pl x)) rfl rfl (enters_of Tryz.func27 (by kernel_rfl) rfl) (fun rv w' => ∃ b k, rv = .map (some b) ∧ Tally w' b k (cntF x) ∧ Below wq.heap.size wq w') (keepF (C _)) ?_
            rintro rv w3 ⟨b, k, rfl, hT, hWf⟩
            have hv3 : Boxed w3 w1.heap.size 34 v := (hWf.block w1.heap.size hBWq).trans hvq
            have hc3 := hv3.cell
            refine hK _ _ ?_
            clear hK K
            refine wpAnyIn_ready (rs := [0, 3]) (by kernel_rfl) (by simp) ?_
            refine AllReadyIn.cons rfl (fun K hK => ?_) ?_
            · go_simp
              refine hK _ _ ?_
              clear hK K
              refine wpAnyIn_ready (rs := [3]) (by kernel_rfl) (by simp) ?_
              refine AllReadyIn.cons rfl (fun K hK => ?_) ?_
              · refine wpIn_call_if rfl 38 _ _ (.map (some b)) rfl rfl (enters_of Tryz.func38 (by kernel_rfl) rfl) (fun rv w' => rv = sv (sfree x) ∧ Below wq.heap.size wq w') (keepO HFX.out hT hWf) ?_
                rintro rv w4 ⟨rfl, hWa⟩
                have hv4 : Boxed w4 w1.heap.size 34 v := (hWa.block w1.heap.size hBWq).trans hvq
                have hc4 := hv4.cell
                have hca := (hv4.alloc (.cells #[sv (sfree x)] 9)).cell
                refine hK _ _ ?_
                clear hK K
                refine wpAnyIn_ready (rs := [4]) (by kernel_rfl) (by simp) ?_
                refine AllReadyIn.cons rfl (fun K hK => ?_) ?_
                · go_simp
                  refine hK _ _ ?_
                  clear hK K
                  refine wpAnyIn_ready (rs := [5]) (by kernel_rfl) (by simp) ?_
                  refine AllReadyIn.cons rfl (fun K hK => ?_) ?_
                  · refine wpIn_append_if rfl _ _ rfl hi hz0 hz1 hz2 rfl ((Strs.below hrowq hWa (Nat.le_refl _)).alloc _) ⟨w4.heap.size, 0, none⟩ rfl (cell_one_new _ _ _) (by have := hWa.size; simp; omega) (by omega) ?_
                    intro v' w5 hown' hgrow hwhere
                    obtain ⟨k1, k2, k3, k4, k5, k6⟩ := row_step hvq hrowq hnil (Nat.le_refl _) hBWq hWa hown' hgrow hwhere
                    obtain ⟨g', cap', rfl⟩ := strs_succ hown'
                    have hcs := k1.cell
                    have hfs := k1.frozen
                    refine hK _ _ ?_
                    clear hK K
                    refine wpAnyIn_ready (rs := [6]) (by kernel_rfl) (by simp) ?_
                    refine AllReadyIn.cons rfl (fun K hK => ?_) ?_
                    · go_simp
                      refine hK _ _ ?_
                      clear hK K
                      refine wpAnyIn_done (by kernel_rfl) ?_ _
                      refine ⟨KO.trans k4, KeepT.trans KK k6, ⟨⟨_, k2, ?_, fun h => ?_⟩, hBq.trans (k5.mono hsz1)⟩⟩
                      · rw [hRL]; exact k3
                      · rw [hRL] at h; simp at h
                    exact AllReadyIn.nil
                  exact AllReadyIn.nil
                exact AllReadyIn.nil
              exact AllReadyIn.nil
            refine AllReadyIn.cons rfl (fun K hK => ?_) ?_
            · refine wpIn_call_if rfl 38 _ _ (.map (some b)) rfl rfl (enters_of Tryz.func38 (by kernel_rfl) rfl) (fun rv w' => rv = sv (sfree x) ∧ Below wq.heap.size wq w') (keepO HFX.out hT hWf) ?_
              rintro rv w4 ⟨rfl, hWa⟩
              have hv4 : Boxed w4 w1.heap.size 34 v := (hWa.block w1.heap.size hBWq).trans hvq
              have hc4 := hv4.cell
              have hca := (hv4.alloc (.cells #[sv (sfree x)] 9)).cell
              refine hK _ _ ?_
              clear hK K
              refine wpAnyIn_ready (rs := [0, 4]) (by kernel_rfl) (by simp) ?_
              refine AllReadyIn.cons rfl (fun K hK => ?_) ?_
              · go_simp
                refine hK _ _ ?_
                clear hK K
                refine wpAnyIn_ready (rs := [4]) (by kernel_rfl) (by simp) ?_
                refine AllReadyIn.cons rfl (fun K hK => ?_) ?_
                · go_simp
                  refine hK _ _ ?_
                  clear hK K
                  refine wpAnyIn_ready (rs := [5]) (by kernel_rfl) (by simp) ?_
                  refine AllReadyIn.cons rfl (fun K hK => ?_) ?_
                  · refine wpIn_append_if rfl _ _ rfl hi hz0 hz1 hz2 rfl ((Strs.below hrowq hWa (Nat.le_refl _)).alloc _) ⟨w4.heap.size, 0, none⟩ rfl (cell_one_new _ _ _) (by have := hWa.size; simp; omega) (by omega) ?_
                    intro v' w5 hown' hgrow hwhere
                    obtain ⟨k1, k2, k3, k4, k5, k6⟩ := row_step hvq hrowq hnil (Nat.le_refl _) hBWq hWa hown' hgrow hwhere
                    obtain ⟨g', cap', rfl⟩ := strs_succ hown'
                    have hcs := k1.cell
                    have hfs := k1.frozen
                    refine hK _ _ ?_
                    clear hK K
                    refine wpAnyIn_ready (rs := [6]) (by kernel_rfl) (by simp) ?_
                    refine AllReadyIn.cons rfl (fun K hK => ?_) ?_
                    · go_simp
                      refine hK _ _ ?_
                      clear hK K
                      refine wpAnyIn_done (by kernel_rfl) ?_ _
                      refine ⟨KO.trans k4, KeepT.trans KK k6, ⟨⟨_, k2, ?_, fun h => ?_⟩, hBq.trans (k5.mono hsz1)⟩⟩
                      · rw [hRL]; exact k3
                      · rw [hRL] at h; simp at h
                    exact AllReadyIn.nil
                  exact AllReadyIn.nil
                exact AllReadyIn.nil
              refine AllReadyIn.cons rfl (fun K hK => ?_) ?_
              · go_simp
                refine hK _ _ ?_
                clear hK K
                refine wpAnyIn_ready (rs := [0]) (by kernel_rfl) (by simp) ?_
                refine AllReadyIn.cons rfl (fun K hK => ?_) ?_
                · go_simp
                  refine hK _ _ ?_
                  clear hK K
                  refine wpAnyIn_ready (rs := [5]) (by kernel_rfl) (by simp) ?_
                  refine AllReadyIn.cons rfl (fun K hK => ?_) ?_
                  · refine wpIn_append_if rfl _ _ rfl hi hz0 hz1 hz2 rfl ((Strs.below hrowq hWa (Nat.le_refl _)).alloc _) ⟨w4.heap.size, 0, none⟩ rfl (cell_one_new _ _ _) (by have := hWa.size; simp; omega) (by omega) ?_
                    intro v' w5 hown' hgrow hwhere
                    obtain ⟨k1, k2, k3, k4, k5, k6⟩ := row_step hvq hrowq hnil (Nat.le_refl _) hBWq hWa hown' hgrow hwhere
                    obtain ⟨g', cap', rfl⟩ := strs_succ hown'
                    have hcs := k1.cell
                    have hfs := k1.frozen
                    refine hK _ _ ?_
                    clear hK K
                    refine wpAnyIn_ready (rs := [6]) (by kernel_rfl) (by simp) ?_
                    refine AllReadyIn.cons rfl (fun K hK => ?_) ?_
                    · go_simp
                      refine hK _ _ ?_
                      clear hK K
                      refine wpAnyIn_done (by kernel_rfl) ?_ _
                      refine ⟨KO.trans k4, KeepT.trans KK k6, ⟨⟨_, k2, ?_, fun h => ?_⟩, hBq.trans (k5.mono hsz1)⟩⟩
                      · rw [hRL]; exact k3
                      · rw [hRL] at h; simp at h
                    exact AllReadyIn.nil
                  exact AllReadyIn.nil
                exact AllReadyIn.nil
              exact AllReadyIn.nil
            exact AllReadyIn.nil
          exact AllReadyIn.nil
        exact AllReadyIn.nil
      · have hf2 : isFun x = false := by simpa using hf
        have I := isFunction_c x W
        rw [hf2] at I
        have hRL : capsT ((pre ++ [(⟨x, hx⟩ : GT)]).map (·.1)) = capsT (pre.map (·.1)) := by rw [List.map_append]; exact capsT_skip hf2
        clear hf hf2
        gi_wp2_with (refine ⟨trivial, ?_⟩; gi_at_call 49; refine (CallsIn.inRound l (callsIn_wide.2 I)).mono ?_; clear I; rintro e wq ⟨rfl, hbq⟩)
        refine ⟨KeepsOthers.of_grownBy (below_grown hbq) (fun j o e => by cases e), KeepT.still2 (told_row (n₀ := w1.heap.size + 1) (by omega)) (by omega) hbq, ⟨⟨v, (hbq.block w1.heap.size hBW).trans hv, ?_, fun h => ?_⟩, hB.trans (hbq.mono hB.size)⟩⟩
        · rw [hRL]; exact Strs.below hrow hbq (Nat.le_refl _)
        · rw [hRL] at h; exact hnil h
    case done =>
      rintro D ys W hD hys ⟨⟨v, hv, hrow, hnil⟩, hB⟩ hK
      have hc := hv.cell
      gi_wp2
      refine ⟨by simp, .inl ⟨_, _, rfl, run_takeDeferred hK, ?_⟩⟩
      refine ⟨_, results_tmp2 rfl _ _ _, v, by rw [HR.out]; rfl, ?_, hB.trans (belowK_b (w := w) (Nat.le_refl _) W D _ _ (by omega) hK rfl rfl)⟩
      have h := ownsRow_putObj hrow (.deferred none) hK rfl
      rw [HR.out]
      show Strs _ _ _ (capsT (parts t))
      rw [← hys]
      exact Strs.base (base := w1.heap.size) h hsz1
    case stop =>
      rintro D c pre W _ _ h _
      exact h.elim
end Go.Proofs.YtcabmcpalgpfpaaGreat
