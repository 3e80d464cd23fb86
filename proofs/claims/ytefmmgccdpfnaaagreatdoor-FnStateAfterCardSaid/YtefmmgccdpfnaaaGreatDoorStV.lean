import Derived.Test.YtefmmgccdpfnaaaGreatDoorMSz
import Derived.Test.YtefmmgccdpfnaaaGreatDoorMSq
import Derived.Test.YtefmmgccdpfnaaaGreatDoorMCt
import Derived.Test.YtefmmgccdpfnaaaGreatDoorMYi
import Derived.Test.YtefmmgccdpfnaaaGreatDoorYh
import Derived.Test.YtefmmgccdpfnaaaGreatDoorMUq
import Derived.RangeFuncWrites
import Derived.Stop.RegionWithIn
/- The program's step: how long a state would be. -/
namespace Go.Proofs.YtefmmgccdpfnaaaGreatDoor
open Go.RowKit Go.Shelf
open Ff
set_option linter.unusedVariables false
attribute [local go_sem] Oper.semAt_some

set_option maxRecDepth 100000 in
set_option maxHeartbeats 2000000 in
theorem own_num (k : Nat) (hk : k ≤ 99) (w : World) : Calls Tryz.prog 82 #[enc (.num k)] w fun e w' => e = .returned (.int .i64 ((ownN (.num k) : Nat) : Int)) ∧ Below w.heap.size w w' := by
  have a1 := ta_num (.num k)
  have C := fun W => text_num k hk W
  simp only [ty, pl, numV, isNum] at a1
  simp only [enc, ownN]
  generalize numN k = X at *
  go_enter Tryz.func82, Tryz.ntmps82
  go_wp2_with (go_at_call 115; refine (C _).mono ?_; rintro e w1 ⟨rfl, hb1⟩)
  go_ret
  exact ⟨rfl, ((Below.refl _ w).alloc (Nat.le_refl _) _).trans (hb1.mono (by simp))⟩
set_option maxRecDepth 100000 in
set_option maxHeartbeats 2000000 in
theorem own_app (f a : Tm) (w : World) : Calls Tryz.prog 82 #[enc (.app f a)] w fun e w' => e = .returned (.int .i64 ((ownN (.app f a) : Nat) : Int)) ∧ Below w.heap.size w w' := by
  have a1 := ta_app (.app f a)
  have a2 := no_num (.app f a) rfl
  obtain ⟨n0, v0, q0⟩ := enc_gen f
  obtain ⟨n1, v1, q1⟩ := enc_gen a
  simp only [ty, pl, appV, isApp, q0, q1] at a1
  simp only [ty, pl, q0, q1] at a2
  simp only [enc, q0, q1, ownN]
  clear q0 q1
  go_enter Tryz.func82, Tryz.ntmps82
  go_wp2_with fail
  go_ret
  exact ⟨rfl, (Below.refl _ w).alloc (Nat.le_refl _) _⟩
set_option maxRecDepth 100000 in
set_option maxHeartbeats 2000000 in
theorem own_c (t : Tm) (hg : t.good) (w : World) : Calls Tryz.prog 82 #[enc t] w fun e w' => e = .returned (.int .i64 ((ownN t : Nat) : Int)) ∧ Below w.heap.size w w' := by
  by_cases h1 : isNum t = true
  · cases t with
    | num k => exact own_num k (by have := hg; simp only [Tm.good] at this; omega) w
    | _ => cases h1
  · by_cases h2 : isApp t = true
    · cases t with
      | app f a => exact own_app f a w
      | _ => cases h2
    · have a1 := no_num t (by cases h : isNum t; rfl; exact absurd h h1)
      have a2 := no_app t (by cases h : isApp t; rfl; exact absurd h h2)
      have KB := fun W => boundBy_c t hg W
      have e : ownN t = 1 + (bindsOf t).length := by cases t <;> first | rfl | exact absurd rfl h1 | exact absurd rfl h2
      have hbl : (bindsOf t).length ≤ 2 := by cases t <;> simp [bindsOf]
      have hw : IntKind.i64.wrap (1 + ((bindsOf t).length : Int)) = 1 + ((bindsOf t).length : Int) := by rw [IntKind.wrap_i64]; omega
      rw [e, enc_ty t]
      rw [enc_ty t] at KB
      generalize ty t = tt at *
      generalize pl t = tp at *
      generalize bindsOf t = ns at *
      clear hg h1 h2 e
      go_enter Tryz.func82, Tryz.ntmps82
      go_wp2_with (go_at_call 71; refine (KB _).mono ?_; rintro e w1 ⟨v, rfl, hsv, hb1⟩; obtain ⟨a, rfl, _⟩ := hsv.uni; simp only [List.length_map])
      go_ret
      exact ⟨by simp, hb1⟩
/-- The lengths of some parts. -/
def lenH (pre : List HTm) : Nat := ((pre.map (·.1)).map ownN).sum
theorem lenH_snoc (pre : List HTm) (x : HTm) : lenH (pre ++ [x]) = lenH pre + ownN x.1 := by
  simp [lenH]
theorem keepT_grown {b : Nat} {W W' : World} (h : W.grownBy W' (some b)) : KeepT (fun _ j => j = b) W W' :=
  ⟨h.size, fun j o hj ho ht => (h.block j (Array.getElem?_eq_some_iff.1 hj).1 (fun e => ht (Option.some.inj e))).trans hj, fun j hj => .inl hj⟩
set_option maxRecDepth 100000 in
set_option maxHeartbeats 4000000 in
theorem isTooLong_c (t : Tm) (hg : t.good) (w : World) : Calls Tryz.prog 59 #[enc t] w fun e w' => e = .returned (.bool (decide (1500 < (textN t).length))) ∧ Below w.heap.size w w' := by
  refine (callsIn_wide (n := 9)).1 ?_
  refine callsIn_of_wp_marks Tryz.func59 rfl trivial ?_ rfl
  simp only [Tryz.ntmps59, List.size_toArray, List.length_cons, List.length_nil, Nat.reduceAdd, Nat.reduceSub, Array.replicate_succ, Array.replicate_zero, List.push_toArray, List.append_toArray, List.nil_append, List.cons_append]
  have P := fun W => partsOf_c 8 t W
  simp only [enc_ty t] at P
  rw [enc_ty t]
  gi_wp2_with (refine ⟨trivial, ?_⟩; gi_at_call 81; refine (P _).mono ?_; clear P; rintro e w2 ⟨rfl, rfl⟩)
  obtain ⟨W1, hW1⟩ : ∃ W1, (w.alloc (.cells #[.bool false] 4)).alloc (.cells #[.int .i64 0] 3) = W1 := ⟨_, rfl⟩
  rw [hW1]
  have k2 : W1.cell? ⟨w.heap.size, 0, none⟩ = some (.bool false) ∧ W1.frozen? ⟨w.heap.size, 0, none⟩ = false := by
    rw [← hW1]
    have h := cell_new_v w (.bool false) 4
    have hb := (Below.refl (w.heap.size + 1) (w.alloc (.cells #[.bool false] 4))).alloc (by simp) (.cells #[.int .i64 0] 3)
    exact ⟨(hb.cell (p := ⟨w.heap.size, 0, none⟩) (by simp)).trans h.1, (World.frozen?_of_block (hb.block _ (by simp))).trans h.2⟩
  have k3 : W1.cell? ⟨w.heap.size + 1, 0, none⟩ = some (.int .i64 0) ∧ W1.frozen? ⟨w.heap.size + 1, 0, none⟩ = false := by
    rw [← hW1]
    have h := cell_new_v (w.alloc (.cells #[.bool false] 4)) (.int .i64 0) 3
    rw [World.size_alloc] at h
    exact h
  have hsz : W1.heap.size = w.heap.size + 2 := by rw [← hW1]; simp
  have hB1 : Below w.heap.size w W1 := by rw [← hW1]; exact ((Below.refl _ w).alloc (Nat.le_refl _) _).alloc (by simp) _
  clear hW1
  have hbx := (cell_new_v W1 (.iface (ty t) (pl t)) 44).1
  have hg1 : W1.grownBy (W1.alloc (.cells #[.iface (ty t) (pl t)] 44)) none := World.grownBy_alloc _ _ none
  have hsz2 : (W1.alloc (.cells #[.iface (ty t) (pl t)] 44)).heap.size = w.heap.size + 3 := by simp [hsz]
  obtain ⟨W2, hW2⟩ : ∃ W2, W1.alloc (.cells #[.iface (ty t) (pl t)] 44) = W2 := ⟨_, rfl⟩
  rw [hW2] at hbx hg1 hsz2 ⊢
  clear hW2
  rw [hsz] at hbx
  have m2 := hg1.cell k2.1 (by simp)
  have m3 := hg1.cell k3.1 (by simp)
  have n2 := (World.frozen?_of_block (a := ⟨w.heap.size, 0, none⟩) (hg1.block _ (by show w.heap.size < _; omega) (by simp))).trans k2.2
  have n3 := (World.frozen?_of_block (a := ⟨w.heap.size + 1, 0, none⟩) (hg1.block _ (by show w.heap.size + 1 < _; omega) (by simp))).trans k3.2
  have hB2 : Below w.heap.size w W2 := hB1.grown hg1 hB1.size (fun j hj => by cases hj)
  have HG := Lib.hid hg
  clear hg
  refine wpIn_rangeFunc_ownG rfl (by decide) (gf := 113) (lb := #[.pointer (some ⟨w.heap.size + 2, 0, none⟩)]) rfl trivial (enters_of Tryz.func113 (by kernel_rfl) rfl)
    (partsH_stops 8 (w.heap.size + 2) (w.heap.size + 2) (fun _ j => j = w.heap.size + 1) ⟨fun _ _ _ _ _ h => .inl h, fun W g hg _ e => by omega⟩ t HG.out W2 (by omega) (by omega) (by rw [enc_ty t]; exact hbx)) KeepT.trans (fun W l o o' _ h ho _ => keep_putObj (w.heap.size + 1) W l o o' h ho) (Below.refl _ _) (fun _ => rfl)
    (fun pre W => (W.cell? ⟨w.heap.size + 1, 0, none⟩ = some (.int .i64 ((lenH pre : Nat) : Int)) ∧ W.frozen? ⟨w.heap.size + 1, 0, none⟩ = false) ∧ lenH pre ≤ 1500 ∧ W2.grownBy W (some (w.heap.size + 1)))
    (fun c pre W => c = .ret ∧ 1500 < lenH pre ∧ W.cell? ⟨w.heap.size, 0, none⟩ = some (.bool true) ∧ Below w.heap.size w W)
    (fun pre W W' row h hg hr => ⟨⟨hg.cell h.1.1 (fun e => by have := (hr _ e.symm).1; simp at this; omega), (World.frozen?_of_block (a := ⟨w.heap.size + 1, 0, none⟩) (hg.block _ (by show w.heap.size + 1 < _; have := h.2.2.size; omega) (fun e => by have := (hr _ e.symm).1; simp at this; omega))).trans h.1.2⟩, h.2.1, h.2.2.andThen hg (fun j hj => .inl (hr j hj).1)⟩)
    (fun c pre W W' row ⟨hc, hl, h1, hB⟩ hg hr => ⟨hc, hl, hg.cell h1 (fun e => by have := (hr _ e.symm).1; simp at this; omega), hB.grown hg hB.size (fun j hj => by have := (hr j hj).1; omega)⟩)
    ⟨⟨m3, n3⟩, by simp [lenH], World.grownBy.refl _ _⟩
    (fun x => { tmps := #[.iface (ty t) (pl t), undef, .pointer (some ⟨w.heap.size, 0, none⟩), .pointer (some ⟨w.heap.size + 1, 0, none⟩), enc x.1, .iface (ty t) (pl t), .func (.func 113) #[] #[.pointer (some ⟨w.heap.size + 2, 0, none⟩)], enc x.1, undef, undef, undef, undef, undef, undef], defers := [] }) ?assign ?body ?done ?stop
  case assign =>
    intro l x W K hK
    have ez : (#[7] : Array Tmp).zip #[enc x.1] = #[(7, enc x.1)] := by simp
    rw [ez]
    gi_wp2
    exact hK
  case body =>
    rintro l pre x W ⟨⟨hc, hf⟩, hs, hG⟩ hlt
    have KO := own_c x.1 x.2
    have hsn := lenH_snoc pre x
    obtain ⟨ho1, ho2⟩ := own_one x.1
    have hwr : IntKind.i64.wrap (((lenH pre : Nat) : Int) + ((ownN x.1 : Nat) : Int)) = ((lenH pre : Nat) : Int) + ((ownN x.1 : Nat) : Int) := by rw [IntKind.wrap_i64]; omega
    have hszW := hG.size
    have hB : Below w.heap.size w W := hB2.grown hG hB2.size (fun j hj => by cases hj; omega)
    have hb2 := hG.cell m2 (by simp)
    have hf2 := (World.frozen?_of_block (a := ⟨w.heap.size, 0, none⟩) (hG.block _ (by show w.heap.size < _; omega) (by simp))).trans n2
    rw [enc_ty x.1] at KO ⊢
    have HS := Lib.hid hsn
    clear hsn
    generalize ownN x.1 = o at *
    generalize lenH pre = S at *
    gi_wp2
    gi_region_with (refine ⟨trivial, ?_⟩; gi_at_call 82; refine (CallsIn.inRound l (callsIn_wide.2 (KO _))).mono ?_; rintro e w3 ⟨rfl, hb3⟩; have hc3 := (hb3.cell (p := ⟨w.heap.size + 1, 0, none⟩) (by show w.heap.size + 1 < W.heap.size; omega)).trans hc; have hf3 := (World.frozen?_of_block (a := ⟨w.heap.size + 1, 0, none⟩) (hb3.block _ (by show w.heap.size + 1 < W.heap.size; omega))).trans hf)
    all_goals
      have b4 : W.grownBy (w3.setCell ⟨w.heap.size + 1, 0, none⟩ (.int .i64 ((S : Int) + (o : Int)))) (some (w.heap.size + 1)) := ⟨hb3.os, hb3.tape, hb3.output, by simpa [World.setCell] using hb3.size, fun k hk hne => (Below.heap_setCell _ _ _ _ (by show k ≠ w.heap.size + 1; exact fun e => hne (by rw [e]))).trans (hb3.block k hk)⟩
      have c4 := World.cell?_setCell_same' w3 ⟨w.heap.size + 1, 0, none⟩ (.int .i64 ((S : Int) + (o : Int))) (by rw [hc3]; rfl)
      have f4 : (w3.setCell ⟨w.heap.size + 1, 0, none⟩ (.int .i64 ((S : Int) + (o : Int)))).frozen? ⟨w.heap.size + 1, 0, none⟩ = false := by rw [World.frozen?_setCell]; exact hf3
      clear hc3 hf3 hb3
      generalize w3.setCell ⟨w.heap.size + 1, 0, none⟩ (.int .i64 ((S : Int) + (o : Int))) = W4 at *
      have a2 := b4.cell hb2 (by simp)
      have g2 := (World.frozen?_of_block (a := ⟨w.heap.size, 0, none⟩) (b4.block _ (by show w.heap.size < _; omega) (by simp))).trans hf2
      have hs4 := b4.size
      have hB4 : Below w.heap.size w W4 := hB.grown b4 hB.size (fun j hj => by injection hj with hj; omega)
      have hk4 : KeepsFrom (w.heap.size + 3) W W4 := KeepsFrom.of_grownBy b4 (fun r hr => by injection hr with hr; omega)
      by_cases hgt : 1500 < S + o
      · have hI : (1500 : Int) < (S : Int) + (o : Int) := by omega
        gi_wp2
        refine ⟨hsz2 ▸ hk4.trans ((KeepsOthers.setCell _ _ _).from _), rfl, by rw [HS.out]; exact hgt, World.cell?_setCell_same' _ _ _ (by rw [a2]; rfl), hB4.setCell (p := ⟨w.heap.size, 0, none⟩) (Nat.le_refl _) _⟩
      · have hI : ¬ (1500 : Int) < (S : Int) + (o : Int) := by omega
        gi_wp2
        refine ⟨hk4, keepT_grown b4, ⟨?_, f4⟩, by rw [HS.out]; omega, hG.andThen b4 (fun j hj => .inr hj)⟩
        rw [HS.out]
        exact c4
  case done =>
    rintro D ys W hD hys ⟨⟨hc, hf⟩, hs, hG⟩ hK
    have hB : Below w.heap.size w W := hB2.grown hG hB2.size (fun j hj => by injection hj with hj; omega)
    have a2 := hG.cell m2 (by simp)
    have g2 := (World.frozen?_of_block (a := ⟨w.heap.size, 0, none⟩) (hG.block _ (by show w.heap.size < _; omega) (by simp))).trans n2
    have hlen : lenH ys = (textN t).length := by unfold lenH; rw [hys]; exact own_sum t
    have hd : decide (1500 < (textN t).length) = false := by rw [decide_eq_false_iff_not]; omega
    clear hys
    gi_wp2
    rw [hd]
    have hX : (W.setCell ⟨w.heap.size, 0, none⟩ (.bool false)).heap[D]? = some (.deferred (some [])) := by
      rw [Below.heap_setCell _ _ _ _ (by show D ≠ w.heap.size; omega)]
      exact hK
    have x2 := World.cell?_setCell_same' W ⟨w.heap.size, 0, none⟩ (.bool false) (by rw [a2]; rfl)
    have xB : Below w.heap.size w (W.setCell ⟨w.heap.size, 0, none⟩ (.bool false)) := hB.setCell (p := ⟨w.heap.size, 0, none⟩) (Nat.le_refl _) _
    generalize W.setCell ⟨w.heap.size, 0, none⟩ (.bool false) = X at *
    refine ⟨by simp, .inl ⟨_, _, rfl, run_takeDeferred hX, ?_⟩⟩
    have y2 := (grownBy_putObj' X D (.deferred none)).cell x2 (by simp; omega)
    refine ⟨.bool false, by simp [results, Tryz.results59, go_sem, y2], rfl, xB.trans (belowK_b (w := w) (Nat.le_refl _) X D _ _ (by omega) hX rfl rfl)⟩
  case stop =>
    rintro D c pre W hD hpre ⟨rfl, hl, h1, hB⟩ hK
    have hd : decide (1500 < (textN t).length) = true := by
      rw [decide_eq_true_iff]
      have := own_pre hpre
      unfold lenH at hl
      omega
    gi_wp2
    rw [hd]
    refine ⟨by simp, .inl ⟨_, _, rfl, run_takeDeferred hK, ?_⟩⟩
    have y2 := (grownBy_putObj' W D (.deferred none)).cell h1 (by simp; omega)
    refine ⟨.bool true, by simp [results, Tryz.results59, go_sem, y2], rfl, hB.trans (belowK_b (w := w) (Nat.le_refl _) W D _ _ (by omega) hK rfl rfl)⟩
end Go.Proofs.YtefmmgccdpfnaaaGreatDoor
