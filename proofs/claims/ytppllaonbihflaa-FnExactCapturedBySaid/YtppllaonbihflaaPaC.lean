/- The specification's CapturedBy. -/
import Derived.Test.YtppllaonbihflaaPaS
namespace Go.Proofs.Ytppllaonbihflaa
open Go.RowKit
open Ff
set_option linter.unusedVariables false

set_option maxRecDepth 100000 in
set_option maxHeartbeats 4000000 in
theorem sCapturedBy_c (s : Text) (w : World) (hl : s.length ≤ 9223372036854775807) :
    Calls Try.prog 20 #[.string ⟨s.toArray⟩] w fun e w' => ∃ v, e = .returned (.tuple #[v, .bool (readS s).isSome]) ∧ Strs w' w.heap.size v (capsO (readS s)) ∧ Below w.heap.size w w' := by
  obtain ⟨i0, hi, hz0, hz1, hz2⟩ := info_parts Try.infoStr
  have hbs : Below w.heap.size w (w.alloc (.cells #[] 9)) := (Below.refl _ w).alloc (Nat.le_refl _) _
  have hnw : (w.alloc (.cells #[] 9)).heap[w.heap.size]? = some (.cells #[] 9 (0, 0)) := World.alloc_heap_new w _
  have hss : (w.alloc (.cells #[] 9)).heap.size = w.heap.size + 1 := by simp
  have C := sread_c s (w.alloc (.cells #[] 9)) hl
  go_enter Try.func20, Try.ntmps20
  go_wp2_with fail
  refine C.mono ?_
  clear C
  rcases hr : readS s with _ | t
  · rintro e w1 ⟨rfl, hb1⟩
    have HR := Lib.hid hr
    clear hr
    unfold zeroTm
    go_wp2_with fail
    go_ret2
    have hb2 := hb1.alloc hb1.size (.cells #[.int .u8 0, .int .i64 0, .string ⟨#[]⟩, .slice none 0 0] 35)
    refine ⟨_, by rw [HR.out]; rfl, ?_, hbs.trans (hb2.mono (by omega))⟩
    rw [HR.out]
    exact strs_empty ((hb2.block w.heap.size (by omega)).trans hnw)
  · rintro e w1 ⟨v, rfl, hb1, hrep⟩
    have hd := readS_depth hr
    have hgd := readS_good hr
    have hp := readS_parts hr
    have HR := Lib.hid hr
    clear hr
    obtain ⟨x0, y0, st0, aa0, l0, cc0, rfl⟩ := hrep.junk
    have hb0 : Below w1.heap.size w1 (w1.alloc (.cells #[.int .u8 x0, .int .i64 y0, .string st0, .slice aa0 l0 cc0] 35)) := (Below.refl _ w1).alloc (Nat.le_refl _) _
    have D := each_c 1000 t w1.heap.size _ (w1.alloc (.cells #[.int .u8 x0, .int .i64 y0, .string st0, .slice aa0 l0 cc0] 35)) (by omega) (by omega) (hrep.keep (fun g' hg' => hb0.block g' hg'.2) (fun g' hg' => hg'.2)) (by simp)
    clear hrep
    go_wp2_with fail
    refine D.mono ?_
    clear D
    rintro e w3 ⟨v2, xs, rfl, hb3, hown, hv2, hreps⟩
    obtain ⟨g, cap, rfl⟩ := own_shape hown hv2
    have hcell := hown.cells (g := g) rfl
    have hbw3 : Below (w.alloc (.cells #[] 9)).heap.size (w.alloc (.cells #[] 9)) w3 := hb1.trans ((hb0.trans (hb3.mono hb0.size)).mono hb1.size)
    have hbw : Below w.heap.size w w3 := hbs.trans (hbw3.mono (by omega))
    have hi3 : w3.heap[w.heap.size]? = some (.cells #[] 9 (0, 0)) := (hbw3.block w.heap.size (by omega)).trans hnw
    have hz3 : w.heap.size + 1 ≤ w3.heap.size := by have := hbw3.size; omega
    have hw1s : w1.heap.size ≤ w3.heap.size := by have := hb0.size; have := hb3.size; omega
    have hgl : g < w3.heap.size := (hown.lt g rfl).2
    have hxl := hown.1
    have HC := Lib.hid hcell
    have HP := Lib.hid hreps
    clear hcell hreps hown hv2 hb0 hb1 hb3 hbw3 hnw hss hbs
    obtain ⟨W3, hW3⟩ : ∃ W3, w3 = W3 := ⟨_, rfl⟩
    subst hW3
    go_wp2_with fail
    go_loopw [4, 21] (fun o i wr => ∃ k : Nat, k ≤ (parts t).length ∧ i = .int .i64 k ∧ Out w.heap.size w3 wr o (capsT ((parts t).take k)) ∧ Below w3.heap.size w3 wr) (fun _ i _ => (parts t).length - (intOf i).toNat)
    case atStart => exact ⟨0, Nat.zero_le _, rfl, .inl ⟨by simp [capsT], rfl⟩, Below.refl _ _⟩
    case round =>
      obtain ⟨k, hkl, rfl, hout, hBl⟩ := hrel
      by_cases hlt : k < (parts t).length
      · obtain ⟨p, hs⟩ : ∃ p, (parts t)[k]? = some p := ⟨_, List.getElem?_eq_getElem hlt⟩
        have hr := HP.out k p hs
        have hmem := List.mem_of_getElem? hs
        have hsub := parts_sub hmem
        have hpg := parts_goodL hgd hmem
        have hcells : ∀ j, j < 4 → wr.cell? ⟨g, 4 * k + j, none⟩ = some ((xs[4 * k + j]?).getD undef) := fun j hj => by
          have hj2 : 4 * k + j < xs.length := by omega
          have h1 := HC.out (4 * k + j) _ (List.getElem?_eq_getElem hj2)
          rw [Addr.add_lit, Nat.zero_add] at h1
          rw [List.getElem?_eq_getElem hj2]
          show _ = some _
          exact (hBl.cell (p := ⟨g, 4 * k + j, none⟩) hgl).trans h1
        have hr0 := hr
        have hsn : ∃ g' cap', four (fun j => (xs[j]?).getD undef) k = tmHead p g' cap' := by
          generalize four (fun j => (xs[j]?).getD undef) k = vv at hr0
          cases hr0 with
          | mk _ g' cap' _ _ _ _ => exact ⟨g', cap', rfl⟩
        obtain ⟨g', cap', he⟩ := hsn
        rw [he] at hr
        unfold four tmHead at he
        unfold tmHead at hr
        simp only [Value.agg.injEq, Array.mk.injEq, List.cons.injEq, and_true] at he
        obtain ⟨i0', i1, i2, i3⟩ := he
        have e0 : wr.cell? ⟨g, k * 4, none⟩ = some (.int .u8 (kindOf p : Int)) := by rw [← i0']; have := hcells 0 (by omega); rwa [Nat.mul_comm k 4]
        have e1 : wr.cell? ⟨g, k * 4 + 1, none⟩ = some (.int .i64 (numOf p : Int)) := by rw [← i1]; have := hcells 1 (by omega); rwa [Nat.mul_comm k 4]
        have e2 : wr.cell? ⟨g, k * 4 + 2, none⟩ = some (.string ⟨(namesOf p).toArray⟩) := by rw [← i2]; have := hcells 2 (by omega); rwa [Nat.mul_comm k 4]
        have e3 : wr.cell? ⟨g, k * 4 + 3, none⟩ = some (.slice (some ⟨g', 0, none⟩) p.kids.length cap') := by rw [← i3]; have := hcells 3 (by omega); rwa [Nat.mul_comm k 4]
        have hsz := hBl.size
        have hBa := hBl.alloc hsz (.cells #[.int .u8 (kindOf p : Int), .int .i64 (numOf p : Int), .string ⟨(namesOf p).toArray⟩, .slice (some ⟨g', 0, none⟩) p.kids.length cap'] 35)
        have C := free_c 1000 p w1.heap.size _ (wr.alloc (.cells #[.int .u8 (kindOf p : Int), .int .i64 (numOf p : Int), .string ⟨(namesOf p).toArray⟩, .slice (some ⟨g', 0, none⟩) p.kids.length cap'] 35)) (by omega) (by omega) (hr.keep (fun g' hg' => hBa.block g' (by omega)) (fun g' hg' => hg')) (by simp; omega) hpg
        have hoL : (capsT ((parts t).take k)).length ≤ k := by simp only [capsT]; exact Nat.le_trans (by rw [List.length_map]; exact List.length_filter_le _ _) (by simp; omega)
        have htk : (parts t).take (k + 1) = (parts t).take k ++ [p] := by rw [List.take_add_one, hs]; rfl
        have HT := Lib.hid htk
        have hkind : isFun p = true ↔ ((kindOf p : Int) = 92 ∨ (kindOf p : Int) = 64) := isFun_kind hpg
        have HK := Lib.hid hkind
        clear hcells i0' i1 i2 i3 hs hr hr0 HC HP htk hmem hkind
        by_cases hf : isFun p = true
        · rcases HK.out.1 hf with h92 | h64
          · rw [h92] at e0 C hBa
            go_wp2_with (first
              | (go_at_call 37; refine C.mono ?_; clear C; rintro e w4 ⟨rfl, hb4⟩)
              | (at_builtin; refine wpList_append_out rfl _ _ rfl hi hz0 hz1 hz2 rfl (hout.below ((((Below.refl wr.heap.size wr).alloc (Nat.le_refl _) _).trans (hb4.mono (by simp))).alloc (by have := hb4.size; simp at this ⊢; omega) _)) ⟨w4.heap.size, 0, none⟩ rfl (cell_one_new _ _ _) (by have := hb4.size; simp at this ⊢; omega) (by omega) ?_; intro v' w5 hout5 hb5))
            have hB4 := hBa.trans (hb4.mono (by simp; omega))
            refine ⟨⟨k + 1, by omega, by go_num, by rw [HT.out, capsT_snoc hf]; exact hout5, (hB4.alloc hB4.size _).trans hb5⟩, by simp [intOf]; omega⟩
          · rw [h64] at e0 C hBa
            go_wp2_with (first
              | (go_at_call 37; refine C.mono ?_; clear C; rintro e w4 ⟨rfl, hb4⟩)
              | (at_builtin; refine wpList_append_out rfl _ _ rfl hi hz0 hz1 hz2 rfl (hout.below ((((Below.refl wr.heap.size wr).alloc (Nat.le_refl _) _).trans (hb4.mono (by simp))).alloc (by have := hb4.size; simp at this ⊢; omega) _)) ⟨w4.heap.size, 0, none⟩ rfl (cell_one_new _ _ _) (by have := hb4.size; simp at this ⊢; omega) (by omega) ?_; intro v' w5 hout5 hb5))
            have hB4 := hBa.trans (hb4.mono (by simp; omega))
            refine ⟨⟨k + 1, by omega, by go_num, by rw [HT.out, capsT_snoc hf]; exact hout5, (hB4.alloc hB4.size _).trans hb5⟩, by simp [intOf]; omega⟩
        · have h92 : ¬ ((kindOf p : Int) = 92) := fun h => hf (HK.out.2 (.inl h))
          have h64 : ¬ ((kindOf p : Int) = 64) := fun h => hf (HK.out.2 (.inr h))
          have b92 : ((kindOf p : Int) == 92) = false := by simp; omega
          have b64 : ((kindOf p : Int) == 64) = false := by simp; omega
          have hf2 : isFun p = false := by simpa using hf
          have ho2 := hout.below ((Below.refl wr.heap.size wr).alloc (Nat.le_refl _) (.cells #[.int .u8 (kindOf p : Int), .int .i64 (numOf p : Int), .string ⟨(namesOf p).toArray⟩, .slice (some ⟨g', 0, none⟩) p.kids.length cap'] 35))
          have HF := Lib.hid hf2
          clear C hf2 hf
          go_wp2_with fail
          refine ⟨⟨k + 1, by omega, by go_num, by rw [HT.out, capsT_skip HF.out]; exact ho2, hBa⟩, by simp [intOf]; omega⟩
      · obtain rfl : k = (parts t).length := by omega
        rw [List.take_length] at hout
        go_wp2_with fail
        go_ret2
        refine ⟨_, by rw [HR.out]; rfl, ?_, hbw.trans (hBl.mono hbw.size)⟩
        rw [HR.out]
        exact hout.strs hz3 hBl hi3
end Go.Proofs.Ytppllaonbihflaa
