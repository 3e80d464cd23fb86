/- IsUnique: the model's. -/
import Derived.Test.YtppllaonbihflaaCtA
import Derived.Test.YtppllaonbihflaaSize
namespace Go.Proofs.Ytppllaonbihflaa
open Go.RowKit
open Ff
set_option linter.unusedVariables false

/-- No name of a text is among those seen, nor twice in it. -/
def freshL (seen : Text) : Text → Bool
  | [] => true
  | c :: r => decide (c ∉ seen) && freshL (seen ++ [c]) r
/-- The names that the terms of a list bind, in order. -/
def allB (l : List Tm) : Text := l.flatMap bindsOf
theorem allB_drop (l : List Tm) (k : Nat) (s : Tm) (h : l[k]? = some s) : allB (l.drop k) = bindsOf s ++ allB (l.drop (k + 1)) := by
  obtain ⟨h1, h2⟩ := List.getElem?_eq_some_iff.1 h
  rw [List.drop_eq_getElem_cons h1, h2]
  rfl
theorem allB_end (l : List Tm) : allB (l.drop l.length) = [] := by simp [allB]
theorem allB_len (l : List Tm) (k : Nat) : (allB (l.take k)).length ≤ 2 * k := boundTo_len l k
theorem allB_take (l : List Tm) (k : Nat) (s : Tm) (h : l[k]? = some s) : allB (l.take (k + 1)) = allB (l.take k) ++ bindsOf s := boundTo_succ l k s h
theorem fresh_drop (seen nm rest : Text) (j : Nat) (c : UInt8) (h : nm[j]? = some c) : freshL seen (nm.drop j ++ rest) = (decide (c ∉ seen) && freshL (seen ++ [c]) (nm.drop (j + 1) ++ rest)) := by
  obtain ⟨h1, h2⟩ := List.getElem?_eq_some_iff.1 h
  rw [List.drop_eq_getElem_cons h1, h2]
  rfl
def uniqT (t : Tm) : Bool := freshL (sfree t) (allB (parts t))
def uniqB (o : Option Tm) : Bool := match o with | some t => uniqT t | none => false

set_option maxRecDepth 100000 in
set_option maxHeartbeats 4000000 in
theorem sIsUnique_c (s : Text) (w : World) (hl : s.length ≤ 9223372036854775807) :
    Calls Try.prog 18 #[.string ⟨s.toArray⟩] w fun e w' => e = .returned (.bool (uniqB (readS s))) ∧ Below w.heap.size w w' := by
  have C := sread_c s w hl
  go_enter Try.func18, Try.ntmps18
  go_wp2_with fail
  refine C.mono ?_
  clear C
  rcases hr : readS s with _ | t
  · rintro e w1 ⟨rfl, hb1⟩
    have HR := Lib.hid hr
    clear hr
    unfold zeroTm
    go_wp2_with fail
    go_ret
    exact ⟨by rw [HR.out]; rfl, hb1.alloc hb1.size _⟩
  · rintro e w1 ⟨v, rfl, hb1, hrep⟩
    have hd := readS_depth hr
    have hgd := readS_good hr
    have hp := readS_parts hr
    have HR := Lib.hid hr
    clear hr
    obtain ⟨x0, y0, st0, aa0, l0, cc0, rfl⟩ := hrep.junk
    obtain ⟨W0, hW0⟩ : ∃ W0, w1.alloc (.cells #[.int .u8 x0, .int .i64 y0, .string st0, .slice aa0 l0 cc0] 35) = W0 := ⟨_, rfl⟩
    have hb0 : Below w1.heap.size w1 W0 := by rw [← hW0]; exact (Below.refl _ w1).alloc (Nat.le_refl _) _
    have hs0 : w1.heap.size + 1 = W0.heap.size := by rw [← hW0]; simp
    have q0 : W0.cell? ⟨w1.heap.size, 0, none⟩ = some (.int .u8 x0) := by rw [← hW0]; exact cell_new w1 [.int .u8 x0, .int .i64 y0, .string st0, .slice aa0 l0 cc0] 35 0
    have q1 : W0.cell? ⟨w1.heap.size, 1, none⟩ = some (.int .i64 y0) := by rw [← hW0]; exact cell_new w1 [.int .u8 x0, .int .i64 y0, .string st0, .slice aa0 l0 cc0] 35 1
    have q2 : W0.cell? ⟨w1.heap.size, 2, none⟩ = some (.string st0) := by rw [← hW0]; exact cell_new w1 [.int .u8 x0, .int .i64 y0, .string st0, .slice aa0 l0 cc0] 35 2
    have q3 : W0.cell? ⟨w1.heap.size, 3, none⟩ = some (.slice aa0 l0 cc0) := by rw [← hW0]; exact cell_new w1 [.int .u8 x0, .int .i64 y0, .string st0, .slice aa0 l0 cc0] 35 3
    have hrep0 : Rep (fun g => g < w1.heap.size) W0 t (.agg #[.int .u8 x0, .int .i64 y0, .string st0, .slice aa0 l0 cc0]) := hrep.keep (fun g' hg' => hb0.block g' hg'.2) (fun g' hg' => hg'.2)
    have D1 := free_c 1000 t w1.heap.size _ W0 (by omega) (by omega) hrep0 (by omega) hgd
    have D2 := fun (w2 : World) (hb : Below W0.heap.size W0 w2) => each_c 1000 t w1.heap.size _ w2 (by omega) (by omega) (hrep0.keep (fun g' hg' => hb.block g' (by omega)) (fun g' hg' => hg')) (by have := hb.size; omega)
    have K : ∀ j, j < 4 → ∀ (w2 : World) (hb : Below W0.heap.size W0 w2), w2.cell? ⟨w1.heap.size, j, none⟩ = W0.cell? ⟨w1.heap.size, j, none⟩ := fun j _ w2 hb => hb.cell (p := ⟨w1.heap.size, j, none⟩) (by simp; omega)
    clear hrep hrep0
    have HD2 := Lib.hid D2
    have HK := Lib.hid K
    clear D2 K
    go_wp2_with (first
      | (go_at_call 37; refine D1.mono ?_; clear D1; rintro e w2 ⟨rfl, hb2⟩; have p0 := (HK.out 0 (by omega) _ hb2).trans q0; have p1 := (HK.out 1 (by omega) _ hb2).trans q1; have p2 := (HK.out 2 (by omega) _ hb2).trans q2; have p3 := (HK.out 3 (by omega) _ hb2).trans q3)
      | (go_at_call 50; refine (HD2.out _ hb2).mono ?_; rintro e w3 ⟨v2, xs, rfl, hb3, hown, hv2, hreps⟩; obtain ⟨g, cap, rfl⟩ := own_shape hown hv2))
    have hcell := hown.cells (g := g) rfl
    have hbw : Below w.heap.size w w3 := hb1.trans ((hb0.trans ((hb2.trans (hb3.mono hb2.size)).mono hb0.size)).mono hb1.size)
    have hg2 : w2.heap.size ≤ g ∧ g < w3.heap.size := hown.lt g rfl
    have hxl := hown.1
    have hsf := sfree_len t
    have HC := Lib.hid hcell
    have HP := Lib.hid hreps
    clear hcell hreps hown hv2 HD2 HK p0 p1 p2 p3 q0 q1 q2 q3 hW0
    obtain ⟨W3, hW3⟩ : ∃ W3, w3 = W3 := ⟨_, rfl⟩
    subst hW3
    go_loopw [5, 21] (fun o i wr => ∃ k : Nat, k ≤ (parts t).length ∧ i = .int .i64 k ∧ o = .string ⟨(sfree t ++ allB ((parts t).take k)).toArray⟩ ∧ uniqT t = freshL (sfree t ++ allB ((parts t).take k)) (allB ((parts t).drop k)) ∧ Below w3.heap.size w3 wr) (fun _ i _ => (parts t).length - (intOf i).toNat)
    case atStart => exact ⟨0, Nat.zero_le _, rfl, by simp [allB], by simp [allB, uniqT], Below.refl _ _⟩
    case round =>
      obtain ⟨k, hkl, rfl, rfl, hq, hBl⟩ := hrel
      have HQ := Lib.hid hq
      have hbl := allB_len (parts t) k
      clear hq
      by_cases hlt : k < (parts t).length
      · obtain ⟨p, hs⟩ : ∃ p, (parts t)[k]? = some p := ⟨_, List.getElem?_eq_getElem hlt⟩
        have hr := HP.out k p hs
        have hcells : ∀ j, j < 4 → wr.cell? ⟨g, 4 * k + j, none⟩ = some ((xs[4 * k + j]?).getD undef) := fun j hj => by
          have hj2 : 4 * k + j < xs.length := by omega
          have h1 := HC.out (4 * k + j) _ (List.getElem?_eq_getElem hj2)
          rw [Addr.add_lit, Nat.zero_add] at h1
          rw [List.getElem?_eq_getElem hj2]
          show _ = some _
          exact (hBl.cell (p := ⟨g, 4 * k + j, none⟩) hg2.2).trans h1
        have hsn : ∃ g' cap', four (fun j => (xs[j]?).getD undef) k = tmHead p g' cap' := by
          generalize four (fun j => (xs[j]?).getD undef) k = vv at hr
          cases hr with
          | mk _ g' cap' _ _ _ _ => exact ⟨g', cap', rfl⟩
        obtain ⟨g', cap', he⟩ := hsn
        unfold four tmHead at he
        simp only [Value.agg.injEq, Array.mk.injEq, List.cons.injEq, and_true] at he
        obtain ⟨i0, i1, i2, i3⟩ := he
        have e0 : wr.cell? ⟨g, k * 4, none⟩ = some (.int .u8 (kindOf p : Int)) := by rw [← i0]; have := hcells 0 (by omega); rwa [Nat.mul_comm k 4]
        have e1 : wr.cell? ⟨g, k * 4 + 1, none⟩ = some (.int .i64 (numOf p : Int)) := by rw [← i1]; have := hcells 1 (by omega); rwa [Nat.mul_comm k 4]
        have e2 : wr.cell? ⟨g, k * 4 + 2, none⟩ = some (.string ⟨(namesOf p).toArray⟩) := by rw [← i2]; have := hcells 2 (by omega); rwa [Nat.mul_comm k 4]
        have e3 : wr.cell? ⟨g, k * 4 + 3, none⟩ = some (.slice (some ⟨g', 0, none⟩) p.kids.length cap') := by rw [← i3]; have := hcells 3 (by omega); rwa [Nat.mul_comm k 4]
        have hsz := hBl.size
        have htk := allB_take _ _ _ hs
        have hdk := allB_drop _ _ _ hs
        have HT := Lib.hid htk
        have HD := Lib.hid hdk
        have hnl := names_len p
        clear hcells i0 i1 i2 i3 hs hr HC HP htk hdk
        by_cases hk : kindOf p = 118
        · have b1 : (kindOf p : Int) = 118 := by omega
          rw [b1] at e0
          have hbn : bindsOf p = [] := by
            cases p with
            | var c => rfl
            | op s l r => rfl
            | _ => simp [kindOf] at hk
          go_wp2_with fail
          refine ⟨⟨k + 1, by omega, by go_num, by rw [HT.out, hbn, List.append_nil], ?_, hBl.alloc hsz _⟩, by simp [intOf]; omega⟩
          rw [HQ.out, HT.out, HD.out, hbn, List.append_nil]
          rfl
        · have b1 : ¬ ((kindOf p : Int) = 118) := by omega
          have b2 : ((kindOf p : Int) == 118) = false := by simp; omega
          have hbn := binds_names p hk
          have HB := Lib.hid hbn
          clear hbn
          have c2 := cell_new wr [.int .u8 (kindOf p : Int), .int .i64 (numOf p : Int), .string ⟨(namesOf p).toArray⟩, .slice (some ⟨g', 0, none⟩) p.kids.length cap'] 35 2
          simp only [List.getElem?_cons_succ, List.getElem?_cons_zero] at c2
          change (wr.alloc (.cells #[.int .u8 (kindOf p : Int), .int .i64 (numOf p : Int), .string ⟨(namesOf p).toArray⟩, .slice (some ⟨g', 0, none⟩) p.kids.length cap'] 35)).cell? _ = _ at c2
          go_wp2_with fail
          have hBa := hBl.alloc hsz (.cells #[.int .u8 (kindOf p : Int), .int .i64 (numOf p : Int), .string ⟨(namesOf p).toArray⟩, .slice (some ⟨g', 0, none⟩) p.kids.length cap'] 35)
          generalize wr.alloc (.cells #[.int .u8 (kindOf p : Int), .int .i64 (numOf p : Int), .string ⟨(namesOf p).toArray⟩, .slice (some ⟨g', 0, none⟩) p.kids.length cap'] 35) = wa at c2 hBa ⊢
          go_loopw [5, 31] (fun o i wj => ∃ j : Nat, j ≤ (namesOf p).length ∧ i = .int .i64 j ∧ o = .string ⟨(sfree t ++ allB ((parts t).take k) ++ (namesOf p).take j).toArray⟩ ∧ uniqT t = freshL (sfree t ++ allB ((parts t).take k) ++ (namesOf p).take j) ((namesOf p).drop j ++ allB ((parts t).drop (k + 1))) ∧ wj = wa) (fun _ i _ => (namesOf p).length - (intOf i).toNat)
          case atStart => exact ⟨0, Nat.zero_le _, rfl, by simp, by rw [HQ.out, HD.out, HB.out]; simp, rfl⟩
          case round =>
            obtain ⟨j, hj, rfl, rfl, hqj, rfl⟩ := hrel
            have HJ := Lib.hid hqj
            clear hqj
            by_cases hltj : j < (namesOf p).length
            · obtain ⟨d, hd⟩ : ∃ d, (namesOf p)[j]? = some d := ⟨_, List.getElem?_eq_getElem hltj⟩
              have hix := index_byte (namesOf p) j d hd (by rw [size_data]; exact hltj)
              have hfd := fresh_drop (sfree t ++ allB ((parts t).take k) ++ (namesOf p).take j) (namesOf p) (allB ((parts t).drop (k + 1))) j d hd
              have htj : (namesOf p).take (j + 1) = (namesOf p).take j ++ [d] := by rw [List.take_add_one, hd]; rfl
              have hlen : (sfree t ++ allB ((parts t).take k) ++ (namesOf p).take j).length ≤ 1000 := by simp; omega
              have hnext : (sfree t ++ allB ((parts t).take k) ++ (namesOf p).take j) ++ [d] = sfree t ++ allB ((parts t).take k) ++ (namesOf p).take (j + 1) := by rw [htj, List.append_assoc]
              have hstep : uniqT t = (decide (d ∉ sfree t ++ allB ((parts t).take k) ++ (namesOf p).take j) && freshL (sfree t ++ allB ((parts t).take k) ++ (namesOf p).take (j + 1)) ((namesOf p).drop (j + 1) ++ allB ((parts t).drop (k + 1)))) := by
                rw [HJ.out, hfd, hnext]
              obtain ⟨seen, hseen⟩ : ∃ x, sfree t ++ allB ((parts t).take k) ++ (namesOf p).take j = x := ⟨_, rfl⟩
              rw [hseen] at hlen hstep hnext ⊢
              have F := find_c seen d wr (by omega)
              have hx1 := extract_one (namesOf p) j d hd
              have HX := Lib.hid hx1
              have HS := Lib.hid hstep
              have HNX := Lib.hid hnext
              clear hfd htj hd hstep hnext hseen hx1
              go_wp2_with (go_at_call 36; refine F.mono ?_; clear F; rintro e w4 ⟨rfl, rfl⟩)
              · rename_i hf
                have hm : d ∈ seen := by
                  apply Classical.byContradiction
                  intro h
                  have := (findI_mem d seen).2 h
                  omega
                go_ret
                refine ⟨?_, hbw.trans (hBa.mono hbw.size)⟩
                rw [HR.out]
                show _ = Ending.returned (.bool (uniqT t))
                rw [HS.out]
                simp [hm]
              · rename_i hf
                have hm : d ∉ seen := (findI_mem d seen).1 (by omega)
                refine ⟨⟨j + 1, by omega, by go_num, ?_, ?_, trivial⟩, by simp [intOf]; omega⟩
                · rw [← HNX.out, HX.out]
                  exact congrArg Value.string (str_app2 seen [d])
                · rw [HS.out]
                  simp [hm]
            · obtain rfl : j = (namesOf p).length := by omega
              go_wp2_with fail
              refine ⟨⟨k + 1, by omega, by go_num, by rw [HT.out, HB.out, List.take_length, List.append_assoc], ?_, hBa⟩, by simp [intOf]; omega⟩
              rw [HJ.out, HT.out, HB.out, List.take_length, List.drop_length, List.nil_append, List.append_assoc]
      · obtain rfl : k = (parts t).length := by omega
        go_wp2_with fail
        go_ret
        refine ⟨?_, hbw.trans (hBl.mono hbw.size)⟩
        have h := HQ.out
        rw [allB_end] at h
        rw [HR.out]
        show _ = Ending.returned (.bool (uniqT t))
        rw [h]
        rfl
end Go.Proofs.Ytppllaonbihflaa
