import Derived.Test.YtcabmcpalgpfpaaGreatDoorMCl
import Derived.Test.YtcabmcpalgpfpaaGreatDoorMYi
import Derived.Test.YtcabmcpalgpfpaaGreatDoorMTx
/- IsUnique: the model's. -/
namespace Go.Proofs.YtcabmcpalgpfpaaGreatDoor
open Go.RowKit
open Ff
set_option linter.unusedVariables false

/-- No name of a text is among those seen, nor twice in it. -/
def freshL (seen : Text) : Text → Bool
  | [] => true
  | c :: r => decide (c ∉ seen) && freshL (seen ++ [c]) r
/-- The names that the terms of a list bind, in order. -/
def allB (l : List Tm) : Text := l.flatMap bindsOf
theorem allB_drop (l : List Tm) (k : Nat) (s : Tm) (h : l[k]? = some s) : allB (l.drop k) = bindsOf s ++ allB (l.drop (k + 1)) := by
  obtain ⟨h1, h2⟩ := List.getElem?_eq_some_iff.1 h
  rw [List.drop_eq_getElem_cons h1, h2]
  rfl
theorem allB_end (l : List Tm) : allB (l.drop l.length) = [] := by simp [allB]
theorem allB_len (l : List Tm) (k : Nat) : (allB (l.take k)).length ≤ 2 * k := boundTo_len l k
theorem allB_take (l : List Tm) (k : Nat) (s : Tm) (h : l[k]? = some s) : allB (l.take (k + 1)) = allB (l.take k) ++ bindsOf s := boundTo_succ l k s h
theorem fresh_drop (seen nm rest : Text) (j : Nat) (c : UInt8) (h : nm[j]? = some c) : freshL seen (nm.drop j ++ rest) = (decide (c ∉ seen) && freshL (seen ++ [c]) (nm.drop (j + 1) ++ rest)) := by
  obtain ⟨h1, h2⟩ := List.getElem?_eq_some_iff.1 h
  rw [List.drop_eq_getElem_cons h1, h2]
  rfl
def uniqT (t : Tm) : Bool := freshL (sfree t) (allB (parts t))
def uniqB (o : Option Tm) : Bool := match o with | some t => uniqT t | none => false

set_option maxRecDepth 100000 in
set_option maxHeartbeats 4000000 in
theorem sIsUnique_c (s : Text) (w : World) (hl : s.length ≤ 9223372036854775807) :
    Calls Tryz.prog 10 #[.string ⟨s.toArray⟩] w fun e w' => e = .returned (.bool (uniqB (readS s))) ∧ Below w.heap.size w w' := by
  have C := sread_c s w hl
  go_enter Tryz.func10, Tryz.ntmps10
  go_wp2_with fail
  refine C.mono ?_
  clear C
  rcases hr : readS s with _ | t
  · rintro e w1 ⟨rfl, hb1⟩
    have HR := Lib.hid hr
    clear hr
    unfold zeroTm
    go_wp2_with fail
    go_ret
    exact ⟨by rw [HR.out]; rfl, hb1.alloc hb1.size _⟩
  · rintro e w1 ⟨v, rfl, hb1, hrep⟩
    have hd := readS_depth hr
    have hgd := readS_good hr
    have hp := readS_parts hr
    have HR := Lib.hid hr
    clear hr
    obtain ⟨x0, y0, st0, aa0, l0, cc0, rfl⟩ := hrep.junk
    obtain ⟨W0, hW0⟩ : ∃ W0, w1.alloc (.cells #[.int .u8 x0, .int .i64 y0, .string st0, .slice aa0 l0 cc0] 48) = W0 := ⟨_, rfl⟩
    have hb0 : Below w1.heap.size w1 W0 := by rw [← hW0]; exact (Below.refl _ w1).alloc (Nat.le_refl _) _
    have hs0 : w1.heap.size + 1 = W0.heap.size := by rw [← hW0]; simp
    have q0 : W0.cell? ⟨w1.heap.size, 0, none⟩ = some (.int .u8 x0) := by rw [← hW0]; exact cell_new w1 [.int .u8 x0, .int .i64 y0, .string st0, .slice aa0 l0 cc0] 48 0
    have q1 : W0.cell? ⟨w1.heap.size, 1, none⟩ = some (.int .i64 y0) := by rw [← hW0]; exact cell_new w1 [.int .u8 x0, .int .i64 y0, .string st0, .slice aa0 l0 cc0] 48 1
    have q2 : W0.cell? ⟨w1.heap.size, 2, none⟩ = some (.string st0) := by rw [← hW0]; exact cell_new w1 [.int .u8 x0, .int .i64 y0, .string st0, .slice aa0 l0 cc0] 48 2
    have q3 : W0.cell? ⟨w1.heap.size, 3, none⟩ = some (.slice aa0 l0 cc0) := by rw [← hW0]; exact cell_new w1 [.int .u8 x0, .int .i64 y0, .string st0, .slice aa0 l0 cc0] 48 3
    have hrep0 : Rep (fun g => g < w1.heap.size) W0 t (.agg #[.int .u8 x0, .int .i64 y0, .string st0, .slice aa0 l0 cc0]) := hrep.keep (fun g' hg' => hb0.block g' hg'.2) (fun g' hg' => hg'.2)
    have D1 := free_c 4000 t w1.heap.size _ W0 (by omega) (by omega) hrep0 (by omega) hgd
    have D2 := fun (w2 : World) (hb : Below W0.heap.size W0 w2) => each_c 4000 t w1.heap.size _ w2 (by omega) (by omega) (hrep0.keep (fun g' hg' => hb.block g' (by omega)) (fun g' hg' => hg')) (by have := hb.size; omega)
    have K : ∀ j, j < 4 → ∀ (w2 : World) (hb : Below W0.heap.size W0 w2), w2.cell? ⟨w1.heap.size, j, none⟩ = W0.cell? ⟨w1.heap.size, j, none⟩ := fun j _ w2 hb => hb.cell (p := ⟨w1.heap.size, j, none⟩) (by simp; omega)
    clear hrep hrep0
    have HD2 := Lib.hid D2
    have HK := Lib.hid K
    clear D2 K
    go_wp2_with (first
      | (go_at_call 25; refine D1.mono ?_; clear D1; rintro e w2 ⟨rfl, hb2⟩; have p0 := (HK.out 0 (by omega) _ hb2).trans q0; have p1 := (HK.out 1 (by omega) _ hb2).trans q1; have p2 := (HK.out 2 (by omega) _ hb2).trans q2; have p3 := (HK.out 3 (by omega) _ hb2).trans q3)
      | (go_at_call 26; refine (HD2.out _ hb2).mono ?_; rintro e w3 ⟨v2, xs, rfl, hb3, hown, hv2, hreps⟩; obtain ⟨g, cap, rfl⟩ := own_shape hown hv2))
    have hcell := hown.cells (g := g) rfl
    have hbw : Below w.heap.size w w3 := hb1.trans ((hb0.trans ((hb2.trans (hb3.mono hb2.size)).mono hb0.size)).mono hb1.size)
    have hg2 : w2.heap.size ≤ g ∧ g < w3.heap.size := hown.lt g rfl
    have hxl := hown.1
    have hsf := sfree_len t
    have HC := Lib.hid hcell
    have HP := Lib.hid hreps
    clear hcell hreps hown hv2 HD2 HK p0 p1 p2 p3 q0 q1 q2 q3 hW0
    obtain ⟨W3, hW3⟩ : ∃ W3, w3 = W3 := ⟨_, rfl⟩
    subst hW3
    go_loopw [5, 21] (fun o i wr => ∃ k : Nat, k ≤ (parts t).length ∧ i = .int .i64 k ∧ o = .string ⟨(sfree t ++ allB ((parts t).take k)).toArray⟩ ∧ uniqT t = freshL (sfree t ++ allB ((parts t).take k)) (allB ((parts t).drop k)) ∧ Below w3.heap.size w3 wr) (fun _ i _ => (parts t).length - (intOf i).toNat)
    case atStart => exact ⟨0, Nat.zero_le _, rfl, by simp [allB], by simp [allB, uniqT], Below.refl _ _⟩
    case round =>
      obtain ⟨k, hkl, rfl, rfl, hq, hBl⟩ := hrel
      have HQ := Lib.hid hq
      have hbl := allB_len (parts t) k
      clear hq
      by_cases hlt : k < (parts t).length
      · obtain ⟨p, hs⟩ : ∃ p, (parts t)[k]? = some p := ⟨_, List.getElem?_eq_getElem hlt⟩
        have hr := HP.out k p hs
        have hcells : ∀ j, j < 4 → wr.cell? ⟨g, 4 * k + j, none⟩ = some ((xs[4 * k + j]?).getD undef) := fun j hj => by
          have hj2 : 4 * k + j < xs.length := by omega
          have h1 := HC.out (4 * k + j) _ (List.getElem?_eq_getElem hj2)
          rw [Addr.add_lit, Nat.zero_add] at h1
          rw [List.getElem?_eq_getElem hj2]
          show _ = some _
          exact (hBl.cell (p := ⟨g, 4 * k + j, none⟩) hg2.2).trans h1
        have hsn : ∃ g' cap', four (fun j => (xs[j]?).getD undef) k = tmHead p g' cap' := by
          generalize four (fun j => (xs[j]?).getD undef) k = vv at hr
          cases hr with
          | mk _ g' cap' _ _ _ _ => exact ⟨g', cap', rfl⟩
        obtain ⟨g', cap', he⟩ := hsn
        unfold four tmHead at he
        simp only [Value.agg.injEq, Array.mk.injEq, List.cons.injEq, and_true] at he
        obtain ⟨i0, i1, i2, i3⟩ := he
        have e0 : wr.cell? ⟨g, k * 4, none⟩ = some (.int .u8 (kindOf p : Int)) := by rw [← i0]; have := hcells 0 (by omega); rwa [Nat.mul_comm k 4]
        have e1 : wr.cell? ⟨g, k * 4 + 1, none⟩ = some (.int .i64 (numOf p : Int)) := by rw [← i1]; have := hcells 1 (by omega); rwa [Nat.mul_comm k 4]
        have e2 : wr.cell? ⟨g, k * 4 + 2, none⟩ = some (.string ⟨(namesOf p).toArray⟩) := by rw [← i2]; have := hcells 2 (by omega); rwa [Nat.mul_comm k 4]
        have e3 : wr.cell? ⟨g, k * 4 + 3, none⟩ = some (.slice (some ⟨g', 0, none⟩) p.kids.length cap') := by rw [← i3]; have := hcells 3 (by omega); rwa [Nat.mul_comm k 4]
        have hsz := hBl.size
        have htk := allB_take _ _ _ hs
        have hdk := allB_drop _ _ _ hs
        have HT := Lib.hid htk
        have HD := Lib.hid hdk
        have hnl := names_len p
        clear hcells i0 i1 i2 i3 hs hr HC HP htk hdk
        by_cases hk : kindOf p = 118
        · have b1 : (kindOf p : Int) = 118 := by omega
          rw [b1] at e0
          have hbn : bindsOf p = [] := by
            cases p with
            | var c => rfl
            | op s l r => rfl
            | _ => simp [kindOf] at hk
          go_wp2_with fail
          refine ⟨⟨k + 1, by omega, by go_num, by rw [HT.out, hbn, List.append_nil], ?_, hBl.alloc hsz _⟩, by simp [intOf]; omega⟩
          rw [HQ.out, HT.out, HD.out, hbn, List.append_nil]
          rfl
        · have b1 : ¬ ((kindOf p : Int) = 118) := by omega
          have b2 : ((kindOf p : Int) == 118) = false := by simp; omega
          have hbn := binds_names p hk
          have HB := Lib.hid hbn
          clear hbn
          have c2 := cell_new wr [.int .u8 (kindOf p : Int), .int .i64 (numOf p : Int), .string ⟨(namesOf p).toArray⟩, .slice (some ⟨g', 0, none⟩) p.kids.length cap'] 48 2
          simp only [List.getElem?_cons_succ, List.getElem?_cons_zero] at c2
          change (wr.alloc (.cells #[.int .u8 (kindOf p : Int), .int .i64 (numOf p : Int), .string ⟨(namesOf p).toArray⟩, .slice (some ⟨g', 0, none⟩) p.kids.length cap'] 48)).cell? _ = _ at c2
          go_wp2_with fail
          have hBa := hBl.alloc hsz (.cells #[.int .u8 (kindOf p : Int), .int .i64 (numOf p : Int), .string ⟨(namesOf p).toArray⟩, .slice (some ⟨g', 0, none⟩) p.kids.length cap'] 48)
          generalize wr.alloc (.cells #[.int .u8 (kindOf p : Int), .int .i64 (numOf p : Int), .string ⟨(namesOf p).toArray⟩, .slice (some ⟨g', 0, none⟩) p.kids.length cap'] 48) = wa at c2 hBa ⊢
          go_loopw [5, 31] (fun o i wj => ∃ j : Nat, j ≤ (namesOf p).length ∧ i = .int .i64 j ∧ o = .string ⟨(sfree t ++ allB ((parts t).take k) ++ (namesOf p).take j).toArray⟩ ∧ uniqT t = freshL (sfree t ++ allB ((parts t).take k) ++ (namesOf p).take j) ((namesOf p).drop j ++ allB ((parts t).drop (k + 1))) ∧ wj = wa) (fun _ i _ => (namesOf p).length - (intOf i).toNat)
          case atStart => exact ⟨0, Nat.zero_le _, rfl, by simp, by rw [HQ.out, HD.out, HB.out]; simp, rfl⟩
          case round =>
            obtain ⟨j, hj, rfl, rfl, hqj, rfl⟩ := hrel
            have HJ := Lib.hid hqj
            clear hqj
            by_cases hltj : j < (namesOf p).length
            · obtain ⟨d, hd⟩ : ∃ d, (namesOf p)[j]? = some d := ⟨_, List.getElem?_eq_getElem hltj⟩
              have hix := index_byte (namesOf p) j d hd (by rw [size_data]; exact hltj)
              have hfd := fresh_drop (sfree t ++ allB ((parts t).take k) ++ (namesOf p).take j) (namesOf p) (allB ((parts t).drop (k + 1))) j d hd
              have htj : (namesOf p).take (j + 1) = (namesOf p).take j ++ [d] := by rw [List.take_add_one, hd]; rfl
              have hlen : (sfree t ++ allB ((parts t).take k) ++ (namesOf p).take j).length ≤ 4000 := by simp; omega
              have hnext : (sfree t ++ allB ((parts t).take k) ++ (namesOf p).take j) ++ [d] = sfree t ++ allB ((parts t).take k) ++ (namesOf p).take (j + 1) := by rw [htj, List.append_assoc]
              have hstep : uniqT t = (decide (d ∉ sfree t ++ allB ((parts t).take k) ++ (namesOf p).take j) && freshL (sfree t ++ allB ((parts t).take k) ++ (namesOf p).take (j + 1)) ((namesOf p).drop (j + 1) ++ allB ((parts t).drop (k + 1)))) := by
                rw [HJ.out, hfd, hnext]
              obtain ⟨seen, hseen⟩ : ∃ x, sfree t ++ allB ((parts t).take k) ++ (namesOf p).take j = x := ⟨_, rfl⟩
              rw [hseen] at hlen hstep hnext ⊢
              have F := find_c seen d wr (by omega)
              have hx1 := extract_one (namesOf p) j d hd
              have HX := Lib.hid hx1
              have HS := Lib.hid hstep
              have HNX := Lib.hid hnext
              clear hfd htj hd hstep hnext hseen hx1
              go_wp2_with (go_at_call 27; refine F.mono ?_; clear F; rintro e w4 ⟨rfl, rfl⟩)
              · rename_i hf
                have hm : d ∈ seen := by
                  apply Classical.byContradiction
                  intro h
                  have := (findI_mem d seen).2 h
                  omega
                go_ret
                refine ⟨?_, hbw.trans (hBa.mono hbw.size)⟩
                rw [HR.out]
                show _ = Ending.returned (.bool (uniqT t))
                rw [HS.out]
                simp [hm]
              · rename_i hf
                have hm : d ∉ seen := (findI_mem d seen).1 (by omega)
                refine ⟨⟨j + 1, by omega, by go_num, ?_, ?_, trivial⟩, by simp [intOf]; omega⟩
                · rw [← HNX.out, HX.out]
                  exact congrArg Value.string (str_app2 seen [d])
                · rw [HS.out]
                  simp [hm]
            · obtain rfl : j = (namesOf p).length := by omega
              go_wp2_with fail
              refine ⟨⟨k + 1, by omega, by go_num, by rw [HT.out, HB.out, List.take_length, List.append_assoc], ?_, hBa⟩, by simp [intOf]; omega⟩
              rw [HJ.out, HT.out, HB.out, List.take_length, List.drop_length, List.nil_append, List.append_assoc]
      · obtain rfl : k = (parts t).length := by omega
        go_wp2_with fail
        go_ret
        refine ⟨?_, hbw.trans (hBl.mono hbw.size)⟩
        have h := HQ.out
        rw [allB_end] at h
        rw [HR.out]
        show _ = Ending.returned (.bool (uniqT t))
        rw [h]
        rfl
end Go.Proofs.YtcabmcpalgpfpaaGreatDoor

/- IsUnique: the program's, and the statement's walk. -/
namespace Go.Proofs.YtcabmcpalgpfpaaGreatDoor
open Go.RowKit
open Ff
set_option linter.unusedVariables false

theorem fresh_iff : ∀ (l seen : Text), freshL seen l = true ↔ ∀ c, l.count c ≤ 1 ∧ (l.count c ≠ 0 → c ∉ seen) := by
  intro l
  induction l with
  | nil => intro seen; simp [freshL]
  | cons a r ih =>
    intro seen
    simp only [freshL, Bool.and_eq_true, decide_eq_true_eq, ih]
    constructor
    · rintro ⟨ha, h⟩ c
      obtain ⟨h1, h2⟩ := h c
      by_cases e : c = a
      · subst e
        have h0 : List.count c r = 0 := by
          apply Classical.byContradiction
          intro hn
          exact h2 hn (by simp)
        rw [List.count_cons_self]
        exact ⟨by omega, fun _ => ha⟩
      · have e2 : ¬ a = c := fun h => e h.symm
        rw [List.count_cons_of_ne e2]
        exact ⟨h1, fun hn hm => h2 hn (by simp [hm])⟩
    · intro h
      refine ⟨(h a).2 (by rw [List.count_cons_self]; omega), fun c => ?_⟩
      obtain ⟨h1, h2⟩ := h c
      by_cases e : c = a
      · subst e
        rw [List.count_cons_self] at h1
        exact ⟨by omega, fun hn => absurd (by omega) hn⟩
      · have e2 : ¬ a = c := fun h => e h.symm
        rw [List.count_cons_of_ne e2] at h1 h2
        exact ⟨h1, fun hn hm => by simp at hm; rcases hm with hm | hm; exact h2 hn hm; exact e hm⟩
theorem uniq_iff {t : Tm} (h : t.good) : uniqT t = true ↔ ∀ c, cntB (parts t) c ≤ 1 ∧ (cntB (parts t) c ≠ 0 → cntF t c = 0) := by
  unfold uniqT
  rw [fresh_iff]
  have e : ∀ c, List.count c (allB (parts t)) = cntB (parts t) c := fun c => rfl
  simp only [e]
  constructor
  · intro h1 c
    refine ⟨(h1 c).1, fun hn => ?_⟩
    apply Classical.byContradiction
    intro h0
    exact (h1 c).2 hn ((mem_free h c).2 h0)
  · intro h1 c
    exact ⟨(h1 c).1, fun hn hm => (mem_free h c).1 hm ((h1 c).2 hn)⟩
theorem parts_good' {t s : Tm} (h : t.good) (hs : s ∈ parts t) : s.good := by
  induction t with
  | num n => simp only [parts, List.mem_singleton] at hs; subst hs; exact h
  | var c => simp only [parts, List.mem_singleton] at hs; subst hs; exact h
  | fn c b ih => simp only [parts, List.mem_cons] at hs; rcases hs with rfl | hs; exact h; exact ih h.2 hs
  | fix f c b ih => simp only [parts, List.mem_cons] at hs; rcases hs with rfl | hs; exact h; exact ih h.2.2.2 hs
  | app f a h1 h2 => simp only [parts, List.mem_cons, List.mem_append] at hs; rcases hs with rfl | hs | hs; exact h; exact h1 h.1 hs; exact h2 h.2 hs
  | bind c f a h1 h2 => simp only [parts, List.mem_cons, List.mem_append] at hs; rcases hs with rfl | hs | hs; exact h; exact h1 h.2.1 hs; exact h2 h.2.2 hs
  | op c f a h1 h2 => simp only [parts, List.mem_cons, List.mem_append] at hs; rcases hs with rfl | hs | hs; exact h; exact h1 h.2.1 hs; exact h2 h.2.2 hs
  | sel a b c h1 h2 h3 => simp only [parts, List.mem_cons, List.mem_append] at hs; rcases hs with rfl | hs | hs | hs; exact h; exact h1 h.1 hs; exact h2 h.2.1 hs; exact h3 h.2.2 hs

set_option maxRecDepth 100000 in
set_option maxHeartbeats 2000000 in
theorem iIsUnique_c (s : Text) (w : World) (hl : s.length ≤ 9223372036854775807) :
    Calls Tryz.prog 9 #[.string ⟨s.toArray⟩] w fun e w' => e = .returned (.bool (uniqB (readT s))) ∧ Below w.heap.size w w' := by
  have C := read_c s w hl
  go_enter Tryz.func9, Tryz.ntmps9
  go_wp2_with fail
  refine C.mono ?_
  clear C
  rcases hr : readT s with _ | t
  · rintro e w1 ⟨rfl, hb1⟩
    have HR := Lib.hid hr
    clear hr
    go_wp2_with fail
    go_ret
    exact ⟨by rw [HR.out]; rfl, hb1⟩
  · rintro e w1 ⟨rfl, hb1⟩
    have hs := readS_eq s ▸ hr
    have D := freeIn_c 4000 t w1 (by have := readS_depth hs; omega) (by omega) (by have := readS_parts hs; omega) (readS_good hs)
    have D2 := fun w2 => boundIn_c t (fun s h => parts_good' (readS_good hs) h) (by have := readS_parts hs; omega) w2
    have hu := uniq_iff (readS_good hs)
    have hcb := fun c => cntB_le (parts t) c
    have hcf := fun c => cnt_le t c
    have hp := readS_parts hs
    rw [enc_ty t] at D D2 ⊢
    have HR := Lib.hid hr
    have HU := Lib.hid hu
    clear hr hs hu
    go_wp2_with (first
      | (go_at_call 23; refine D.mono ?_; clear D; rintro e w2 ⟨b, k, rfl, hbw, hk, hT, hb2⟩)
      | (go_at_call 24; refine (D2 w2).mono ?_; clear D2; rintro e w3 ⟨b2, k2, rfl, hbw2, hk2, hT2, hb3⟩)
      | (at_range; refine wpList_range_tally rfl _ rfl rfl hT2 ?_; intro w4 cnt0 hu0 hc0 hg4 hs4))
    go_frame
    have hl2 := hT.lt
    have hl3 := hT2.lt
    have hT4 := (hT.below hb3).kept hg4 (by simp)
    have hB4 : Below w.heap.size w w4 := (hb1.trans ((hb2.trans (hb3.mono hb2.size)).mono hb1.size)).grown hg4 (by have := hb1.size; have := hb2.size; have := hb3.size; omega) (fun j hj => by cases hj)
    have hz := hb3.size
    have hz1 := hb1.size
    have hz2 := hb2.size
    go_loopw [6] (fun _ wr => ∃ left cnt, Under wr b2 w3.heap.size k2 (cntB (parts t)) left cnt ∧ Tally wr b k (cntF t) ∧ (∀ c, left c = false → cntB (parts t) c ≤ 1 ∧ (cntB (parts t) c ≠ 0 → cntF t c = 0)) ∧ w4.grownBy wr (some w3.heap.size))
      (fun _ wr => wr.rangeLeft b2 w3.heap.size)
    case atStart => exact ⟨_, cnt0, hu0, hT4, fun c hc => by simp at hc; omega, World.grownBy.refl _ _⟩
    case round =>
      obtain ⟨left, cnt, hun, htn, hok, hgr⟩ := hrel
      have HOK := Lib.hid hok
      clear hok
      have hBr : Below w.heap.size w wr := hB4.grown hgr hB4.size (fun j hj => by cases hj; omega)
      go_wp2_with (at_next; refine wpList_next_tally rfl _ rfl rfl hun ?_ ?_)
      · intro hl0
        go_wp2
        go_ret
        refine ⟨?_, hBr⟩
        rw [HR.out]
        show _ = Ending.returned (.bool (uniqT t))
        rw [HU.out.2 (fun c => HOK.out c (hl0 c))]
        rfl
      · intro c w5 cnt1 hlc hmc hu1 hlt hg1 hs1 hen
        have hT5 := htn.kept hg1 (fun e => by have := Option.some.inj e; omega)
        have hlook := hT5.look c
        have hcb1 := hcb c
        have hcf1 := hcf c
        have hB5 : Below w.heap.size w w5 := hBr.grown hg1 hBr.size (fun j hj => by cases hj; omega)
        by_cases h1 : 1 < cntB (parts t) c
        · go_wp2_with fail
          go_ret
          refine ⟨?_, hB5⟩
          rw [HR.out]
          show _ = Ending.returned (.bool (uniqT t))
          have e : uniqT t = false := by
            rw [Bool.eq_false_iff]
            intro h
            have := (HU.out.1 h c).1
            omega
          rw [e]
          rfl
        · by_cases h2 : 0 < cntF t c
          · go_wp2_with fail
            go_ret
            refine ⟨?_, hB5⟩
            rw [HR.out]
            show _ = Ending.returned (.bool (uniqT t))
            have e : uniqT t = false := by
              rw [Bool.eq_false_iff]
              intro h
              have := (HU.out.1 h c).2 hmc
              omega
            rw [e]
            rfl
          · go_wp2_with fail
            refine ⟨⟨_, cnt1, hu1, hT5, fun x hx => ?_, hgr.andThen hg1 (fun j hj => Or.inr hj)⟩, by rw [hu1.left_eq, hun.left_eq]; exact hlt⟩
            by_cases e : x = c
            · subst e
              exact ⟨by omega, fun _ => by omega⟩
            · exact HOK.out x (by simpa [e] using hx)
end Go.Proofs.YtcabmcpalgpfpaaGreatDoor

/- The program's untaken: the first letter that a tally lacks. -/
namespace Go.Proofs.YtcabmcpalgpfpaaGreatDoor
open Go.RowKit Go.Shelf
open Ff
set_option linter.unusedVariables false
attribute [local go_sem] Oper.semAt_some

/-- The letters among the first k that a tally lacks. -/
def butTo (m : UInt8 → Nat) (k : Nat) : Text := (letters.take k).filter (fun c => decide (m c = 0))
theorem but_succ (m : UInt8 → Nat) (k : Nat) (c : UInt8) (h : letters[k]? = some c) : butTo m (k + 1) = butTo m k ++ (if m c = 0 then [c] else []) := by
  unfold butTo
  rw [List.take_add_one, h]
  simp only [Option.toList_some, List.filter_append, List.append_cancel_left_eq]
  by_cases h2 : m c = 0 <;> simp [h2]
theorem but_len (m : UInt8 → Nat) (k : Nat) : (butTo m k).length ≤ k := Nat.le_trans (List.length_filter_le _ _) (by simp; omega)
theorem but_pre (m : UInt8 → Nat) (k : Nat) (h : k ≤ 16) : butTo m k <+: butTo m 16 := by
  refine ⟨(letters.drop k).filter (fun c => decide (m c = 0)), ?_⟩
  unfold butTo
  rw [← List.filter_append, List.take_append_drop]
  rfl
theorem Tally.keepB {A B : World} {b n n₀ : Nat} {m : UInt8 → Nat} (h : Tally A b n m) (hb : b < n₀) (hk : Below n₀ A B) : Tally B b n m := by
  obtain ⟨D, ⟨es, clock, h1, h2⟩, h3⟩ := h
  exact ⟨D, ⟨es, clock, (hk.block b hb).trans h1, h2⟩, h3⟩
/-- What untaken returns. -/
def untV (m : UInt8 → Nat) : Value := match (butTo m 16).head? with
  | some c => .tuple #[bv c, .bool true]
  | none => .tuple #[.int .u8 0, .bool false]
end Go.Proofs.YtcabmcpalgpfpaaGreatDoor

/- NewName: the model's and the program's. -/
namespace Go.Proofs.YtcabmcpalgpfpaaGreatDoor
open Go.RowKit
open Ff
set_option linter.unusedVariables false

set_option maxRecDepth 100000 in
set_option maxHeartbeats 1000000 in
theorem find_big (s : Text) (c : UInt8) (w : World) (hl : s.length ≤ 2000000) :
    Calls Tryz.prog 27 #[.string ⟨s.toArray⟩, .int .u8 (c.toNat : Int)] w fun e w' => e = .returned (.int .i64 (findI c s)) ∧ w' = w := by
  go_enter Tryz.func27, Tryz.ntmps27
  go_wp2_with fail
  go_loopw [5] (fun i wr => ∃ k : Nat, k ≤ s.length ∧ i = .int .i64 k ∧ c ∉ s.take k ∧ wr = w) (fun i _ => s.length - (intOf i).toNat)
  case atStart => exact ⟨0, Nat.zero_le _, rfl, by simp, rfl⟩
  case round =>
    obtain ⟨k, hk, rfl, hn, rfl⟩ := hrel
    have HN := Lib.hid hn
    clear hn
    by_cases hlt : k < s.length
    · obtain ⟨d, hd⟩ : ∃ d, s[k]? = some d := ⟨_, List.getElem?_eq_getElem hlt⟩
      go_wp2_with fail
      · rename_i hc
        rw [byte_eq s k c d hd (by rw [size_data]; exact hlt), decide_eq_true_iff] at hc
        subst hc
        go_ret
        exact ⟨by rw [findI_at hd HN.out]; rfl, rfl⟩
      · rename_i hc
        rw [byte_eq s k c d hd (by rw [size_data]; exact hlt), decide_eq_false_iff_not] at hc
        refine ⟨⟨k + 1, by omega, by go_num, ?_, trivial⟩, by simp [intOf]; omega⟩
        rw [List.take_add_one, hd]
        simp only [Option.toList_some, List.mem_append, List.mem_singleton, not_or]
        exact ⟨HN.out, fun e => hc e.symm⟩
    · have hk2 : s.take k = s := List.take_of_length_le (by omega)
      rw [hk2] at HN
      go_wp2_with fail
      go_ret
      exact ⟨by rw [findI_none HN.out]; rfl, rfl⟩

/-- The first letter that is not in a text. -/
def newO (s : Text) : Option UInt8 := letters.find? (fun c => decide (c ∉ s))
def newT (s : Text) : Text := match newO s with | some c => [c] | none => []
theorem find_at {s : Text} {k : Nat} {c : UInt8} (hc : letters[k]? = some c) (h : ∀ d ∈ letters.take k, d ∈ s) (hm : c ∉ s) : newO s = some c := by
  unfold newO
  obtain ⟨h1, h2⟩ := List.getElem?_eq_some_iff.1 hc
  rw [← List.take_append_drop k letters, List.find?_append, List.find?_eq_none.2 (fun d hd => by simpa using h d hd), List.drop_eq_getElem_cons h1, h2]
  simp [hm]
theorem find_none {s : Text} (h : ∀ d ∈ letters, d ∈ s) : newO s = none := by
  unfold newO
  rw [List.find?_eq_none]
  intro d hd
  simpa using h d hd
set_option maxRecDepth 100000 in
set_option maxHeartbeats 1000000 in
theorem sl2New_c (s : Text) (w : World) (hl : s.length ≤ 2000000) :
    Calls Tryz.prog 61 #[.string ⟨s.toArray⟩] w fun e w' => e = .returned (.string ⟨(newT s).toArray⟩) ∧ Below w.heap.size w w' := by
  go_enter Tryz.func61, Tryz.ntmps61
  go_wp2_with fail
  go_loopw [3] (fun i wr => ∃ k : Nat, k ≤ 16 ∧ i = .int .u8 (97 + k : Nat) ∧ (∀ d ∈ letters.take k, d ∈ s) ∧ wr = w) (fun i _ => 113 - (intOf i).toNat)
  case atStart => exact ⟨0, Nat.zero_le _, rfl, by simp, rfl⟩
  case round =>
    obtain ⟨k, hk, rfl, hall, rfl⟩ := hrel
    have HA := Lib.hid hall
    clear hall
    by_cases hlt : k < 16
    · obtain ⟨c, hc, hcn⟩ := letters_at k hlt
      have F := find_big s c wr hl
      rw [hcn] at F
      have hcn2 : (97 + (k : Int)) = (c.toNat : Int) := by rw [hcn]; simp
      have k1 : (convert 22 9 (.slice (some ⟨wr.heap.size, 0, none⟩) 1 1)).run Tryz.prog (wr.alloc (.cells #[.int .u8 (97 + (k : Int))] 5)) = .ok (.string ⟨[c].toArray⟩) (wr.alloc (.cells #[.int .u8 (97 + (k : Int))] 5)) := by
        rw [hcn2]
        exact str1 _ c _ (cell_new_at _ _ _ _ rfl)
      have HC := Lib.hid hc
      clear hcn2 hcn hc
      go_wp2_with (go_at_call 27; refine F.mono ?_; clear F; rintro e w1 ⟨rfl, rfl⟩)
      · rename_i hf
        have hm : c ∉ s := (findI_mem c s).1 (by omega)
        go_ret
        refine ⟨?_, (Below.refl _ w1).alloc (Nat.le_refl _) _⟩
        unfold newT
        rw [find_at HC.out HA.out hm]
        rfl
      · rename_i hf
        have hm : c ∈ s := by
          apply Classical.byContradiction
          intro h
          have := (findI_mem c s).2 h
          omega
        refine ⟨⟨k + 1, by omega, by go_num, fun d hd => ?_, trivial⟩, by simp [intOf]; omega⟩
        rw [List.take_add_one, HC.out] at hd
        simp only [Option.toList_some, List.mem_append, List.mem_singleton] at hd
        rcases hd with hd | rfl
        · exact HA.out d hd
        · exact hm
    · obtain rfl : k = 16 := by omega
      go_wp2_with fail
      go_ret
      refine ⟨?_, Below.refl _ _⟩
      unfold newT
      rw [find_none HA.out]
      rfl
/-- What NewName tells. -/
def newV (s : Text) : Value := match newO s with
  | some c => .tuple #[.string ⟨#[c]⟩, .bool true]
  | none => .tuple #[.string ⟨#[]⟩, .bool false]
theorem newV_shape (s : Text) : ∃ (x : ByteArray) (b : Bool), newV s = .tuple #[.string x, .bool b] := by
  unfold newV
  split <;> exact ⟨_, _, rfl⟩
theorem but_new (s : Text) : (butTo (fun c => s.count c) 16).head? = newO s := by
  unfold butTo newO
  rw [List.take_of_length_le (by decide), ← List.head?_filter]
  congr 1
  refine List.filter_congr fun c _ => ?_
  have : s.count c = 0 ↔ c ∉ s := List.count_eq_zero
  simp [this]
end Go.Proofs.YtcabmcpalgpfpaaGreatDoor
