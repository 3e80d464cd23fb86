import Derived.Test.YtcabmcpalgpfpaaMRc
import Derived.Deep.QuietTactic
import Derived.Deep.RegionHeld3
import Derived.BigQuiet
import Derived.Deep.CutRange
/- The specification's Rename, past its first guards: another name. -/
namespace Go.Proofs.Ytcabmcpalgpfpaa
open Go.RowKit
open Ff
set_option linter.unusedVariables false
attribute [local irreducible] Calls

set_option maxRecDepth 100000 in
set_option maxHeartbeats 8000000 in
theorem sRename_B (s : Text) (x y : UInt8) (t : Tm) (w : World) (hl : s.length ≤ 9223372036854775807) (hr : readS s = some t) (hn : nameOf [x] = some x) (hm : nameOf [y] = some y) (hxb : x ∈ bindsOf t) (hxy : x ≠ y) (hyb : y ∉ bindsOf t) (O : Option Tm)
    (hO : O = if (x ≠ y ∧ cntF (lastK t) y ≠ 0) ∨ (renT t x y).2 = false then none else some (renT t x y).1) :
    Calls Try.prog 4 #[.string ⟨s.toArray⟩, .string ⟨([x] : Text).toArray⟩, .string ⟨([y] : Text).toArray⟩] w fun e w' => e = .returned (.tuple #[.string ⟨(textO O).toArray⟩, .bool O.isSome]) ∧ Below w.heap.size w w' := by
  have hcase : x = y ∨ (x ≠ y ∧ y ∉ bindsOf t) := .inr ⟨hxy, hyb⟩
  have C1 := sread_c s w hl
  rw [hr] at C1
  have N1 := fun W => (sName_c [x] W (by simp)).mono fun e w' h => (⟨h.1, h.2.symm⟩ : e = .returned (.bool (nameOf [x]).isSome) ∧ w' = W)
  have N2 := fun W => (sName_c [y] W (by simp)).mono fun e w' h => (⟨h.1, h.2.symm⟩ : e = .returned (.bool (nameOf [y]).isSome) ∧ w' = W)
  obtain ⟨_, hx⟩ := name_some hn
  obtain ⟨_, hy⟩ := name_some hm
  rw [hn] at N1
  rw [hm] at N2
  simp only [Option.isSome_some] at N1 N2
  obtain ⟨tg, td, tp⟩ := read_facts hr
  have hb : bindsOf t ≠ [] := by intro e; rw [e] at hxb; cases hxb
  obtain ⟨hk, hnm⟩ := binds_kids hb
  have hlen : (bindsOf t).length ≤ 2 := by cases t <;> simp [bindsOf]
  have hkd : ((kindOf t : Int) == 118) = false := by
    rw [beq_eq_false_iff_ne]
    have := kind_sub_var t hk tg
    omega
  obtain ⟨m, hmm⟩ : ∃ m, t.kids.length = m + 1 := ⟨t.kids.length - 1, by have := List.length_pos_iff.2 hk; omega⟩
  have hL3 : t.kids.length ≤ 3 := by cases t <;> simp [Tm.kids]
  have hlast := kid_last hk
  rw [hmm] at hlast
  simp only [Nat.add_sub_cancel] at hlast
  have F1 := fun W => find_c (bindsOf t) x W (by omega)
  have F2 := fun W => find_c (bindsOf t) y W (by omega)
  have hF1 : (findI x (bindsOf t) < 0) = False := eq_false (fun h => (findI_mem _ _).1 h hxb)
  have hF2 : x ≠ y → findI y (bindsOf t) < 0 := fun h => (findI_mem _ _).2 (by rcases hcase with e | e; exact absurd e h; exact e.2)
  have hlm := List.mem_of_getElem? hlast
  have lg := Tm.kid_good tg hlm
  have ld := kid_depth hlm
  have lp := parts_kid_le hlm
  have hfl := sfree_len (lastK t)
  have F3 := fun W => find_c (sfree (lastK t)) y W (by omega)
  have hF3 : findI y (sfree (lastK t)) < 0 ↔ cntF (lastK t) y = 0 := by
    rw [findI_mem, mem_free lg]; simp
  have hRg : (renT t x y).1.good ∧ (parts (renT t x y).1).length = (parts t).length ∧ (renT t x y).1.depth = t.depth := by
    rcases hcase with e | e
    · subst e; rw [renT_self hb]; exact ⟨tg, rfl, rfl⟩
    · exact renT_ok tg hb hy e.2
  have hRk : (renT t x y).1.kids = t.kids.dropLast ++ [(subS 24 x (.var y) (lastK t)).1] := withNB_kids hb _ _
  have hRi := withNB_kind hb (swap (bindsOf t) x y) (subS 24 x (.var y) (lastK t)).1
  have hRn : namesOf (renT t x y).1 = swap (bindsOf t) x y := withNB_names hb (swap_len _ _ _) _
  have hR2 : (renT t x y).2 = (subS 24 x (.var y) (lastK t)).2 := rfl
  have hRi1 : kindOf (renT t x y).1 = kindOf t := hRi.1
  have hRi2 : numOf (renT t x y).1 = numOf t := hRi.2
  have hsw := swap_len (bindsOf t) x y
  have hdl : t.kids.dropLast.length = m := by rw [List.length_dropLast]; omega
  clear hRi
  obtain ⟨b, hbT⟩ : ∃ b, lastK t = b := ⟨_, rfl⟩
  rw [hbT] at hlast lg ld lp hfl F3 hF3 hRk hR2 hO
  obtain ⟨R, hR⟩ : ∃ R, renT t x y = R := ⟨_, rfl⟩
  rw [hR] at hRg hRk hRn hR2 hO hRi1 hRi2
  obtain ⟨r1, hr1⟩ : ∃ r1, subS 24 x (.var y) b = r1 := ⟨_, rfl⟩
  rw [hr1] at hRk hR2
  have q3 : IntKind.i64.wrap ((t.kids.length : Int) - 1) = (m : Int) := by rw [IntKind.wrap_i64]; omega
  have hI0 : (0 : Int) ≤ (m : Int) := by omega
  have hI1 : (m : Int) < (t.kids.length : Int) := by omega
  have hm3 : m ≤ 3 := by omega
  have hLm := Lib.hid hmm
  obtain ⟨i0, hi, hj0, hj1, hj2⟩ := info_parts Try.infoTerm
  go_enter Try.func4, Try.ntmps4
  go_wp2_with fail
  refine C1.mono ?_
  clear C1
  rintro e w1 ⟨v1, rfl, hb1, hrep1⟩
  cases hrep1 with
  | mk _ g cap c hgS hc hkr hcap =>
  unfold tmHead
  rw [hnm]
  have hgw : g < w1.heap.size := hgS.2
  obtain ⟨news, nw1, nw2, nw3, nw4⟩ := front_cells hc hkr hmm
  obtain ⟨y0, y1, y2, y3, y4, y5, hrb, hcc⟩ := kid_cells hgw hc hkr hlast
  have hB := hb1.alloc hb1.size (tmO (kindOf t) (numOf t) ⟨(bindsOf t).toArray⟩ (some ⟨g, 0, none⟩) t.kids.length cap)
  have hbox := alloc_here w1 (tmO (kindOf t) (numOf t) ⟨(bindsOf t).toArray⟩ (some ⟨g, 0, none⟩) t.kids.length cap)
  have hsz1 := hb1.size
  have hnew : ∀ g', New w w1 g' → g' < w1.heap.size := fun g' h => h.2
  have hcm : (m : Int) ≤ (cap : Int) := by omega
  have hLcap : m ≤ cap := by omega
  clear hc hkr hb1 hlm hmm hbT hR hr hnm hxb hcap
  obtain ⟨W2, hW2⟩ : ∃ W2, w1.alloc (tmO (kindOf t) (numOf t) ⟨(bindsOf t).toArray⟩ (some ⟨g, 0, none⟩) t.kids.length cap) = W2 := ⟨_, rfl⟩
  have hz2 : W2.heap.size = w1.heap.size + 1 := by rw [← hW2]; simp
  have hold : ∀ g', g' < w1.heap.size → W2.heap[g']? = w1.heap[g']? := fun g' h => by rw [← hW2]; exact alloc_far _ _ h
  have hw12 : Below w1.heap.size w1 W2 := by rw [← hW2]; exact (Below.refl _ _).alloc (Nat.le_refl _) _
  rw [hW2] at hB hbox
  obtain ⟨P, hP⟩ : ∃ P, w1.heap.size = P := ⟨_, rfl⟩
  rw [hP] at hbox hz2
  -- what the calls come to
  have CS : ∀ (V : World) (gL : Nat), Below W2.heap.size W2 V → W2.heap.size ≤ gL → gL < V.heap.size →
      Calls Try.prog 10 #[.agg #[.int .u8 y0, .int .i64 y1, .string y2, .slice y3 y4 y5], .string ⟨([x] : Text).toArray⟩, .agg #[.int .u8 118, .int .i64 0, .string ⟨([y] : Text).toArray⟩, .slice (some ⟨gL, 0, none⟩) 0 0]] V fun e W' =>
        ∃ (v0 v1 : Int) (v2 : ByteArray) (v3 : Option Addr) (v4 v5 : Nat), e = .returned (.tuple #[.agg #[.int .u8 v0, .int .i64 v1, .string v2, .slice v3 v4 v5], .bool r1.2]) ∧ Below W2.heap.size W2 W' ∧ Rep (fun g' => g' < W'.heap.size ∧ g' ≠ P) W' r1.1 (.agg #[.int .u8 v0, .int .i64 v1, .string v2, .slice v3 v4 v5]) := by
    intro V gL hV h1 h2
    have C := subst_c 24 (fun g' => g' < V.heap.size ∧ g' ≠ P) x b (.var y) _ (tmHead (.var y) gL 0) V (by omega) (by omega) lg hy (by simp [Tm.depth]) (by omega) hx (fun g' h => h.1)
      (hrb.keep (fun g' h => (hV.block g' (by have := h.2; omega)).trans (hold g' h.2)) (fun g' h => ⟨by have := h.2; have := hV.size; omega, by have := h.2; omega⟩))
      (.mk (.var y) gL 0 (fun _ => undef) ⟨h2, by omega⟩ (fun k hk => by simp [Tm.kids] at hk) (fun i s hi => by simp [Tm.kids] at hi) (Nat.zero_le _))
    rw [hr1] at C
    refine C.mono fun e W' h => ?_
    obtain ⟨v, he, hb, hr⟩ := h
    obtain ⟨v0, v1, v2, v3, v4, v5, rfl⟩ := hr.junk
    exact ⟨v0, v1, v2, v3, v4, v5, he, hV.trans (hb.mono hV.size), hr.keep (fun _ _ => rfl) (fun g' h => by rcases h with h | h; exact ⟨by have := hb.size; omega, h.2⟩; exact ⟨h.2, by have := h.1; have := hV.size; omega⟩)⟩
  have CF : ∀ V : World, Below W2.heap.size W2 V → Calls Try.prog 9 #[.agg #[.int .u8 y0, .int .i64 y1, .string y2, .slice y3 y4 y5]] V fun e W' => e = .returned (.string ⟨(sfree b).toArray⟩) ∧ Below W2.heap.size W2 W' := fun V hV =>
    (free_c 4000 b w1.heap.size _ V (by omega) (Nat.le_refl _) (hrb.keep (fun g' h => (hV.block g' (by have := h.2; omega)).trans (hold g' h.2)) (fun g' h => h.2)) (by have := hV.size; omega) lg).mono fun e W' h => ⟨h.1, hV.trans (h.2.mono hV.size)⟩
  have LB : ∀ V : World, Below W2.heap.size W2 V → V.cell? ⟨P, 3, none⟩ = some (.slice (some ⟨g, 0, none⟩) t.kids.length cap) ∧ V.cell? ⟨g, m * 4, none⟩ = some (.int .u8 y0) ∧ V.cell? ⟨g, m * 4 + 1, none⟩ = some (.int .i64 y1) ∧ V.cell? ⟨g, m * 4 + 2, none⟩ = some (.string y2) ∧ V.cell? ⟨g, m * 4 + 3, none⟩ = some (.slice y3 y4 y5) ∧ Below W2.heap.size W2 V := fun V hV => by
    obtain ⟨_, _, _, a3, _⟩ := cells4 ((hV.block P (by omega)).trans hbox)
    obtain ⟨e0, e1, e2, e3⟩ := hcc V (hw12.trans (hV.mono (by omega)))
    exact ⟨a3, e0, e1, e2, e3, hV⟩
  have hP1 : w.heap.size ≤ P := by omega
  have hPz : P < W2.heap.size := by omega
  have hgP : g < P := by omega
  have KN : ∀ i s, t.kids.dropLast[i]? = some s → Rep (fun g' => g' < P) W2 s (four (fun j => (news[j]?).getD undef) i) := fun i s hs => (nw4 i s hs).keep (fun g' h => hold g' h.2) (fun g' h => by have := h.2; omega)
  have NC : ∀ j u, news[j]? = some u → W2.cell? ⟨g, j, none⟩ = some u := fun j u hu => (World.cell?_of_block (a := ⟨g, j, none⟩) (hold g (by omega))).trans (nw2 j u hu)
  obtain ⟨a0, a1, a2, a3, _⟩ := cells4 hbox
  obtain ⟨_, e0, e1, e2, e3, _⟩ := LB W2 (Below.refl _ _)
  have HKN := Lib.hid KN
  have HNC := Lib.hid NC
  have HB := Lib.hid hB
  have HBX := Lib.hid hbox
  have HN1 := Lib.hid nw1
  have HN3 := Lib.hid nw3
  have hRf : R.1.depth ≤ 4000 ∧ (parts R.1).length ≤ 1000000 ∧ R.1.good := ⟨by have := hRg.2.2; omega, by have := hRg.2.1; omega, hRg.1⟩
  have HR1 := Lib.hid hRf
  clear hRf
  have HR2 := Lib.hid hRk
  have HR3 := Lib.hid hRn
  have hRj1 : (kindOf R.1 : Int) = (kindOf t : Int) := by rw [hRi1]
  have hRj2 : (numOf R.1 : Int) = (numOf t : Int) := by rw [hRi2]
  have HR4 := Lib.hid hRj1
  have HR5 := Lib.hid hRj2
  have HDL := Lib.hid hdl
  have HO := Lib.hid hO
  have HR2' := Lib.hid hR2
  have HSW := Lib.hid hsw
  have HF3 := Lib.hid hF3
  have HF2 := Lib.hid hF2
  have HCASE := Lib.hid hcase
  clear hr1 hRg hRk hRn hRi1 hRi2 hRj1 hRj2 hdl hO hR2 hsw hF3 hF2 hcase nw1 nw2 nw3 nw4 hcc hrb hold hw12 hnew hB hbox KN NC hb hk hlast lg ld lp hn hm tg td tp
  generalize (kindOf t : Int) = kd at *
  generalize (numOf t : Int) = nu at *
  generalize bindsOf t = ns at *
  generalize t.kids.length = L at *
  go_wp2_with fail
  clear hW2
  have HI0 := hI0
  have hxyb : (x == y) = false := by rw [beq_eq_false_iff_ne]; exact hxy
  have hf2 : findI y ns < 0 := HF2.out hxy
  have hf2' : ¬ 0 ≤ findI y ns := by omega
  go_quiet ((first | (go_at_call 7; first | exact Calls.quiet_of_same (N1 _) | exact Calls.quiet_of_same (N2 _)) | (go_at_call 8; first | exact Calls.quiet_of_same (F1 _) | exact Calls.quiet_of_same (F2 _))))
  go_wp2_with fail
  have hHF := HF3.out
  by_cases hcz : cntF b y = 0
  rotate_left
  · have hf3 : 0 ≤ findI y (sfree b) := by
      have h2 : ¬ findI y (sfree b) < 0 := fun h => hcz (hHF.1 h)
      omega
    obtain rfl : O = none := by rw [HO.out, if_pos (.inl ⟨hxy, hcz⟩)]
    clear hHF
    go_region_held3 (fun w' => w'.cell? ⟨P, 3, none⟩ = some (.slice (some ⟨g, 0, none⟩) L cap) ∧ w'.cell? ⟨g, m * 4, none⟩ = some (.int .u8 y0) ∧ w'.cell? ⟨g, m * 4 + 1, none⟩ = some (.int .i64 y1) ∧ w'.cell? ⟨g, m * 4 + 2, none⟩ = some (.string y2) ∧ w'.cell? ⟨g, m * 4 + 3, none⟩ = some (.slice y3 y4 y5) ∧ Below W2.heap.size W2 w')
      (first | (refine LB _ ?_; (repeat' (first | assumption | exact Below.refl _ _ | refine ba ?_ _ | refine Below.drew ?_ | refine below_drewN ?_ _))))
      (first | (go_at_call 9; refine (CF _ ?_).mono ?_; (solve | (repeat' (first | assumption | exact Below.refl _ _ | refine ba ?_ _ | refine Below.drew ?_ | refine below_drewN ?_ _))); rintro e w5 ⟨rfl, hb5⟩) | (go_at_call 8; refine (F3 _).mono ?_; rintro e w6 ⟨rfl, rfl⟩))
    all_goals go_wp2_with fail
    all_goals go_ret2
    all_goals exact ⟨rfl, HB.out.trans (hb5.mono HB.out.size)⟩
  have hf3 : ¬ 0 ≤ findI y (sfree b) := by
    have h2 := hHF.2 hcz
    omega
  clear hHF
  go_cut [76] from 62 to 76 (fun v wx => v = .bool false ∧ Below W2.heap.size W2 wx)
  case first =>
    go_region_held3 (fun w' => w'.cell? ⟨P, 3, none⟩ = some (.slice (some ⟨g, 0, none⟩) L cap) ∧ w'.cell? ⟨g, m * 4, none⟩ = some (.int .u8 y0) ∧ w'.cell? ⟨g, m * 4 + 1, none⟩ = some (.int .i64 y1) ∧ w'.cell? ⟨g, m * 4 + 2, none⟩ = some (.string y2) ∧ w'.cell? ⟨g, m * 4 + 3, none⟩ = some (.slice y3 y4 y5) ∧ Below W2.heap.size W2 w')
      (first | (refine LB _ ?_; (repeat' (first | assumption | exact Below.refl _ _ | refine ba ?_ _ | refine Below.drew ?_ | refine below_drewN ?_ _))))
      (first | (go_at_call 9; refine (CF _ ?_).mono ?_; (solve | (repeat' (first | assumption | exact Below.refl _ _ | refine ba ?_ _ | refine Below.drew ?_ | refine below_drewN ?_ _))); rintro e w5 ⟨rfl, hb5⟩) | (go_at_call 8; refine (F3 _).mono ?_; rintro e w6 ⟨rfl, rfl⟩))
    all_goals (go_wp2_with fail; go_meet; exact ⟨by rw [decide_eq_false (by omega)], hb5⟩)
  case rest =>
  obtain ⟨rfl, hb5⟩ := hcut
  have hs5 := hb5.size
  obtain ⟨_, h50, h51, h52, h53, _⟩ := LB _ hb5
  rcases hgd : r1.2 with _ | _
  · rw [hgd] at CS
    obtain rfl : O = none := by rw [HO.out, if_pos (.inr (by rw [HR2'.out]; exact hgd))]
    go_wp2_with (go_at_call 10; refine (CS _ _ ?_ ?_ ?_).mono ?_; (solve | (repeat' (first | assumption | exact Below.refl _ _ | refine ba ?_ _ | refine Below.drew ?_ | refine below_drewN ?_ _))); (solve | omega); (solve | (simp; done) | (simp; omega)); rintro e w7 ⟨v0, v1, v2, v3, v4, v5, rfl, hb7, hr7⟩; obtain ⟨b0, b1, b2, b3, _⟩ := cells4 (box_far (o := tmO v0 v1 v2 v3 v4 v5) ((hb7.block P hPz).trans HBX.out)))
    go_ret2
    have hB7 := HB.out.trans (hb7.mono HB.out.size)
    exact ⟨rfl, hB7.alloc hB7.size _⟩
  · rw [hgd] at CS
    obtain rfl : O = some R.1 := by
      rw [HO.out, if_neg (fun e => ?_)]
      rcases e with ⟨_, e⟩ | e
      · exact e hcz
      · rw [HR2'.out, hgd] at e; cases e
    go_wp2_with (go_at_call 10; refine (CS _ _ ?_ ?_ ?_).mono ?_; (solve | (repeat' (first | assumption | exact Below.refl _ _ | refine ba ?_ _ | refine Below.drew ?_ | refine below_drewN ?_ _))); (solve | omega); (solve | (simp; done) | (simp; omega)); rintro e w7 ⟨v0, v1, v2, v3, v4, v5, rfl, hb7, hr7⟩; obtain ⟨b0, b1, b2, b3, _⟩ := cells4 (box_far (o := tmO v0 v1 v2 v3 v4 v5) ((hb7.block P hPz).trans HBX.out)))
    have hs7 := hb7.size
    have hB8 : Below W2.heap.size W2 (w7.alloc (tmO v0 v1 v2 v3 v4 v5)) := hb7.alloc hb7.size _
    have box8 : (w7.alloc (tmO v0 v1 v2 v3 v4 v5)).heap[P]? = some (tmO kd nu ⟨ns.toArray⟩ (some ⟨g, 0, none⟩) L cap) := (hB8.block P (by omega)).trans HBX.out
    have q8 := alloc_here w7 (tmO v0 v1 v2 v3 v4 v5)
    have hr8 : Rep (fun g' => g' < (w7.alloc (tmO v0 v1 v2 v3 v4 v5)).heap.size ∧ g' ≠ P) (w7.alloc (tmO v0 v1 v2 v3 v4 v5)) r1.1 (.agg #[.int .u8 v0, .int .i64 v1, .string v2, .slice v3 v4 v5]) := hr7.keep (fun g' h => alloc_far _ _ h.1) (fun g' h => ⟨by have := h.1; simp; omega, h.2⟩)
    have hz8 : (w7.alloc (tmO v0 v1 v2 v3 v4 v5)).heap.size = w7.heap.size + 1 := by simp
    obtain ⟨Q, hQ⟩ : ∃ Q, w7.heap.size = Q := ⟨_, rfl⟩
    rw [hQ] at q8 hz8 hs7
    clear hr7 hb7
    generalize w7.alloc (tmO v0 v1 v2 v3 v4 v5) = W8 at *
    clear b0 b1 b2 b3
    obtain ⟨c0, c1, c2, c3, f0, f1, f2, f3⟩ := cells4 box8
    go_loopw [13, 95] (fun tx ix wr => ∃ k : Nat, k ≤ ns.length ∧ ix = .int .i64 k ∧ tx = .string ⟨((swap ns x y).take k).toArray⟩ ∧ wr = W8) (fun _ ix _ => ns.length - (intOf ix).toNat)
    case atStart => exact ⟨0, Nat.zero_le _, rfl, by simp, rfl⟩
    case round =>
      obtain ⟨k, hk, rfl, rfl, rfl⟩ := hrel
      obtain ⟨T, hT⟩ : ∃ T, (swap ns x y).take k = T := ⟨_, rfl⟩
      have hTl : T.length ≤ 2 := by rw [← hT, List.length_take, HSW.out]; omega
      rw [hT]
      have HT := Lib.hid hT
      clear hT
      by_cases hlt : k < ns.length
      · obtain ⟨c, hc⟩ : ∃ c, ns[k]? = some c := ⟨_, List.getElem?_eq_getElem hlt⟩
        have hex := extract_one ns k c hc
        have hwi : IntKind.i64.wrap ((k : Int) + 1) = (k : Int) + 1 := by rw [IntKind.wrap_i64]; omega
        have hq1 : ¬ 9223372036854775807 < T.length + 1 := by omega
        have hI3 : (0 : Int) ≤ (k : Int) := by omega
        have hI4 : (k : Int) + 1 ≤ (ns.length : Int) := by omega
        have HS := Lib.hid (swap_snoc hc x y)
        have ha1 : (⟨T.toArray⟩ ++ ⟨#[c]⟩ : ByteArray) = ⟨(T ++ [c]).toArray⟩ := str_app2 T [c]
        have ha2 : (⟨T.toArray⟩ ++ ⟨#[y]⟩ : ByteArray) = ⟨(T ++ [y]).toArray⟩ := str_app2 T [y]
        clear hc
        by_cases hcx : c = x
        · subst hcx
          go_wp2_with fail
          exact ⟨⟨k + 1, by omega, by go_num, by rw [HS.out, HT.out, if_pos rfl], trivial⟩, by simp [intOf]; omega⟩
        · have hcx2 : (c == x) = false := by rw [beq_eq_false_iff_ne]; exact hcx
          go_wp2_with fail
          exact ⟨⟨k + 1, by omega, by go_num, by rw [HS.out, HT.out, if_neg hcx], trivial⟩, by simp [intOf]; omega⟩
      · obtain rfl : k = ns.length := by omega
        have hTs : T = swap ns x y := by rw [← HT.out]; exact List.take_of_length_le (by rw [HSW.out]; exact Nat.le_refl _)
        have HTS := Lib.hid hTs
        clear hTs HT
        have box9 : (wr.setCell ⟨P, 2, none⟩ (.string ⟨T.toArray⟩)).heap[P]? = some (tmO kd nu ⟨T.toArray⟩ (some ⟨g, 0, none⟩) L cap) := by simp [World.setCell, Array.getElem?_modify, box8]
        have far9 : ∀ g', g' ≠ P → (wr.setCell ⟨P, 2, none⟩ (.string ⟨T.toArray⟩)).heap[g']? = wr.heap[g']? := fun g' h => Below.heap_setCell _ _ _ _ (by simpa using h)
        have hz9 : (wr.setCell ⟨P, 2, none⟩ (.string ⟨T.toArray⟩)).heap.size = wr.heap.size := by simp [World.setCell]
        have hr9 : Rep (fun g' => g' < (wr.setCell ⟨P, 2, none⟩ (.string ⟨T.toArray⟩)).heap.size ∧ g' ≠ P) (wr.setCell ⟨P, 2, none⟩ (.string ⟨T.toArray⟩)) r1.1 (.agg #[.int .u8 v0, .int .i64 v1, .string v2, .slice v3 v4 v5]) := hr8.keep (fun g' h => far9 g' h.2) (fun g' h => ⟨by omega, h.2⟩)
        have K9 : ∀ i s, t.kids.dropLast[i]? = some s → Rep (fun g' => g' < (wr.setCell ⟨P, 2, none⟩ (.string ⟨T.toArray⟩)).heap.size ∧ g' ≠ P) (wr.setCell ⟨P, 2, none⟩ (.string ⟨T.toArray⟩)) s (four (fun j => (news[j]?).getD undef) i) := fun i s hs => (HKN.out i s hs).keep (fun g' h => (far9 g' (by omega)).trans (hB8.block g' (by omega))) (fun g' h => ⟨by omega, by omega⟩)
        have N9 : ∀ j u, news[j]? = some u → (wr.setCell ⟨P, 2, none⟩ (.string ⟨T.toArray⟩)).cell? ⟨g, j, none⟩ = some u := fun j u hu => (World.cell?_of_block (a := ⟨g, j, none⟩) ((far9 g (by omega)).trans (hB8.block g (by omega)))).trans (HNC.out j u hu)
        have hB9 : Below w.heap.size w (wr.setCell ⟨P, 2, none⟩ (.string ⟨T.toArray⟩)) := (HB.out.trans (hB8.mono HB.out.size)).setCell (p := ⟨P, 2, none⟩) hP1 _
        have Q9 : (wr.setCell ⟨P, 2, none⟩ (.string ⟨T.toArray⟩)).heap[Q]? = some (tmO v0 v1 v2 v3 v4 v5) := (far9 Q (by omega)).trans q8
        go_wp2_with fail
        clear far9 hr8 q8 box8 c0 c1 c2 c3 f0 f1 f2 f3
        rw [← hz9] at hz8
        generalize (wr.setCell ⟨P, 2, none⟩ (.string ⟨T.toArray⟩)) = W9 at *
        obtain ⟨p0, p1, p2, p3, g0, g1, g2, g3⟩ := cells4 box9
        obtain ⟨s0, s1, s2, s3, _⟩ := cells4 Q9
        have NV : ∀ V : World, Below W9.heap.size W9 V → ∀ j u, news[j]? = some u → V.cell? ((⟨g, 0, none⟩ : Addr).add j) = some u := fun V hV j u hu => by
          have e : (⟨g, 0, none⟩ : Addr).add j = ⟨g, j, none⟩ := by rw [Addr.add_lit, Nat.zero_add]
          rw [e]; exact (hV.cell (p := ⟨g, j, none⟩) (by show g < _; omega)).trans (N9 j u hu)
        have HR9 := Lib.hid hr9
        have HK9 := Lib.hid K9
        have HB9 := Lib.hid hB9
        have HX9 := Lib.hid box9
        clear hr9 K9 N9 hB9 box9 CS CF LB
        have own1 := lit_own W9 W9.heap.size (Nat.le_refl _)
        have own2 := fun o => (lit_own W9 W9.heap.size (Nat.le_refl _)).alloc o
        have own3 := fun o => lit_own (W9.alloc o) W9.heap.size (by simp)
        simp only [World.size_alloc] at own3
        have nb1 : P < W9.heap.size := by omega
        have nb2 : Q < W9.heap.size := by omega
        have nb3 : P < W9.heap.size + 1 := by omega
        have nb4 : Q < W9.heap.size + 1 := by omega
        have HQ9 := Lib.hid Q9
        have kp1 := fun o : Obj => (cells4 (box_far (o := o) HX9.out)).2.2.2.1
        have kp2 := fun o o' : Obj => (cells4 (box_far (o := o') (box_far (o := o) HX9.out))).2.2.2.1
        have kq0 := fun o : Obj => (cells4 (box_far (o := o) HQ9.out)).1
        have kq1 := fun o : Obj => (cells4 (box_far (o := o) HQ9.out)).2.1
        have kq2 := fun o : Obj => (cells4 (box_far (o := o) HQ9.out)).2.2.1
        have kq3 := fun o : Obj => (cells4 (box_far (o := o) HQ9.out)).2.2.2.1
        have kr0 := fun o o' : Obj => (cells4 (box_far (o := o') (box_far (o := o) HQ9.out))).1
        have kr1 := fun o o' : Obj => (cells4 (box_far (o := o') (box_far (o := o) HQ9.out))).2.1
        have kr2 := fun o o' : Obj => (cells4 (box_far (o := o') (box_far (o := o) HQ9.out))).2.2.1
        have kr3 := fun o o' : Obj => (cells4 (box_far (o := o') (box_far (o := o) HQ9.out))).2.2.2.1
        have HST := Lib.hid (show (⟨(namesOf R.1).toArray⟩ : ByteArray) = ⟨T.toArray⟩ by rw [HR3.out, HTS.out])
        have q6 : ∀ u ∈ [Value.int .u8 v0, .int .i64 v1, .string v2, .slice v3 v4 v5], u.oneCell' = true := by simp [Value.oneCell']
        have f7a := four_new W9 (.int .u8 v0) (.int .i64 v1) (.string v2) (.slice v3 v4 v5) 27
        have f7b := fun o => four_new (W9.alloc o) (.int .u8 v0) (.int .i64 v1) (.string v2) (.slice v3 v4 v5) 27
        simp only [World.size_alloc] at f7b
        clear Q9
        have TX := fun (W : World) (B : Nat) (v : Value) (hr : Rep (fun g' => g' < B) W R.1 v) (hB : B ≤ W.heap.size) => stext_c 4000 R.1 B v W HR1.out.1 (Nat.le_refl _) HR1.out.2.1 hr hB HR1.out.2.2
        clear hz8
        have hm4 : 0 + m ≤ maxLen := by unfold maxLen; omega
        have hm5 : (0 + m) * 56 ≤ 140737488355328 := by omega
        have hm6 : m + 1 ≤ maxLen := by unfold maxLen; omega
        have hm7 : (m + 1) * 56 ≤ 140737488355328 := by omega
        go_region_law (first
          | (refine step_append_row rfl (.tmp 120) (.tmp 124) 25 rfl W9.heap.size 27 i0 _ 4 56 Try.underlying25 hi hj0 hj1 hj2 rfl (by decide) (.slice (some ⟨W9.heap.size, 0, none⟩) 0 0) 0 [] ?_ ?_ ⟨g, 0, none⟩ m cap news ?_ HN1.out ?_ HN3.out hm4 hm5 ?_ ?_
             (solve | simp [Act.eval, Act.put])
             (solve | exact own1)
             (solve | simp [Act.eval, Act.put])
             (solve | (refine NV _ ?_; (repeat' (first | assumption | exact Below.refl _ _ | refine ba ?_ _ | refine Below.drew ?_ | refine below_drewN ?_ _))))
             (solve | simp | (simp; omega))
             intro r4 w4 hown4 hgrow4 hnil4 hwhere4
             simp only [Nat.zero_add, List.nil_append] at hown4
             obtain ⟨g4, c4, rfl, hg41, hg42⟩ := own_shape3 hown4 (fun e => by have := (hnil4.1 e).1; cases this)
             have hB4 : Below W9.heap.size W9 w4 := below_row (by (repeat' (first | assumption | exact Below.refl _ _ | refine ba ?_ _ | refine Below.drew ?_ | refine below_drewN ?_ _))) hgrow4 (by intro r hr; simp only [Value.ownBlock, Option.some.injEq] at hr; omega)
             have hs4 := hB4.size
             obtain ⟨z0, z1, z2, z3, _⟩ := cells4 ((hB4.block Q nb2).trans HQ9.out)
             clear hnil4 hwhere4)
          | (refine step_append_row rfl (.tmp 120) (.tmp 124) 25 rfl W9.heap.size 27 i0 _ 4 56 Try.underlying25 hi hj0 hj1 hj2 rfl (by decide) (.slice (some ⟨W9.heap.size, 0, none⟩) 0 0) 0 [] ?_ ?_ ⟨g, 0, none⟩ m cap news ?_ HN1.out ?_ HN3.out hm4 hm5 ?_ ?_
             (solve | simp [Act.eval, Act.put])
             (solve | exact own2 _)
             (solve | simp [Act.eval, Act.put])
             (solve | (refine NV _ ?_; (repeat' (first | assumption | exact Below.refl _ _ | refine ba ?_ _ | refine Below.drew ?_ | refine below_drewN ?_ _))))
             (solve | simp | (simp; omega))
             intro r4 w4 hown4 hgrow4 hnil4 hwhere4
             simp only [Nat.zero_add, List.nil_append] at hown4
             obtain ⟨g4, c4, rfl, hg41, hg42⟩ := own_shape3 hown4 (fun e => by have := (hnil4.1 e).1; cases this)
             have hB4 : Below W9.heap.size W9 w4 := below_row (by (repeat' (first | assumption | exact Below.refl _ _ | refine ba ?_ _ | refine Below.drew ?_ | refine below_drewN ?_ _))) hgrow4 (by intro r hr; simp only [Value.ownBlock, Option.some.injEq] at hr; omega)
             have hs4 := hB4.size
             obtain ⟨z0, z1, z2, z3, _⟩ := cells4 ((hB4.block Q nb2).trans HQ9.out)
             clear hnil4 hwhere4)
          | (refine step_append_row rfl (.tmp 120) (.tmp 124) 25 rfl W9.heap.size 27 i0 _ 4 56 Try.underlying25 hi hj0 hj1 hj2 rfl (by decide) (.slice (some ⟨W9.heap.size + 1, 0, none⟩) 0 0) 0 [] ?_ ?_ ⟨g, 0, none⟩ m cap news ?_ HN1.out ?_ HN3.out hm4 hm5 ?_ ?_
             (solve | simp [Act.eval, Act.put])
             (solve | exact own3 _)
             (solve | simp [Act.eval, Act.put])
             (solve | (refine NV _ ?_; (repeat' (first | assumption | exact Below.refl _ _ | refine ba ?_ _ | refine Below.drew ?_ | refine below_drewN ?_ _))))
             (solve | simp | (simp; omega))
             intro r4 w4 hown4 hgrow4 hnil4 hwhere4
             simp only [Nat.zero_add, List.nil_append] at hown4
             obtain ⟨g4, c4, rfl, hg41, hg42⟩ := own_shape3 hown4 (fun e => by have := (hnil4.1 e).1; cases this)
             have hB4 : Below W9.heap.size W9 w4 := below_row (by (repeat' (first | assumption | exact Below.refl _ _ | refine ba ?_ _ | refine Below.drew ?_ | refine below_drewN ?_ _))) hgrow4 (by intro r hr; simp only [Value.ownBlock, Option.some.injEq] at hr; omega)
             have hs4 := hB4.size
             obtain ⟨z0, z1, z2, z3, _⟩ := cells4 ((hB4.block Q nb2).trans HQ9.out)
             clear hnil4 hwhere4)
          | (refine step_append_row rfl (.tmp 125) (.tmp 127) 25 rfl W9.heap.size 27 i0 _ 4 56 Try.underlying25 hi hj0 hj1 hj2 rfl (by decide) (.slice (some ⟨g4, 0, none⟩) m c4) m news ?_ ?_ ⟨w4.heap.size, 0, none⟩ 1 1 [.int .u8 v0, .int .i64 v1, .string v2, .slice v3 v4 v5] ?_ rfl ?_ q6 hm6 hm7 ?_ ?_
             (solve | simp [Act.eval])
             (solve | exact hown4.alloc _)
             (solve | simp [Act.eval])
             (solve | exact four_new _ _ _ _ _ _)
             (solve | exact hs4 | (simp; omega))
             intro r5 w5 hown5 hgrow5 hnil5 hwhere5
             have hB5 : Below W9.heap.size W9 w5 := below_row (by (repeat' (first | assumption | exact Below.refl _ _ | refine ba ?_ _ | refine Below.drew ?_ | refine below_drewN ?_ _))) hgrow5 (by intro r hr; simp only [Value.ownBlock, Option.some.injEq] at hr; omega)
             obtain ⟨gl, cl, rfl, ⟨d0, d1, d2, d3, df⟩, RR, hBf, hzf⟩ := ren_done HB9.out hP1 nb1 HX9.out hB5 hown5 HN1.out HDL.out HK9.out HR9.out HR2.out HR4.out HR5.out HST.out
             clear hnil5 hwhere5 hgrow5 hown5)
          | (refine step_append_row rfl (.tmp 125) (.tmp 127) 25 rfl W9.heap.size 27 i0 _ 4 56 Try.underlying25 hi hj0 hj1 hj2 rfl (by decide) (.slice (some ⟨g4, 0, none⟩) m c4) m news ?_ ?_ ⟨W9.heap.size + 1, 0, none⟩ 1 1 [.int .u8 v0, .int .i64 v1, .string v2, .slice v3 v4 v5] ?_ rfl ?_ q6 hm6 hm7 ?_ ?_
             (solve | simp [Act.eval])
             (solve | exact hown4)
             (solve | simp [Act.eval])
             (solve | (intro j u hu; exact (hgrow4.cell_far _ (by rw [add_block]; simp; try omega) (by rw [add_block]; simp [Value.ownBlock])).trans (f7b _ j u hu)))
             (solve | exact hs4 | (simp; omega))
             intro r5 w5 hown5 hgrow5 hnil5 hwhere5
             have hB5 : Below W9.heap.size W9 w5 := below_row (by (repeat' (first | assumption | exact Below.refl _ _ | refine ba ?_ _ | refine Below.drew ?_ | refine below_drewN ?_ _))) hgrow5 (by intro r hr; simp only [Value.ownBlock, Option.some.injEq] at hr; omega)
             obtain ⟨gl, cl, rfl, ⟨d0, d1, d2, d3, df⟩, RR, hBf, hzf⟩ := ren_done HB9.out hP1 nb1 HX9.out hB5 hown5 HN1.out HDL.out HK9.out HR9.out HR2.out HR4.out HR5.out HST.out
             clear hnil5 hwhere5 hgrow5 hown5)
          | (refine step_append_row rfl (.tmp 125) (.tmp 127) 25 rfl W9.heap.size 27 i0 _ 4 56 Try.underlying25 hi hj0 hj1 hj2 rfl (by decide) (.slice (some ⟨g4, 0, none⟩) m c4) m news ?_ ?_ ⟨W9.heap.size, 0, none⟩ 1 1 [.int .u8 v0, .int .i64 v1, .string v2, .slice v3 v4 v5] ?_ rfl ?_ q6 hm6 hm7 ?_ ?_
             (solve | simp [Act.eval])
             (solve | exact hown4)
             (solve | simp [Act.eval])
             (solve | (intro j u hu; exact (hgrow4.cell_far _ (by rw [add_block]; simp; try omega) (by rw [add_block]; simp [Value.ownBlock])).trans ((World.cell?_alloc_lt _ _ _ (by rw [add_block]; simp)).trans (f7a j u hu))))
             (solve | exact hs4 | (simp; omega))
             intro r5 w5 hown5 hgrow5 hnil5 hwhere5
             have hB5 : Below W9.heap.size W9 w5 := below_row (by (repeat' (first | assumption | exact Below.refl _ _ | refine ba ?_ _ | refine Below.drew ?_ | refine below_drewN ?_ _))) hgrow5 (by intro r hr; simp only [Value.ownBlock, Option.some.injEq] at hr; omega)
             obtain ⟨gl, cl, rfl, ⟨d0, d1, d2, d3, df⟩, RR, hBf, hzf⟩ := ren_done HB9.out hP1 nb1 HX9.out hB5 hown5 HN1.out HDL.out HK9.out HR9.out HR2.out HR4.out HR5.out HST.out
             clear hnil5 hwhere5 hgrow5 hown5))
        all_goals clear hgrow4 hown4 z0 z1 z2 z3 hB4 hB5 own1 own2 own3 f7a f7b kp1 kp2 kq0 kq1 kq2 kq3 kr0 kr1 kr2 kr3
        all_goals go_wp2_with (go_at_call 11; refine (TX _ _ _ RR (by rw [hzf]; exact Nat.le_refl _)).mono ?_; rintro e w6 ⟨rfl, hb6⟩)
        all_goals go_ret2
        all_goals exact ⟨rfl, hBf.trans (hb6.mono hBf.size)⟩
end Go.Proofs.Ytcabmcpalgpfpaa
