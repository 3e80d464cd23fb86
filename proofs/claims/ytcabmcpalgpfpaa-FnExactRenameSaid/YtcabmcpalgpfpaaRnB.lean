import Derived.Test.YtcabmcpalgpfpaaRnA
import Derived.Deep.QuietTactic
import Derived.BigQuiet
/- The program's Rename. -/
namespace Go.Proofs.Ytcabmcpalgpfpaa
open Go.RowKit
open Ff
set_option linter.unusedVariables false
attribute [local irreducible] Calls

set_option maxRecDepth 100000 in
set_option maxHeartbeats 8000000 in
theorem iRename_c (s n m : Text) (w : World) (hl : s.length ≤ 9223372036854775807) (hl2 : n.length ≤ 9223372036854775807) (hl3 : m.length ≤ 9223372036854775807) :
    Calls Try.prog 5 #[.string ⟨s.toArray⟩, .string ⟨n.toArray⟩, .string ⟨m.toArray⟩] w fun e w' => e = .returned (.tuple #[.string ⟨(textO (renO s n m)).toArray⟩, .bool (renO s n m).isSome]) ∧ Below w.heap.size w w' := by
  have C1 := fun W => read_c s W hl
  have N1 := fun W => iName_c n W hl2
  have N2 := fun W => iName_c m W hl3
  simp only [← readS_eq] at C1
  obtain ⟨O, hO⟩ : ∃ O, O = renO s n m := ⟨_, rfl⟩
  rw [← hO]
  unfold renO at hO
  have hb0 := below_two w (.cells #[.string ⟨n.toArray⟩] 9) (.cells #[.string ⟨m.toArray⟩] 9)
  have hz0 : ((w.alloc (.cells #[.string ⟨n.toArray⟩] 9)).alloc (.cells #[.string ⟨m.toArray⟩] 9)).heap.size = w.heap.size + 2 := by simp
  have c0 : ((w.alloc (.cells #[.string ⟨n.toArray⟩] 9)).alloc (.cells #[.string ⟨m.toArray⟩] 9)).cell? ⟨w.heap.size, 0, none⟩ = some (.string ⟨n.toArray⟩) := by simp [go_sem]
  have c1 : ((w.alloc (.cells #[.string ⟨n.toArray⟩] 9)).alloc (.cells #[.string ⟨m.toArray⟩] 9)).cell? ⟨w.heap.size + 1, 0, none⟩ = some (.string ⟨m.toArray⟩) := by simp [go_sem]
  rcases hr : readS s with _ | t
  · rw [hr] at hO C1
    obtain rfl : O = none := hO
    clear hr c0 c1
    go_enter Try.func5, Try.ntmps5
    go_wp2_with fail
    generalize (w.alloc (.cells #[.string ⟨n.toArray⟩] 9)).alloc (.cells #[.string ⟨m.toArray⟩] 9) = W0 at *
    refine (C1 _).mono ?_
    clear C1
    rintro e w1 ⟨rfl, hb1⟩
    go_wp2_with fail
    go_ret2
    exact ⟨rfl, (hb0.trans (hb1.mono hb0.size)).alloc (by have := hb0.size; have := hb1.size; omega) _⟩
  · rw [hr] at hO C1
    obtain ⟨tg, td, tp⟩ := read_facts hr
    have hst := readS_text hr
    clear hr
    simp only [Option.bind_some] at hO
    have HO := Lib.hid hO
    clear hO
    obtain ⟨tn, tv, htv⟩ := enc_gen t
    have HTV := Lib.hid htv
    go_enter Try.func5, Try.ntmps5
    go_wp2_with fail
    generalize (w.alloc (.cells #[.string ⟨n.toArray⟩] 9)).alloc (.cells #[.string ⟨m.toArray⟩] 9) = W0 at *
    refine (C1 _).mono ?_
    clear C1
    rintro e w1 ⟨rfl, hb1⟩
    have hs0 := hb0.size
    have hs1 := hb1.size
    have k0 := (hb1.cell (p := ⟨w.heap.size, 0, none⟩) (by show w.heap.size < _; omega)).trans c0
    have k1 := (hb1.cell (p := ⟨w.heap.size + 1, 0, none⟩) (by show w.heap.size + 1 < _; omega)).trans c1
    have hA := (Below.refl w1.heap.size w1).alloc (Nat.le_refl _) (.cells #[.iface tn tv] 35)
    have e0 := (hA.cell (p := ⟨w.heap.size, 0, none⟩) (by show w.heap.size < _; omega)).trans k0
    have e1 := (hA.cell (p := ⟨w.heap.size + 1, 0, none⟩) (by show w.heap.size + 1 < _; omega)).trans k1
    have e2 : (w1.alloc (.cells #[.iface tn tv] 35)).cell? ⟨w1.heap.size, 0, none⟩ = some (.iface tn tv) := by simp [go_sem]
    have hz1 : (w1.alloc (.cells #[.iface tn tv] 35)).heap.size = w1.heap.size + 1 := by simp
    have hB1 : Below w.heap.size w (w1.alloc (.cells #[.iface tn tv] 35)) := (hb0.trans (hb1.mono hs0)).trans (hA.mono (by omega))
    rw [htv]
    clear c0 c1 k0 k1 hA htv hb0 hb1
    rcases hn : nameOf n with _ | x
    · rw [hn] at N1 HO
      obtain rfl : O = none := HO.out
      clear hn N2
      go_wp2_with (go_at_call 13; refine (N1 _).mono ?_; clear N1; rintro e w2 ⟨rfl, rfl⟩)
      go_ret2
      exact ⟨rfl, hB1⟩
    obtain ⟨rfl, hx⟩ := name_some hn
    rw [hn] at N1 HO
    simp only [Option.bind_some, Option.isSome_some] at N1 HO
    rcases hm : nameOf m with _ | y
    · rw [hm] at N2 HO
      obtain rfl : O = none := HO.out
      clear hn hm
      go_wp2_with (go_at_call 13; first | (refine (N1 _).mono ?_; rintro e w2 ⟨rfl, rfl⟩) | (refine (N2 _).mono ?_; rintro e w2 ⟨rfl, rfl⟩))
      go_ret2
      exact ⟨rfl, hB1⟩
    obtain ⟨rfl, hy⟩ := name_some hm
    rw [hm] at N2 HO
    simp only [Option.bind_some, Option.isSome_some] at N2 HO
    clear hn hm
    have KB := fun W => boundBy_c t tg W
    rw [HTV.out] at KB
    have B1 : BoxN w1.heap.size w.heap.size (w.heap.size + 1) (.iface tn tv) x y w (w1.alloc (.cells #[.iface tn tv] 35)) := ⟨e2, e0, e1, hB1⟩
    have HB1 := Lib.hid B1
    have hlen : (bindsOf t).length ≤ 2 := by cases t <;> simp [bindsOf]
    clear B1
    go_wp2_with (first | (go_at_call 13; first | (refine (N1 _).mono ?_; rintro e w2 ⟨rfl, rfl⟩) | (refine (N2 _).mono ?_; rintro e w2 ⟨rfl, rfl⟩)))
    refine (KB _).mono ?_; clear KB; rintro e w2 ⟨v, rfl, hsv, hb2⟩
    obtain ⟨an, rfl, hrow⟩ := hsv.row
    simp only [List.length_map]
    obtain ⟨f2, f0, f1, hB2⟩ := HB1.out.keep (by rw [hz1]; omega) (by rw [hz1]; omega) (by rw [hz1]; omega) hb2
    have hs2 := hb2.size
    rw [hz1] at hs2
    clear hsv e0 e1 e2 hB1 HB1 hb2 hz1 N1 N2
    have KX := containsB_c (bindsOf t) x an (bindsOf t).length w2 (by omega) hrow
    by_cases hxb : x ∈ bindsOf t
    rotate_left
    · obtain rfl : O = none := by rw [HO.out]; simp [hxb]
      rw [decide_eq_false hxb] at KX
      clear hxb HO
      go_wp2_with (go_at_call 15; refine KX.mono ?_; clear KX; rintro e w3 ⟨rfl, rfl⟩)
      go_ret2
      exact ⟨rfl, hB2⟩
    rw [decide_eq_true hxb] at KX
    by_cases hxy : x = y
    · subst hxy
      obtain rfl : O = some t := by rw [HO.out]; simp [hxb]
      clear HO hxb
      go_wp2_with (go_at_call 15; refine KX.mono ?_; clear KX; rintro e w3 ⟨rfl, rfl⟩)
      go_ret2
      rw [show textO (some t) = s from hst]
      exact ⟨rfl, hB2⟩
    have hxyb : (x == y) = false := by rw [beq_eq_false_iff_ne]; exact hxy
    go_wp2_with (go_at_call 15; refine KX.mono ?_; clear KX; rintro e w3 ⟨rfl, rfl⟩)
    have hbn : bindsOf t ≠ [] := by intro e; rw [e] at hxb; cases hxb
    have hk := binder_kids hbn
    have hml := lastK_mem hk
    have hdl : (lastK t).depth ≤ 24 := Nat.le_of_lt (Nat.lt_of_lt_of_le (kid_depth hml) td)
    have hgl : (lastK t).good := Tm.kid_good tg hml
    have hpl := parts_kid_le hml
    have KY := fun W (hR : RowAt W an ((bindsOf t).map bv)) => containsB_c (bindsOf t) y an (bindsOf t).length W (by omega) hR
    obtain ⟨bn, bw, hbw⟩ := enc_gen (lastK t)
    have d2 : w3.drew.cell? ⟨w1.heap.size, 0, none⟩ = some (.iface tn tv) := f2
    have d0 : w3.drew.cell? ⟨w.heap.size, 0, none⟩ = some (.string ⟨#[x]⟩) := f0
    have d1 : w3.drew.cell? ⟨w.heap.size + 1, 0, none⟩ = some (.string ⟨#[y]⟩) := f1
    have dr : RowAt w3.drew an ((bindsOf t).map bv) := hrow
    have dB : Below w3.heap.size w3 w3.drew := (Below.refl _ w3).drew
    by_cases hyb : y ∈ bindsOf t
    · obtain rfl : O = none := by rw [HO.out]; simp [hxb, hxy, hyb]
      simp only [decide_eq_true hyb] at KY
      clear hyb hxb HO hbw
      go_quiet ((go_at_call 15; exact Calls.quiet_of_same (KY _ dr)))
      all_goals go_wp2_with fail
      all_goals go_ret2
      all_goals exact ⟨rfl, hB2.trans ⟨rfl, rfl, rfl, Nat.le_refl _, fun _ _ => rfl⟩⟩
    simp only [decide_eq_false hyb] at KY
    have HB3 := Lib.hid (show BoxN w1.heap.size w.heap.size (w.heap.size + 1) (.iface tn tv) x y w w3 from ⟨f2, f0, f1, hB2⟩)
    have KL : ∀ W, Below w3.heap.size w3 W → W.cell? ⟨w1.heap.size, 0, none⟩ = some (.iface tn tv) ∧ W.cell? ⟨w.heap.size, 0, none⟩ = some (.string ⟨#[x]⟩) ∧ W.cell? ⟨w.heap.size + 1, 0, none⟩ = some (.string ⟨#[y]⟩) := fun W hW =>
      have h := HB3.out.keep (by omega) (by omega) (by omega) hW
      ⟨h.1, h.2.1, h.2.2.1⟩
    have HKL := Lib.hid KL
    have KG : ∀ W, Below w3.heap.size w3 W → Calls Try.prog 17 #[.iface tn tv] W fun e W' => e = .returned (.iface bn bw) ∧ W'.cell? ⟨w1.heap.size, 0, none⟩ = some (.iface tn tv) ∧ W'.cell? ⟨w.heap.size, 0, none⟩ = some (.string ⟨#[x]⟩) ∧ W'.cell? ⟨w.heap.size + 1, 0, none⟩ = some (.string ⟨#[y]⟩) ∧ Below w3.heap.size w3 W' := fun W hW => by
      have K := bodyOf_c t hk W
      rw [HTV.out, hbw] at K
      refine K.mono fun e W' ⟨h1, h2⟩ => ?_
      have hT := hW.trans (h2.mono hW.size)
      exact ⟨h1, (HKL.out W' hT).1, (HKL.out W' hT).2.1, (HKL.out W' hT).2.2, hT⟩
    obtain ⟨M, hM⟩ : ∃ M, M = cntF (lastK t) y := ⟨_, rfl⟩
    have KF : ∀ W, Below w3.heap.size w3 W → Calls Try.prog 16 #[.iface bn bw] W fun e W' => ∃ b, e = .returned (.map (some b)) ∧ ((Instr.lookup 42 (.map (some b)) (.int .u8 (y.toNat : Int)) false).run Try.prog W' = .ok (.int .i64 (M : Int)) W') ∧ W'.cell? ⟨w1.heap.size, 0, none⟩ = some (.iface tn tv) ∧ W'.cell? ⟨w.heap.size, 0, none⟩ = some (.string ⟨#[x]⟩) ∧ W'.cell? ⟨w.heap.size + 1, 0, none⟩ = some (.string ⟨#[y]⟩) ∧ Below w3.heap.size w3 W' := fun W hW => by
      have K := freeIn_c 4000 (lastK t) W (by omega) (by omega) (by omega) hgl
      rw [hbw] at K
      refine K.mono fun e W' ⟨b, k, h1, _, _, hT, h2⟩ => ?_
      have hTW := hW.trans (h2.mono hW.size)
      exact ⟨b, h1, by rw [hM]; exact hT.look y, (HKL.out W' hTW).1, (HKL.out W' hTW).2.1, (HKL.out W' hTW).2.2, hTW⟩
    have KO : ∀ W, Below w3.heap.size w3 W → Calls Try.prog 18 #[.func (.func 19) #[] #[.pointer (some ⟨w1.heap.size, 0, none⟩), .pointer (some ⟨w.heap.size, 0, none⟩), .pointer (some ⟨w.heap.size + 1, 0, none⟩)]] W (PutPost W (renT t x y)) := fun W hW =>
      orShortR_c (renT t x y) _ _ _ W fun W' hW' => by
        have hs := hW.size
        have hT := hW.trans (hW'.mono hs)
        have hs' := hT.size
        have h := HKL.out W' hT
        exact rename1_c x y t w1.heap.size w.heap.size (w.heap.size + 1) w W' td tg (by omega) hxb hy (by omega) (by omega) (by omega) ⟨by rw [HTV.out]; exact h.1, h.2.1, h.2.2, hB2.trans (hT.mono hB2.size)⟩
    have HXB := Lib.hid hxb
    have HYB := Lib.hid hyb
    clear KL hbw hxb hyb
    have hmf : ∀ (fn : Fn) (first cap : Array Value) (w : World), (Instr.makeFunc fn first cap).run Try.prog w = .ok (.func fn first cap) w := fun _ _ _ _ => rfl
    by_cases hc0 : M = 0
    rotate_left
    · obtain rfl : O = none := by rw [HO.out]; simp [HXB.out, hxy, HYB.out, ← hM, hc0]
      have hc1 : (0 : Int) < (M : Int) := by omega
      clear hM HO KO
      go_region_held3 (fun w' => w'.cell? ⟨w1.heap.size, 0, none⟩ = some (.iface tn tv) ∧ w'.cell? ⟨w.heap.size, 0, none⟩ = some (.string ⟨#[x]⟩) ∧ w'.cell? ⟨w.heap.size + 1, 0, none⟩ = some (.string ⟨#[y]⟩) ∧ Below w3.heap.size w3 w')
        (first | go_keep | refine ⟨?_, ?_, ?_, ?_⟩ <;> assumption)
        (first | (go_at_call 15; refine (KY _ dr).mono ?_; rintro e w5 ⟨rfl, rfl⟩) | (go_at_call 17; refine (KG _ ?_).mono ?_; assumption; rintro e w6 ⟨rfl, m2, m0, m1, mB⟩) | (go_at_call 16; refine (KF _ ?_).mono ?_; assumption; rintro e w7 ⟨b, rfl, hlook, n2, n0, n1, nB⟩; have hlook2 : (Instr.lookup 42 (.map (some b)) (.int .u8 (((⟨#[y]⟩ : ByteArray)[0]'(by simp [ByteArray.size])).toNat : Int)) false).run Try.prog w7 = .ok (.int .i64 (M : Int)) w7 := hlook))
      all_goals go_wp2_with fail
      all_goals go_ret2
      all_goals exact ⟨rfl, hB2.trans (nB.mono hB2.size)⟩
    subst hc0
    have hO2 : O = if (renT t x y).2 = true then some (renT t x y).1 else none := by rw [HO.out]; simp [HXB.out, hxy, HYB.out, ← hM]
    obtain ⟨g1, g2, g3⟩ := renT_ok tg hbn (x := x) hy HYB.out
    clear hM HO
    generalize renT t x y = r at *
    have KT := text_c 4000 r.1 (by omega) g1 (by omega)
    go_region_held3 (fun w' => w'.cell? ⟨w1.heap.size, 0, none⟩ = some (.iface tn tv) ∧ w'.cell? ⟨w.heap.size, 0, none⟩ = some (.string ⟨#[x]⟩) ∧ w'.cell? ⟨w.heap.size + 1, 0, none⟩ = some (.string ⟨#[y]⟩) ∧ Below w3.heap.size w3 w')
      (first | go_keep | refine ⟨?_, ?_, ?_, ?_⟩ <;> assumption)
      (first | (go_at_call 15; refine (KY _ dr).mono ?_; rintro e w5 ⟨rfl, rfl⟩) | (go_at_call 17; refine (KG _ ?_).mono ?_; assumption; rintro e w6 ⟨rfl, m2, m0, m1, mB⟩) | (go_at_call 16; refine (KF _ ?_).mono ?_; assumption; rintro e w7 ⟨b, rfl, hlook, n2, n0, n1, nB⟩; have hlook2 : (Instr.lookup 42 (.map (some b)) (.int .u8 (((⟨#[y]⟩ : ByteArray)[0]'(by simp [ByteArray.size])).toNat : Int)) false).run Try.prog w7 = .ok (.int .i64 0) w7 := hlook))
    all_goals
      clear KF KG KY
      cases hr : r.2
      · obtain rfl : O = none := by rw [hO2]; simp [hr]
        have HR := Lib.hid hr
        clear hr KT hO2
        go_wp2_with (go_at_call 18; refine (KO _ nB).mono ?_; clear KO; rintro e w8 ⟨h8, hb8⟩; obtain rfl : e = .returned (.tuple #[.nilIface, .bool false]) := (by rcases h8 with ⟨h8, _⟩ | ⟨_, h8⟩; (rw [HR.out] at h8; cases h8); exact h8); clear h8)
        go_ret2
        exact ⟨rfl, hB2.trans ((nB.trans (hb8.mono nB.size)).mono hB2.size)⟩
      · obtain rfl : O = some r.1 := by rw [hO2]; simp [hr]
        have HR := Lib.hid hr
        clear hr hO2
        go_wp2_with (first
          | (go_at_call 18; refine (KO _ nB).mono ?_; clear KO; rintro e w8 ⟨h8, hb8⟩; obtain rfl : e = .returned (.tuple #[.iface (ty r.1) (pl r.1), .bool true]) := (by rcases h8 with ⟨_, h8⟩ | ⟨h8, _⟩; (rw [h8, enc_ty]); (rw [HR.out] at h8; cases h8)); clear h8)
          | (refine wpList_invoke rfl _ _ (ty r.1) (pl r.1) rfl rfl (tf r.1) (text_m r.1 _ (by unfold TextName; kernel_rfl) _) (text_f r.1 _) (fun rv w' => rv = .string ⟨(textN r.1).toArray⟩ ∧ Below w.heap.size w w') ((KT w8).mono fun e w' ⟨h1, h2⟩ => ⟨_, h1, rfl, (hB2.trans ((nB.trans (hb8.mono nB.size)).mono hB2.size)).trans (h2.mono (by have := hB2.size; have := nB.size; have := hb8.size; omega))⟩) ?_; rintro rv w9 ⟨rfl, hb9⟩))
        go_ret2
        exact ⟨rfl, hb9⟩
end Go.Proofs.Ytcabmcpalgpfpaa
