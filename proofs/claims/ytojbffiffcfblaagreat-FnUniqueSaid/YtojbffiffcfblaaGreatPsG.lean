import Derived.Test.YtojbffiffcfblaaGreatPsF
import Derived.Test.YtojbffiffcfblaaGreatPsN
import Derived.Test.YtojbffiffcfblaaGreatPuW
import Derived.Test.YtojbffiffcfblaaGreatMTx
import Derived.Test.YtojbffiffcfblaaGreatMSc
import Derived.Test.YtojbffiffcfblaaGreatMCl
/- The specification's putting, at every term; Put. -/
namespace Go.Proofs.YtojbffiffcfblaaGreat
open Go.RowKit
open Ff
set_option linter.unusedVariables false

theorem subst_c : ∀ n, SubSC n
  | 0 => fun _ _ t _ _ _ _ hd => absurd hd (by have := t.depth_pos; omega)
  | n + 1 => by
    intro S x t u vt vu w hd hn hg hu hud hp hx hS hrt hru
    have ih := subst_c n
    by_cases hk : t.kids = []
    · cases t with
      | num m => exact subst_num n m S x u vt vu w hS hrt hru
      | var c => exact subst_var n c S x u vt vu w hS hrt hru
      | _ => simp [Tm.kids] at hk
    · by_cases hb : bindsOf t = []
      · exact subst_plain n ih S x t u vt vu w hd hn hg hu hud hp hx hS hrt hru hk hb
      · exact subst_binds n ih S x t u vt vu w hd hn hg hu hud hp hx hS hrt hru hb
theorem fits_read {t : Tm} (hg : t.good) : (readS (textN t)).isSome = fitsT t := by
  unfold fitsT
  rcases hr : readS (textN t) with _ | t'
  · rw [Option.isSome_none, eq_comm, Bool.and_eq_false_iff, decide_eq_false_iff_not, decide_eq_false_iff_not]
    apply Classical.byContradiction
    intro h
    simp only [not_or, Classical.not_not] at h
    rw [text_readS hg h.2 h.1] at hr
    cases hr
  · obtain ⟨r, h1, rfl, hlen⟩ := readS_some hr
    have e : t' = t := by
      have h2 := text_parse t hg (t.depth + t'.depth + (textN t).length) [] (by omega)
      rw [List.append_nil] at h2
      have h3 := (parse_any _ _ _ _ h1).2 (t.depth + t'.depth + (textN t).length) (by have := (parse_any _ _ _ _ h1).1; omega)
      rw [h2] at h3
      simp at h3
      exact h3.symm
    subst e
    have h2 := parse_depth _ _ _ _ h1
    simp [hlen, h2]
set_option maxRecDepth 100000 in
set_option maxHeartbeats 1000000 in
theorem fits_c (t : Tm) (B : Nat) (v : Value) (w : World) (hd : t.depth ≤ 4000) (hp : (parts t).length ≤ 1000000) (hrep : Rep (fun g => g < B) w t v) (hB : B ≤ w.heap.size) (hg : t.good) :
    Calls Tryz.prog 39 #[v] w fun e w' => e = .returned (.bool (fitsT t)) ∧ Below w.heap.size w w' := by
  have hl := text_len t
  have KV := fun w' => sTermValid_c (textN t) w' (by omega)
  rw [fits_read hg] at KV
  obtain ⟨k, n, st, aa, l, c, rfl⟩ := hrep.junk
  have hb0 := (Below.refl _ w).alloc (Nat.le_refl _) (tmO k n st aa l c)
  have KT := stext_c 4000 t B _ (w.alloc (tmO k n st aa l c)) hd (Nat.le_refl _) hp (hrep.keep (fun g hg => hb0.block g (by omega)) (fun g hg => hg)) (by simp; omega) hg
  go_enter Tryz.func39, Tryz.ntmps39
  go_wp2_with (first
    | (go_at_call 28; refine KT.mono ?_; clear KT; rintro e w2 ⟨rfl, hb2⟩)
    | (go_at_call 67; refine (KV _).mono ?_; clear KV; rintro e w3 ⟨rfl, hb3⟩))
  go_ret
  exact ⟨rfl, (hb0.trans (hb2.mono (by simp))).trans (hb3.mono (by have := hb2.size; simp at this; omega))⟩
theorem Rep.low {S : Nat → Prop} {w : World} {t : Tm} {v : Value} {B : Nat} (h : Rep S w t v) (hS : ∀ g, S g → g < B) : Rep (fun g => g < B) w t v := h.keep (fun _ _ => rfl) (fun g hg => hS g hg)
theorem box_far {W : World} {b : Nat} {z0 z1 z2 z3 : Value} {t : TypeId} {o : Obj} (h : W.heap[b]? = some (.cells #[z0, z1, z2, z3] t (0, 0))) : (W.alloc o).heap[b]? = some (.cells #[z0, z1, z2, z3] t (0, 0)) := by
  rw [alloc_far _ _ (Array.getElem?_eq_some_iff.1 h).1]; exact h
set_option maxRecDepth 100000 in
set_option maxHeartbeats 4000000 in
theorem sPut_c (s n s2 : Text) (w : World) (hl : s.length ≤ 9223372036854775807) (hl2 : n.length ≤ 9223372036854775807) (hl3 : s2.length ≤ 9223372036854775807) :
    Calls Tryz.prog 14 #[.string ⟨s.toArray⟩, .string ⟨n.toArray⟩, .string ⟨s2.toArray⟩] w fun e w' => e = .returned (.tuple #[.string ⟨(textO (putO s n s2)).toArray⟩, .bool (putO s n s2).isSome]) ∧ Below w.heap.size w w' := by
  have C1 := sread_c s w hl
  have C2 := fun w' => sread_c s2 w' hl3
  have N := fun w' => sName_c n w' hl2
  obtain ⟨O, hO⟩ : ∃ O, O = putO s n s2 := ⟨_, rfl⟩
  rw [← hO]
  unfold putO at hO
  rcases hr : readS s with _ | t
  · rw [hr] at hO C1
    obtain rfl : O = none := hO
    clear hr
    go_enter Tryz.func14, Tryz.ntmps14
    go_wp2_with fail
    refine C1.mono ?_
    clear C1
    rintro e w1 ⟨rfl, hb1⟩
    unfold zeroTm
    go_wp2_with fail
    refine (C2 _).mono ?_
    clear C2
    rcases hr2 : readS s2 with _ | u
    · clear hr2
      rintro e w2 ⟨rfl, hb2⟩
      unfold zeroTm
      have hB : Below w.heap.size w w2 := (hb1.alloc hb1.size _).trans (hb2.mono (by have := hb1.size; simp; omega))
      go_wp2_with fail
      go_ret2
      exact ⟨rfl, hB.alloc hB.size _⟩
    · clear hr2
      rintro e w2 ⟨v2, rfl, hb2, hrep2⟩
      obtain ⟨y0, y1, y2, y3, y4, y5, rfl⟩ := hrep2.junk
      have hB : Below w.heap.size w w2 := (hb1.alloc hb1.size _).trans (hb2.mono (by have := hb1.size; simp; omega))
      go_wp2_with fail
      go_ret2
      exact ⟨rfl, hB.alloc hB.size _⟩
  · rw [hr] at hO C1
    obtain ⟨tg, td, tp⟩ := read_facts hr
    clear hr
    simp only [Option.bind_some] at hO
    have HO := Lib.hid hO
    clear hO
    go_enter Tryz.func14, Tryz.ntmps14
    go_wp2_with fail
    refine C1.mono ?_
    clear C1
    rintro e w1 ⟨v1, rfl, hb1, hrep1⟩
    obtain ⟨x0, x1, x2, x3, x4, x5, rfl⟩ := hrep1.junk
    have z1 := alloc_here w1 (tmO x0 x1 x2 x3 x4 x5)
    have hs1 := hb1.size
    go_wp2_with fail
    refine (C2 _).mono ?_
    clear C2
    rcases hr2 : readS s2 with _ | u
    · have hO := HO.out
      rw [hr2] at hO
      obtain rfl : O = none := hO
      clear hr2
      rintro e w2 ⟨rfl, hb2⟩
      unfold zeroTm
      have hB : Below w.heap.size w w2 := (hb1.alloc hb1.size _).trans (hb2.mono (by have := hb1.size; simp; omega))
      clear HO
      go_wp2_with fail
      go_ret2
      exact ⟨rfl, hB.alloc hB.size _⟩
    · have hO := HO.out
      rw [hr2] at hO
      simp only [Option.bind_some] at hO
      obtain ⟨ug, ud, up⟩ := read_facts hr2
      clear hr2 HO
      rintro e w2 ⟨v2, rfl, hb2, hrep2⟩
      obtain ⟨y0, y1, y2, y3, y4, y5, rfl⟩ := hrep2.junk
      have hs2 : w1.heap.size + 1 ≤ w2.heap.size := by have := hb2.size; simpa using this
      have hB : Below w.heap.size w w2 := (hb1.alloc hb1.size _).trans (hb2.mono (by simp; omega))
      have z1' := (hb2.block w1.heap.size (by simp)).trans z1
      have z2 := alloc_here w2 (tmO y0 y1 y2 y3 y4 y5)
      obtain ⟨a0, a1, a2, a3, _⟩ := cells4 (box_far (o := tmO y0 y1 y2 y3 y4 y5) z1')
      have hR1 : Rep (fun g => g < w2.heap.size) (w2.alloc (tmO y0 y1 y2 y3 y4 y5)) t (.agg #[.int .u8 x0, .int .i64 x1, .string x2, .slice x3 x4 x5]) := hrep1.keep (fun g hg => by have := hg.2; exact (alloc_far _ _ (by omega)).trans ((hb2.block g (by simp; omega)).trans (alloc_far _ _ hg.2))) (fun g hg => by have := hg.2; omega)
      have hR2 : Rep (fun g => g < w2.heap.size) (w2.alloc (tmO y0 y1 y2 y3 y4 y5)) u (.agg #[.int .u8 y0, .int .i64 y1, .string y2, .slice y3 y4 y5]) := hrep2.keep (fun g hg => alloc_far _ _ hg.2) (fun g hg => hg.2)
      have hB2 := hB.alloc hB.size (tmO y0 y1 y2 y3 y4 y5)
      clear hrep1 hrep2 z1 z1' hb1 hb2
      rcases hn : nameOf n with _ | x
      · rw [hn] at hO N
        obtain rfl : O = none := hO
        clear hn
        go_wp2_with (go_at_call 37; refine (N _).mono ?_; clear N; rintro e w3 ⟨rfl, rfl⟩)
        go_ret2
        exact ⟨rfl, hB2⟩
      · rw [hn] at hO N
        simp only [Option.bind_some] at hO
        obtain ⟨rfl, hx⟩ := name_some hn
        clear hn
        have KS := subst_c t.depth (fun g => g < w2.heap.size) x t u _ _ _ (Nat.le_refl _) (by omega) tg ug (by omega) (by omega) hx (fun g hg => by simp; omega) hR1 hR2
        have G := subS_grown ug t.depth x t
        have g1 := G.many
        have g2 := G.deep
        have g3 := G.good tg
        have g4 : (parts t).length * (parts u).length ≤ 120 * 120 := Nat.mul_le_mul tp up
        generalize subS t.depth x u t = r at *
        obtain ⟨r1, r2⟩ := r
        simp only at g1 g2 g3 hO KS
        have CA : ∀ W (q0 q1 : Int) (q2 : ByteArray) (q3 : Option Addr) (q4 q5 : Nat), Rep (fun g => g < W.heap.size) W r1 (.agg #[.int .u8 q0, .int .i64 q1, .string q2, .slice q3 q4 q5]) → ∀ W', Below W.heap.size W W' →
            Calls Tryz.prog 39 #[.agg #[.int .u8 q0, .int .i64 q1, .string q2, .slice q3 q4 q5]] W' (fun e w' => e = .returned (.bool (fitsT r1)) ∧ Below W'.heap.size W' w') ∧
            Calls Tryz.prog 28 #[.agg #[.int .u8 q0, .int .i64 q1, .string q2, .slice q3 q4 q5]] W' (fun e w' => e = .returned (.string ⟨(textN r1).toArray⟩) ∧ Below W'.heap.size W' w') := fun W q0 q1 q2 q3 q4 q5 hR W' hW =>
          have hR' := hR.keep (fun g hg => hW.block g hg) (fun g hg => hg)
          ⟨fits_c r1 W.heap.size _ W' (by omega) (by omega) hR' hW.size g3, stext_c 4000 r1 W.heap.size _ W' (by omega) (Nat.le_refl _) (by omega) hR' hW.size g3⟩
        clear hR1 hR2 G
        have HB2 := Lib.hid hB2
        have HB := Lib.hid hB
        cases r2
        · obtain rfl : O = none := by rw [hO]; simp
          clear CA
          go_wp2_with (first
            | (go_at_call 37; refine (N _).mono ?_; clear N; rintro e w3 ⟨rfl, rfl⟩)
            | (go_at_call 38; refine KS.mono ?_; clear KS; rintro e w4 ⟨v3, rfl, hb4, hrep4⟩; obtain ⟨q0, q1, q2, q3, q4, q5, rfl⟩ := hrep4.junk))
          go_ret2
          have hB4 : Below w.heap.size w w4 := HB2.out.trans (hb4.mono HB2.out.size)
          exact ⟨rfl, hB4.alloc hB4.size _⟩
        · cases hft : fitsT r1
          · obtain rfl : O = none := by rw [hO]; simp [hft]
            simp only [hft] at CA
            clear hft
            go_wp2_with (first
              | (go_at_call 37; refine (N _).mono ?_; clear N; rintro e w3 ⟨rfl, rfl⟩)
              | (go_at_call 38; refine KS.mono ?_; clear KS; rintro e w4 ⟨v3, rfl, hb4, hrep4⟩; obtain ⟨q0, q1, q2, q3, q4, q5, rfl⟩ := hrep4.junk
                 have hB4 : Below w.heap.size w w4 := HB2.out.trans (hb4.mono HB2.out.size)
                 have tw : Below w4.heap.size w4 (w4.alloc (tmO q0 q1 q2 q3 q4 q5)) := (Below.refl _ _).alloc (Nat.le_refl _) _
                 have C := (CA w4 q0 q1 q2 q3 q4 q5 (hrep4.keep (fun _ _ => rfl) (fun g hg => by rcases hg with hg | hg; (have := hb4.size; simp at this; omega); exact hg.2)) _ tw).1
                 clear hrep4 CA)
              | (go_at_call 39; refine C.mono ?_; clear C; rintro e w5 ⟨rfl, hb5⟩))
            go_ret2
            exact ⟨rfl, (hB4.alloc hB4.size (tmO q0 q1 q2 q3 q4 q5)).trans (hb5.mono (hB4.alloc hB4.size (tmO q0 q1 q2 q3 q4 q5)).size)⟩
          · obtain rfl : O = some r1 := by rw [hO]; simp [hft]
            simp only [hft] at CA
            clear hft hO
            go_wp2_with (first
              | (go_at_call 37; refine (N _).mono ?_; clear N; rintro e w3 ⟨rfl, rfl⟩)
              | (go_at_call 38; refine KS.mono ?_; clear KS; rintro e w4 ⟨v3, rfl, hb4, hrep4⟩; obtain ⟨q0, q1, q2, q3, q4, q5, rfl⟩ := hrep4.junk
                 have hB4 : Below w.heap.size w w4 := HB2.out.trans (hb4.mono HB2.out.size)
                 have tw : Below w4.heap.size w4 (w4.alloc (tmO q0 q1 q2 q3 q4 q5)) := (Below.refl _ _).alloc (Nat.le_refl _) _
                 have z4 := alloc_here w4 (tmO q0 q1 q2 q3 q4 q5)
                 replace CA := CA w4 q0 q1 q2 q3 q4 q5 (hrep4.keep (fun _ _ => rfl) (fun g hg => by rcases hg with hg | hg; (have := hb4.size; simp at this; omega); exact hg.2))
                 have C := (CA _ tw).1
                 have D := fun W h => (CA W h).2
                 clear hrep4 CA)
              | (go_at_call 39; refine C.mono ?_; clear C; rintro e w5 ⟨rfl, hb5⟩; obtain ⟨b0, b1, b2, b3, _⟩ := cells4 ((hb5.block w4.heap.size (by simp)).trans z4))
              | (go_at_call 28; refine (D _ (tw.trans (hb5.mono (by simp)))).mono ?_; clear D; rintro e w6 ⟨rfl, hb6⟩))
            go_ret2
            have hB5 := hB4.alloc hB4.size (tmO q0 q1 q2 q3 q4 q5)
            exact ⟨rfl, (hB5.trans (hb5.mono hB5.size)).trans (hb6.mono (by have := hB5.size; have := hb5.size; omega))⟩
end Go.Proofs.YtojbffiffcfblaaGreat
