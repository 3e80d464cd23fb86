import Derived.Test.YtojbffiffcfblaaGreatMPs
/- The specification's putting: a node that binds nothing. -/
namespace Go.Proofs.YtojbffiffcfblaaGreat
open Go.RowKit
open Ff
set_option linter.unusedVariables false

theorem grown_below {w w' : World} (h : Below w.heap.size w w') (row : Option Nat) : w.grownBy w' row := ⟨h.os, h.tape, h.output, h.size, fun k hk _ => h.block k hk⟩
/-- A round's call. -/
theorem kid_sub (n : Nat) (ih : SubSC n) (S : Nat → Prop) (x : UInt8) (s u : Tm) (vs vu : Value) (w W : World) (hS : ∀ g, S g → g < w.heap.size) (hW : Below w.heap.size w W) (hd : s.depth ≤ n) (hn : n ≤ 4000) (hgs : s.good) (hgu : u.good) (hud : u.depth ≤ 4000) (hps : (parts s).length ≤ 1000000) (hx : isNam x = true) (hrs : Rep S w s vs) (hru : Rep S w u vu) :
    Calls Tryz.prog 38 #[vs, .string ⟨([x] : Text).toArray⟩, vu] W fun e W' => ∃ (v0 v1 : Int) (v2 : ByteArray) (v3 : Option Addr) (v4 v5 : Nat), e = .returned (.tuple #[.agg #[.int .u8 v0, .int .i64 v1, .string v2, .slice v3 v4 v5], .bool (subS n x u s).2]) ∧ Below W.heap.size W W' ∧
      Rep (fun g => S g ∨ New W W' g) W' (subS n x u s).1 (.agg #[.int .u8 v0, .int .i64 v1, .string v2, .slice v3 v4 v5]) :=
  (ih S x s u vs vu W hd hn hgs hgu hud hps hx (fun g hg => by have := hS g hg; have := hW.size; omega) (hrs.keep (fun g hg => hW.block g (hS g hg)) (fun g hg => hg)) (hru.keep (fun g hg => hW.block g (hS g hg)) (fun g hg => hg))).mono fun e W' h => by
    obtain ⟨v, he, hb, hr⟩ := h
    obtain ⟨v0, v1, v2, v3, v4, v5, rfl⟩ := hr.junk
    exact ⟨v0, v1, v2, v3, v4, v5, he, hb, hr⟩
/-- A kid's cells. -/
theorem kid_cells {S : Nat → Prop} {w : World} {t s : Tm} {g : Nat} {c : Nat → Value} {k : Nat} (hgS : g < w.heap.size) (hc : ∀ k, k < 4 * t.kids.length → w.cell? ⟨g, k, none⟩ = some (c k)) (hr : ∀ i s, t.kids[i]? = some s → Rep S w s (four c i)) (hs : t.kids[k]? = some s) :
    ∃ (y0 y1 : Int) (y2 : ByteArray) (y3 : Option Addr) (y4 y5 : Nat), Rep S w s (.agg #[.int .u8 y0, .int .i64 y1, .string y2, .slice y3 y4 y5]) ∧ ∀ W, Below w.heap.size w W →
      W.cell? ⟨g, k * 4, none⟩ = some (.int .u8 y0) ∧ W.cell? ⟨g, k * 4 + 1, none⟩ = some (.int .i64 y1) ∧ W.cell? ⟨g, k * 4 + 2, none⟩ = some (.string y2) ∧ W.cell? ⟨g, k * 4 + 3, none⟩ = some (.slice y3 y4 y5) := by
  have hlt := (List.getElem?_eq_some_iff.1 hs).1
  have h := hr k s hs
  obtain ⟨y0, y1, y2, y3, y4, y5, he⟩ := h.junk
  have h2 : Rep S w s (.agg #[.int .u8 y0, .int .i64 y1, .string y2, .slice y3 y4 y5]) := by rw [← he]; exact h
  unfold four at he
  simp only [Value.agg.injEq, Array.mk.injEq, List.cons.injEq, and_true] at he
  obtain ⟨i0, i1, i2, i3⟩ := he
  refine ⟨y0, y1, y2, y3, y4, y5, h2, fun W hW => ?_⟩
  have hcells : ∀ j, j < 4 → W.cell? ⟨g, 4 * k + j, none⟩ = some (c (4 * k + j)) := fun j hj => (hW.cell (p := ⟨g, 4 * k + j, none⟩) hgS).trans (hc (4 * k + j) (by omega))
  refine ⟨?_, ?_, ?_, ?_⟩
  · rw [← i0]; have := hcells 0 (by omega); rwa [Nat.mul_comm k 4]
  · rw [← i1]; have := hcells 1 (by omega); rwa [Nat.mul_comm k 4]
  · rw [← i2]; have := hcells 2 (by omega); rwa [Nat.mul_comm k 4]
  · rw [← i3]; have := hcells 3 (by omega); rwa [Nat.mul_comm k 4]
/-- What a call within a round leaves: the row as it was, and the term that is to be its next. -/
theorem round_made {S : Nat → Prop} {base : Nat} {l : List Tm} {t : Tm} {gk ck : Nat} {wr w3 : World} {o : Obj} {v0 v1 : Int} {v2 : ByteArray} {v3 : Option Addr} {v4 v5 : Nat} (hS : ∀ g, S g → g < base) (hB : base ≤ wr.heap.size) (hat : KsAt base S l (.slice (some ⟨gk, 0, none⟩) l.length ck) wr) (hb : Below (wr.alloc o).heap.size (wr.alloc o) w3)
    (hr : Rep (fun g => S g ∨ New (wr.alloc o) w3 g) w3 t (.agg #[.int .u8 v0, .int .i64 v1, .string v2, .slice v3 v4 v5])) :
    ∃ xs : List Value, (w3.alloc (tmO v0 v1 v2 v3 v4 v5)).ownsRow base 58 4 (.slice (some ⟨gk, 0, none⟩) l.length ck) l.length xs ∧
      (∀ i t, l[i]? = some t → Rep (InRow base S (w3.alloc (tmO v0 v1 v2 v3 v4 v5)) (.slice (some ⟨gk, 0, none⟩) l.length ck)) (w3.alloc (tmO v0 v1 v2 v3 v4 v5)) t (four (fun j => (xs[j]?).getD undef) i)) ∧
      Rep (InRow base S (w3.alloc (tmO v0 v1 v2 v3 v4 v5)) (.slice (some ⟨gk, 0, none⟩) l.length ck)) (w3.alloc (tmO v0 v1 v2 v3 v4 v5)) t (.agg #[.int .u8 v0, .int .i64 v1, .string v2, .slice v3 v4 v5]) ∧ Below wr.heap.size wr (w3.alloc (tmO v0 v1 v2 v3 v4 v5)) ∧ base ≤ gk ∧ gk < wr.heap.size := by
  have hz : (wr.alloc o).heap.size = wr.heap.size + 1 := by simp
  have hb0 : Below wr.heap.size wr (w3.alloc (tmO v0 v1 v2 v3 v4 v5)) := (((Below.refl _ wr).alloc (Nat.le_refl _) o).trans (hb.mono (by omega))).alloc (by have := hb.size; omega) _
  obtain ⟨g1, c1, e1, hg1, hg2⟩ := ks_shape hat
  obtain ⟨rfl⟩ : gk = g1 := by injection e1 with e1; injection e1 with e1; injection e1
  obtain ⟨xs, hown, hv, hrep⟩ := ks_keep hat hS hB hb0
  refine ⟨xs, hown, hrep, hr.keep (fun g hg => alloc_far _ _ ?_) (fun g hg => ⟨?_, ?_⟩), hb0, hg1, hg2⟩
  · have := hb.size
    rcases hg with hg | hg
    · have := hS g hg; omega
    · exact hg.2
  · rcases hg with hg | hg
    · exact .inl hg
    · exact .inr ⟨by have := hg.1; omega, by have := hg.2; simp; omega⟩
  · simp only [Value.ownBlock, ne_eq, Option.some.injEq]
    rcases hg with hg | hg
    · have := hS g hg; omega
    · have := hg.1; omega

set_option maxRecDepth 100000 in
set_option maxHeartbeats 8000000 in
theorem subst_plain (n : Nat) (ih : SubSC n) (S : Nat → Prop) (x : UInt8) (t u : Tm) (vt vu : Value) (w : World) (hd : t.depth ≤ n + 1) (hn : n + 1 ≤ 4000) (hg : t.good) (hu : u.good) (hud : u.depth ≤ 4000) (hp : (parts t).length ≤ 1000000) (hx : isNam x = true) (hS : ∀ g, S g → g < w.heap.size) (hrt : Rep S w t vt) (hru : Rep S w u vu) (hk : t.kids ≠ []) (hb : bindsOf t = []) :
    Calls Tryz.prog 38 #[vt, .string ⟨([x] : Text).toArray⟩, vu] w fun e w' => ∃ v, e = .returned (.tuple #[v, .bool (subS (n + 1) x u t).2]) ∧ Below w.heap.size w w' ∧ Rep (fun g => S g ∨ New w w' g) w' (subS (n + 1) x u t).1 v := by
  obtain ⟨u0, u1, u2, u3, u4, u5, rfl⟩ := hru.junk
  obtain ⟨i0, hi, hz0, hz1, hz2⟩ := info_parts Tryz.infoTerm
  obtain ⟨p1, p2, p3, p4, p5⟩ := sub_plain n x u t hk hb
  rw [qual_plain hb] at p4 p5
  have hkv := kind_sub_var t hk hg
  have hnm := plain_names hk hb
  have hL3 : t.kids.length ≤ 3 := by cases t <;> simp [Tm.kids]
  have hL1 : 1 ≤ t.kids.length := List.length_pos_iff.2 hk
  cases hrt with
  | mk _ g cap c hgS hc hkr =>
  have hgw := hS g hgS
  have KC := fun (k : Nat) (s : Tm) (hs : t.kids[k]? = some s) => kid_cells hgw hc hkr hs
  have KS := fun (k : Nat) (s : Tm) (hs : t.kids[k]? = some s) (y0 y1 : Int) (y2 : ByteArray) (y3 : Option Addr) (y4 y5 : Nat) (hr : Rep S w s (.agg #[.int .u8 y0, .int .i64 y1, .string y2, .slice y3 y4 y5])) (W : World) (hW : Below w.heap.size w W) =>
    kid_sub n ih S x s u _ _ w W hS hW (by have := kid_depth (List.mem_of_getElem? hs); omega) (by omega) (Tm.kid_good hg (List.mem_of_getElem? hs)) hu hud (by have := parts_kid_le (List.mem_of_getElem? hs); omega) hx hr hru
  clear hc hkr
  unfold tmHead
  rw [hnm]
  have U0 := UnW.new w (kindOf t : Int) (numOf t : Int) ⟨([] : Text).toArray⟩ (some ⟨g, 0, none⟩) t.kids.length cap u0 u1 u2 u3 u4 u5
  have q1 : ((kindOf t : Int) == 118) = false := by rw [beq_eq_false_iff_ne]; omega
  have q2 : ((t.kids.length : Int) == 0) = false := by rw [beq_eq_false_iff_ne]; omega
  have q3 : IntKind.i64.wrap ((t.kids.length : Int) - 1) = (t.kids.length : Int) - 1 := by rw [IntKind.wrap_i64]; omega
  have P1 := Lib.hid p1
  have P2 := Lib.hid p2
  have P3 := Lib.hid p3
  have P4 := Lib.hid p4
  have P5 := Lib.hid p5
  have HNM := Lib.hid hnm
  have HB := Lib.hid hb
  clear p1 p2 p3 p4 p5 hnm hb
  go_enter Tryz.func38, Tryz.ntmps38
  go_wp2_with fail
  obtain ⟨W0, hW0⟩ : ∃ W0, (((w.alloc (tmO (kindOf t : Int) (numOf t : Int) ⟨([] : Text).toArray⟩ (some ⟨g, 0, none⟩) t.kids.length cap)).alloc (tmO u0 u1 u2 u3 u4 u5)).alloc (tmO 0 0 ⟨#[]⟩ none 0 0)) = W0 := ⟨_, rfl⟩
  have hWz : W0.heap.size = w.heap.size + 1 + 1 + 1 := by rw [← hW0]; simp
  rw [hW0] at U0 ⊢
  clear hW0
  have Z0 := ks_zero W0 (w.heap.size + 3) S U0.size
  rw [hWz] at Z0
  have U1 := U0.grow (World.grownBy_alloc W0 (.cells #[] 58) none) (by simp)
  go_loopw [9, 10, 40] (fun gd ks ix wr => ∃ (k : Nat), k ≤ t.kids.length ∧ ix = .int .i64 k ∧ gd = .bool ((t.kids.take k).all fun s => (subS n x u s).2) ∧ KsAt (w.heap.size + 3) S ((t.kids.take k).map fun s => (subS n x u s).1) ks wr ∧ UnW w (kindOf t : Int) (numOf t : Int) ⟨([] : Text).toArray⟩ (some ⟨g, 0, none⟩) t.kids.length cap u0 u1 u2 u3 u4 u5 wr) (fun _ _ ix _ => t.kids.length - (intOf ix).toNat)
  case atStart => exact ⟨0, Nat.zero_le _, rfl, by simp, by simpa using Z0, U1⟩
  case round =>
    clear Z0 U1 U0 hWz
    obtain ⟨k, hkl, rfl, rfl, hat, hU⟩ := hrel
    obtain ⟨gk, ck, rfl, hgk1, hgk2⟩ := ks_shape hat
    have hlk : ((t.kids.take k).map fun s => (subS n x u s).1).length = k := by simp; omega
    obtain ⟨c0, c1, c2, c3, _⟩ := cells4 hU.body
    obtain ⟨d0, d1, d2, d3, _⟩ := cells4 hU.put
    have hBl := hU.below
    have hUz := hU.size
    by_cases hlt : k < t.kids.length
    · obtain ⟨s, hs⟩ : ∃ s, t.kids[k]? = some s := ⟨_, List.getElem?_eq_getElem hlt⟩
      obtain ⟨y0, y1, y2, y3, y4, y5, hrs, hcc⟩ := KC k s hs
      obtain ⟨e0, e1, e2, e3⟩ := hcc wr hBl
      have hw2 : Below w.heap.size w (wr.alloc (tmO y0 y1 y2 y3 y4 y5)) := hBl.alloc hBl.size _
      have C := KS k s hs y0 y1 y2 y3 y4 y5 hrs _ hw2
      have hUk := hU.keep ((Below.refl _ wr).alloc (Nat.le_refl _) (tmO y0 y1 y2 y3 y4 y5))
      obtain ⟨a0, a1, a2, a3, _⟩ := cells4 hUk.body
      obtain ⟨b0, b1, b2, b3, _⟩ := cells4 hUk.put
      obtain ⟨G, hG⟩ : ∃ G, G = ((t.kids.take k).all fun s => (subS n x u s).2) := ⟨_, rfl⟩
      rw [← hG, hlk]
      have HG := Lib.hid hG
      have HT := Lib.hid (take_snoc hs)
      have HAT := Lib.hid hat
      have HLK := Lib.hid hlk
      have hq3 : k + 1 ≤ maxLen := by unfold maxLen; omega
      clear hG hs KC KS hcc hat hlk
      generalize hbs : (subS n x u s).2 = bs at C
      have HBS := Lib.hid hbs
      clear hbs
      cases G
      all_goals
        go_wp2_with (first
          | (go_at_call 38; refine C.mono ?_; clear C; rintro e w3 ⟨v0, v1, v2, v3, v4, v5, rfl, hb3, hr3⟩
             obtain ⟨xs, hown, hrep, hrt', hb4, _, _⟩ := round_made (base := w.heap.size + 3) (fun g hg => by have := hS g hg; omega) hUz HAT.out hb3 hr3
             have hown4 := hown.alloc (tmO v0 v1 v2 v3 v4 v5)
             rw [HLK.out] at hown4
             have z5 := four_new (w3.alloc (tmO v0 v1 v2 v3 v4 v5)) (.int .u8 v0) (.int .i64 v1) (.string v2) (.slice v3 v4 v5) 58
             rw [World.size_alloc] at z5
             have q5 : w.heap.size + 3 ≤ ((w3.alloc (tmO v0 v1 v2 v3 v4 v5)).alloc (tmO v0 v1 v2 v3 v4 v5)).heap.size := by have := hb4.size; simp at this ⊢; omega
             have q6 : ∀ u ∈ [Value.int .u8 v0, .int .i64 v1, .string v2, .slice v3 v4 v5], u.oneCell' = true := by simp [Value.oneCell']
             have HOWN := Lib.hid hown
             have HREP := Lib.hid hrep
             have HRT := Lib.hid hrt'
             clear hown hrep hrt' hr3 hb3)
          | (at_builtin; (refine wpList_append_own_at _ rfl _ _ 56 rfl (w.heap.size + 3) 58 i0 _ 4 56 Tryz.underlying56 hi hz0 hz1 hz2 rfl (by decide) _ _ _ rfl hown4 ⟨w3.heap.size + 1, 0, none⟩ 1 1 [.int .u8 v0, .int .i64 v1, .string v2, .slice v3 v4 v5] rfl rfl z5 q6 hq3 (by omega) q5 ?_); intro v' w4 hown' hgrow hnil hwhere; have HN := Lib.hid hnil; have HW := Lib.hid hwhere; clear hnil hwhere))
        refine ⟨⟨k + 1, by omega, by go_num, ?_, ?_, ?_⟩, by simp [intOf]; omega⟩
        · rw [HT.out, List.all_append, ← HG.out, List.all_cons, List.all_nil, HBS.out]
          simp
        · rw [HT.out, List.map_append]
          refine ks_round (o := tmO v0 v1 v2 v3 v4 v5) (fun g hg => by have := hS g hg; omega) (by have := hb4.size; omega) HOWN.out (by simp) HREP.out HRT.out ?_ ?_ ?_ ?_
          · rw [HLK.out]; exact hown'
          · rw [HLK.out]; exact hgrow
          · rw [HLK.out]; exact HN.out
          · rw [HLK.out]; exact HW.out
        · refine ((hU.keep hb4).keep ((Below.refl _ _).alloc (Nat.le_refl _) _)).grow hgrow (fun g' hg' => ?_)
          have hg9 : gk = g' := Option.some.inj hg'
          omega
    · obtain rfl : k = t.kids.length := by omega
      rw [List.take_length] at hat hlk ⊢
      have HAT := Lib.hid hat
      have HLK := Lib.hid hlk
      obtain ⟨G, hG⟩ : ∃ G, G = (t.kids.all fun s => (subS n x u s).2) := ⟨_, rfl⟩
      rw [← hG, hlk]
      have HG := Lib.hid hG
      obtain ⟨r0, r1, r2, r3, f0, f1, f2, f3⟩ := cells4 hU.res
      obtain ⟨_, _, _, _, g0, g1, g2, g3⟩ := cells4 hU.body
      clear hG KC KS hat hlk
      go_wp2_with fail
      refine bodyPost_ret (v := .tuple #[.agg #[.int .u8 (kindOf t : Int), .int .i64 (numOf t : Int), .string ⟨([] : Text).toArray⟩, .slice (some ⟨gk, 0, none⟩) t.kids.length ck], .bool G]) (by simp [results, Tryz.results38, go_sem, r0, r1, r2, r3]) rfl ?_
      rw [P5.out, ← HG.out]
      refine ⟨_, rfl, set4_below (hBl.setCell (p := ⟨w.heap.size, 3, none⟩) (Nat.le_refl _) _) (by omega) _ _ _ _, ?_⟩
      have R := ks_rep (W' := set4 (wr.setCell ⟨w.heap.size, 3, none⟩ (.slice (some ⟨gk, 0, none⟩) t.kids.length ck)) (w.heap.size + 1 + 1) (.int .u8 (kindOf t : Int)) (.int .i64 (numOf t : Int)) (.string ⟨([] : Text).toArray⟩) (.slice (some ⟨gk, 0, none⟩) t.kids.length ck)) HAT.out (fun g hg => by have := hS g hg; omega) P4.out (by rw [set4_size]; simp [World.setCell]) (fun g' hg' => by
        have : g' ≠ w.heap.size ∧ g' ≠ w.heap.size + 1 + 1 := by
          rcases hg' with h | h
          · have := hS g' h; omega
          · omega
        exact (set4_far _ _ _ _ _ _ g' this.2).trans (Below.heap_setCell _ _ _ _ this.1))
      unfold tmHead at R
      rw [P1.out, P2.out, P3.out, P4.out, HLK.out] at R
      exact R.keep (fun g' _ => rfl) (fun g' hg' => hg'.imp id (fun h => ⟨by omega, h.2⟩))
end Go.Proofs.YtojbffiffcfblaaGreat
