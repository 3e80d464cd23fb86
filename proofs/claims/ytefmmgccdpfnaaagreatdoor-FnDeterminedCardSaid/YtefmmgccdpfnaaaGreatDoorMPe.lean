import Derived.Test.YtefmmgccdpfnaaaGreatDoorMPs
import Derived.Test.YtefmmgccdpfnaaaGreatDoorPuW
import Derived.Test.YtefmmgccdpfnaaaGreatDoorMTx
import Derived.Test.YtefmmgccdpfnaaaGreatDoorMSc
import Derived.Test.YtefmmgccdpfnaaaGreatDoorMCl
/- The specification's putting: a node that binds nothing. -/
namespace Go.Proofs.YtefmmgccdpfnaaaGreatDoor
open Go.RowKit
open Ff
set_option linter.unusedVariables false

theorem grown_below {w w' : World} (h : Below w.heap.size w w') (row : Option Nat) : w.grownBy w' row := ⟨h.os, h.tape, h.output, h.size, fun k hk _ => h.block k hk⟩
/-- A round's call. -/
theorem kid_sub (n : Nat) (ih : SubSC n) (S : Nat → Prop) (x : UInt8) (s u : Tm) (vs vu : Value) (w W : World) (hS : ∀ g, S g → g < w.heap.size) (hW : Below w.heap.size w W) (hd : s.depth ≤ n) (hn : n ≤ 4000) (hgs : s.good) (hgu : u.good) (hud : u.depth ≤ 4000) (hps : (parts s).length ≤ 100000000) (hx : isNam x = true) (hrs : Rep S w s vs) (hru : Rep S w u vu) :
    Calls Tryz.prog 86 #[vs, .string ⟨([x] : Text).toArray⟩, vu] W fun e W' => ∃ (v0 v1 : Int) (v2 : ByteArray) (v3 : Option Addr) (v4 v5 : Nat), e = .returned (.tuple #[.agg #[.int .u8 v0, .int .i64 v1, .string v2, .slice v3 v4 v5], .bool (subS n x u s).2]) ∧ Below W.heap.size W W' ∧
      Rep (fun g => S g ∨ New W W' g) W' (subS n x u s).1 (.agg #[.int .u8 v0, .int .i64 v1, .string v2, .slice v3 v4 v5]) :=
  (ih S x s u vs vu W hd hn hgs hgu hud hps hx (fun g hg => by have := hS g hg; have := hW.size; omega) (hrs.keep (fun g hg => hW.block g (hS g hg)) (fun g hg => hg)) (hru.keep (fun g hg => hW.block g (hS g hg)) (fun g hg => hg))).mono fun e W' h => by
    obtain ⟨v, he, hb, hr⟩ := h
    obtain ⟨v0, v1, v2, v3, v4, v5, rfl⟩ := hr.junk
    exact ⟨v0, v1, v2, v3, v4, v5, he, hb, hr⟩
/-- A kid's cells. -/
theorem kid_cells {S : Nat → Prop} {w : World} {t s : Tm} {g : Nat} {c : Nat → Value} {k : Nat} (hgS : g < w.heap.size) (hc : ∀ k, k < 4 * t.kids.length → w.cell? ⟨g, k, none⟩ = some (c k)) (hr : ∀ i s, t.kids[i]? = some s → Rep S w s (four c i)) (hs : t.kids[k]? = some s) :
    ∃ (y0 y1 : Int) (y2 : ByteArray) (y3 : Option Addr) (y4 y5 : Nat), Rep S w s (.agg #[.int .u8 y0, .int .i64 y1, .string y2, .slice y3 y4 y5]) ∧ ∀ W, Below w.heap.size w W →
      W.cell? ⟨g, k * 4, none⟩ = some (.int .u8 y0) ∧ W.cell? ⟨g, k * 4 + 1, none⟩ = some (.int .i64 y1) ∧ W.cell? ⟨g, k * 4 + 2, none⟩ = some (.string y2) ∧ W.cell? ⟨g, k * 4 + 3, none⟩ = some (.slice y3 y4 y5) := by
  have hlt := (List.getElem?_eq_some_iff.1 hs).1
  have h := hr k s hs
  obtain ⟨y0, y1, y2, y3, y4, y5, he⟩ := h.junk
  have h2 : Rep S w s (.agg #[.int .u8 y0, .int .i64 y1, .string y2, .slice y3 y4 y5]) := by rw [← he]; exact h
  unfold four at he
  simp only [Value.agg.injEq, Array.mk.injEq, List.cons.injEq, and_true] at he
  obtain ⟨i0, i1, i2, i3⟩ := he
  refine ⟨y0, y1, y2, y3, y4, y5, h2, fun W hW => ?_⟩
  have hcells : ∀ j, j < 4 → W.cell? ⟨g, 4 * k + j, none⟩ = some (c (4 * k + j)) := fun j hj => (hW.cell (p := ⟨g, 4 * k + j, none⟩) hgS).trans (hc (4 * k + j) (by omega))
  refine ⟨?_, ?_, ?_, ?_⟩
  · rw [← i0]; have := hcells 0 (by omega); rwa [Nat.mul_comm k 4]
  · rw [← i1]; have := hcells 1 (by omega); rwa [Nat.mul_comm k 4]
  · rw [← i2]; have := hcells 2 (by omega); rwa [Nat.mul_comm k 4]
  · rw [← i3]; have := hcells 3 (by omega); rwa [Nat.mul_comm k 4]
/-- What a call within a round leaves: the row as it was, and the term that is to be its next. -/
theorem round_made {S : Nat → Prop} {base : Nat} {l : List Tm} {t : Tm} {gk ck : Nat} {wr w3 : World} {o : Obj} {v0 v1 : Int} {v2 : ByteArray} {v3 : Option Addr} {v4 v5 : Nat} (hS : ∀ g, S g → g < base) (hB : base ≤ wr.heap.size) (hat : KsAt base S l (.slice (some ⟨gk, 0, none⟩) l.length ck) wr) (hb : Below (wr.alloc o).heap.size (wr.alloc o) w3)
    (hr : Rep (fun g => S g ∨ New (wr.alloc o) w3 g) w3 t (.agg #[.int .u8 v0, .int .i64 v1, .string v2, .slice v3 v4 v5])) :
    ∃ xs : List Value, (w3.alloc (tmO v0 v1 v2 v3 v4 v5)).ownsRow base 54 4 (.slice (some ⟨gk, 0, none⟩) l.length ck) l.length xs ∧
      (∀ i t, l[i]? = some t → Rep (InRow base S (w3.alloc (tmO v0 v1 v2 v3 v4 v5)) (.slice (some ⟨gk, 0, none⟩) l.length ck)) (w3.alloc (tmO v0 v1 v2 v3 v4 v5)) t (four (fun j => (xs[j]?).getD undef) i)) ∧
      Rep (InRow base S (w3.alloc (tmO v0 v1 v2 v3 v4 v5)) (.slice (some ⟨gk, 0, none⟩) l.length ck)) (w3.alloc (tmO v0 v1 v2 v3 v4 v5)) t (.agg #[.int .u8 v0, .int .i64 v1, .string v2, .slice v3 v4 v5]) ∧ Below wr.heap.size wr (w3.alloc (tmO v0 v1 v2 v3 v4 v5)) ∧ base ≤ gk ∧ gk < wr.heap.size := by
  have hz : (wr.alloc o).heap.size = wr.heap.size + 1 := by simp
  have hb0 : Below wr.heap.size wr (w3.alloc (tmO v0 v1 v2 v3 v4 v5)) := (((Below.refl _ wr).alloc (Nat.le_refl _) o).trans (hb.mono (by omega))).alloc (by have := hb.size; omega) _
  obtain ⟨g1, c1, e1, hg1, hg2⟩ := ks_shape hat
  obtain ⟨rfl⟩ : gk = g1 := by injection e1 with e1; injection e1 with e1; injection e1
  obtain ⟨xs, hown, hv, hrep⟩ := ks_keep hat hS hB hb0
  refine ⟨xs, hown, hrep, hr.keep (fun g hg => alloc_far _ _ ?_) (fun g hg => ⟨?_, ?_⟩), hb0, hg1, hg2⟩
  · have := hb.size
    rcases hg with hg | hg
    · have := hS g hg; omega
    · exact hg.2
  · rcases hg with hg | hg
    · exact .inl hg
    · exact .inr ⟨by have := hg.1; omega, by have := hg.2; simp; omega⟩
  · simp only [Value.ownBlock, ne_eq, Option.some.injEq]
    rcases hg with hg | hg
    · have := hS g hg; omega
    · have := hg.1; omega

set_option maxRecDepth 100000 in
set_option maxHeartbeats 8000000 in
theorem subst_plain (n : Nat) (ih : SubSC n) (S : Nat → Prop) (x : UInt8) (t u : Tm) (vt vu : Value) (w : World) (hd : t.depth ≤ n + 1) (hn : n + 1 ≤ 4000) (hg : t.good) (hu : u.good) (hud : u.depth ≤ 4000) (hp : (parts t).length ≤ 100000000) (hx : isNam x = true) (hS : ∀ g, S g → g < w.heap.size) (hrt : Rep S w t vt) (hru : Rep S w u vu) (hk : t.kids ≠ []) (hb : bindsOf t = []) :
    Calls Tryz.prog 86 #[vt, .string ⟨([x] : Text).toArray⟩, vu] w fun e w' => ∃ v, e = .returned (.tuple #[v, .bool (subS (n + 1) x u t).2]) ∧ Below w.heap.size w w' ∧ Rep (fun g => S g ∨ New w w' g) w' (subS (n + 1) x u t).1 v := by
  obtain ⟨u0, u1, u2, u3, u4, u5, rfl⟩ := hru.junk
  obtain ⟨i0, hi, hz0, hz1, hz2⟩ := info_parts Tryz.infoTerm
  obtain ⟨p1, p2, p3, p4, p5⟩ := sub_plain n x u t hk hb
  rw [qual_plain hb] at p4 p5
  have hkv := kind_sub_var t hk hg
  have hnm := plain_names hk hb
  have hL3 : t.kids.length ≤ 3 := by cases t <;> simp [Tm.kids]
  have hL1 : 1 ≤ t.kids.length := List.length_pos_iff.2 hk
  cases hrt with
  | mk _ g cap c hgS hc hkr =>
  have hgw := hS g hgS
  have KC := fun (k : Nat) (s : Tm) (hs : t.kids[k]? = some s) => kid_cells hgw hc hkr hs
  have KS := fun (k : Nat) (s : Tm) (hs : t.kids[k]? = some s) (y0 y1 : Int) (y2 : ByteArray) (y3 : Option Addr) (y4 y5 : Nat) (hr : Rep S w s (.agg #[.int .u8 y0, .int .i64 y1, .string y2, .slice y3 y4 y5])) (W : World) (hW : Below w.heap.size w W) =>
    kid_sub n ih S x s u _ _ w W hS hW (by have := kid_depth (List.mem_of_getElem? hs); omega) (by omega) (Tm.kid_good hg (List.mem_of_getElem? hs)) hu hud (by have := parts_kid_le (List.mem_of_getElem? hs); omega) hx hr hru
  clear hc hkr
  unfold tmHead
  rw [hnm]
  have U0 := UnW.new w (kindOf t : Int) (numOf t : Int) ⟨([] : Text).toArray⟩ (some ⟨g, 0, none⟩) t.kids.length cap u0 u1 u2 u3 u4 u5
  have q1 : ((kindOf t : Int) == 118) = false := by rw [beq_eq_false_iff_ne]; omega
  have q2 : ((t.kids.length : Int) == 0) = false := by rw [beq_eq_false_iff_ne]; omega
  have q3 : IntKind.i64.wrap ((t.kids.length : Int) - 1) = (t.kids.length : Int) - 1 := by rw [IntKind.wrap_i64]; omega
  have P1 := Lib.hid p1
  have P2 := Lib.hid p2
  have P3 := Lib.hid p3
  have P4 := Lib.hid p4
  have P5 := Lib.hid p5
  have HNM := Lib.hid hnm
  have HB := Lib.hid hb
  clear p1 p2 p3 p4 p5 hnm hb
  go_enter Tryz.func86, Tryz.ntmps86
  go_wp2_with fail
  obtain ⟨W0, hW0⟩ : ∃ W0, (((w.alloc (tmO (kindOf t : Int) (numOf t : Int) ⟨([] : Text).toArray⟩ (some ⟨g, 0, none⟩) t.kids.length cap)).alloc (tmO u0 u1 u2 u3 u4 u5)).alloc (tmO 0 0 ⟨#[]⟩ none 0 0)) = W0 := ⟨_, rfl⟩
  have hWz : W0.heap.size = w.heap.size + 1 + 1 + 1 := by rw [← hW0]; simp
  rw [hW0] at U0 ⊢
  clear hW0
  have Z0 := ks_zero W0 (w.heap.size + 3) S U0.size
  rw [hWz] at Z0
  have U1 := U0.grow (World.grownBy_alloc W0 (.cells #[] 54) none) (by simp)
  go_loopw [9, 10, 40] (fun gd ks ix wr => ∃ (k : Nat), k ≤ t.kids.length ∧ ix = .int .i64 k ∧ gd = .bool ((t.kids.take k).all fun s => (subS n x u s).2) ∧ KsAt (w.heap.size + 3) S ((t.kids.take k).map fun s => (subS n x u s).1) ks wr ∧ UnW w (kindOf t : Int) (numOf t : Int) ⟨([] : Text).toArray⟩ (some ⟨g, 0, none⟩) t.kids.length cap u0 u1 u2 u3 u4 u5 wr) (fun _ _ ix _ => t.kids.length - (intOf ix).toNat)
  case atStart => exact ⟨0, Nat.zero_le _, rfl, by simp, by simpa using Z0, U1⟩
  case round =>
    clear Z0 U1 U0 hWz
    obtain ⟨k, hkl, rfl, rfl, hat, hU⟩ := hrel
    obtain ⟨gk, ck, rfl, hgk1, hgk2⟩ := ks_shape hat
    have hlk : ((t.kids.take k).map fun s => (subS n x u s).1).length = k := by simp; omega
    obtain ⟨c0, c1, c2, c3, _⟩ := cells4 hU.body
    obtain ⟨d0, d1, d2, d3, _⟩ := cells4 hU.put
    have hBl := hU.below
    have hUz := hU.size
    by_cases hlt : k < t.kids.length
    · obtain ⟨s, hs⟩ : ∃ s, t.kids[k]? = some s := ⟨_, List.getElem?_eq_getElem hlt⟩
      obtain ⟨y0, y1, y2, y3, y4, y5, hrs, hcc⟩ := KC k s hs
      obtain ⟨e0, e1, e2, e3⟩ := hcc wr hBl
      have hw2 : Below w.heap.size w (wr.alloc (tmO y0 y1 y2 y3 y4 y5)) := hBl.alloc hBl.size _
      have C := KS k s hs y0 y1 y2 y3 y4 y5 hrs _ hw2
      have hUk := hU.keep ((Below.refl _ wr).alloc (Nat.le_refl _) (tmO y0 y1 y2 y3 y4 y5))
      obtain ⟨a0, a1, a2, a3, _⟩ := cells4 hUk.body
      obtain ⟨b0, b1, b2, b3, _⟩ := cells4 hUk.put
      obtain ⟨G, hG⟩ : ∃ G, G = ((t.kids.take k).all fun s => (subS n x u s).2) := ⟨_, rfl⟩
      rw [← hG, hlk]
      have HG := Lib.hid hG
      have HT := Lib.hid (take_snoc hs)
      have HAT := Lib.hid hat
      have HLK := Lib.hid hlk
      have hq3 : k + 1 ≤ maxLen := by unfold maxLen; omega
      clear hG hs KC KS hcc hat hlk
      generalize hbs : (subS n x u s).2 = bs at C
      have HBS := Lib.hid hbs
      clear hbs
      cases G
      all_goals
        go_wp2_with (first
          | (go_at_call 86; refine C.mono ?_; clear C; rintro e w3 ⟨v0, v1, v2, v3, v4, v5, rfl, hb3, hr3⟩
             obtain ⟨xs, hown, hrep, hrt', hb4, _, _⟩ := round_made (base := w.heap.size + 3) (fun g hg => by have := hS g hg; omega) hUz HAT.out hb3 hr3
             have hown4 := hown.alloc (tmO v0 v1 v2 v3 v4 v5)
             rw [HLK.out] at hown4
             have z5 := four_new (w3.alloc (tmO v0 v1 v2 v3 v4 v5)) (.int .u8 v0) (.int .i64 v1) (.string v2) (.slice v3 v4 v5) 54
             rw [World.size_alloc] at z5
             have q5 : w.heap.size + 3 ≤ ((w3.alloc (tmO v0 v1 v2 v3 v4 v5)).alloc (tmO v0 v1 v2 v3 v4 v5)).heap.size := by have := hb4.size; simp at this ⊢; omega
             have q6 : ∀ u ∈ [Value.int .u8 v0, .int .i64 v1, .string v2, .slice v3 v4 v5], u.oneCell' = true := by simp [Value.oneCell']
             have HOWN := Lib.hid hown
             have HREP := Lib.hid hrep
             have HRT := Lib.hid hrt'
             clear hown hrep hrt' hr3 hb3)
          | (at_builtin; (refine wpList_append_own_at _ rfl _ _ 52 rfl (w.heap.size + 3) 54 i0 _ 4 56 Tryz.underlying52 hi hz0 hz1 hz2 rfl (by decide) _ _ _ rfl hown4 ⟨w3.heap.size + 1, 0, none⟩ 1 1 [.int .u8 v0, .int .i64 v1, .string v2, .slice v3 v4 v5] rfl rfl z5 q6 hq3 (by omega) q5 ?_); intro v' w4 hown' hgrow hnil hwhere; have HN := Lib.hid hnil; have HW := Lib.hid hwhere; clear hnil hwhere))
        refine ⟨⟨k + 1, by omega, by go_num, ?_, ?_, ?_⟩, by simp [intOf]; omega⟩
        · rw [HT.out, List.all_append, ← HG.out, List.all_cons, List.all_nil, HBS.out]
          simp
        · rw [HT.out, List.map_append]
          refine ks_round (o := tmO v0 v1 v2 v3 v4 v5) (fun g hg => by have := hS g hg; omega) (by have := hb4.size; omega) HOWN.out (by simp) HREP.out HRT.out ?_ ?_ ?_ ?_
          · rw [HLK.out]; exact hown'
          · rw [HLK.out]; exact hgrow
          · rw [HLK.out]; exact HN.out
          · rw [HLK.out]; exact HW.out
        · refine ((hU.keep hb4).keep ((Below.refl _ _).alloc (Nat.le_refl _) _)).grow hgrow (fun g' hg' => ?_)
          have hg9 : gk = g' := Option.some.inj hg'
          omega
    · obtain rfl : k = t.kids.length := by omega
      rw [List.take_length] at hat hlk ⊢
      have HAT := Lib.hid hat
      have HLK := Lib.hid hlk
      obtain ⟨G, hG⟩ : ∃ G, G = (t.kids.all fun s => (subS n x u s).2) := ⟨_, rfl⟩
      rw [← hG, hlk]
      have HG := Lib.hid hG
      obtain ⟨r0, r1, r2, r3, f0, f1, f2, f3⟩ := cells4 hU.res
      obtain ⟨_, _, _, _, g0, g1, g2, g3⟩ := cells4 hU.body
      clear hG KC KS hat hlk
      go_wp2_with fail
      refine bodyPost_ret (v := .tuple #[.agg #[.int .u8 (kindOf t : Int), .int .i64 (numOf t : Int), .string ⟨([] : Text).toArray⟩, .slice (some ⟨gk, 0, none⟩) t.kids.length ck], .bool G]) (by simp [results, Tryz.results86, go_sem, r0, r1, r2, r3]) rfl ?_
      rw [P5.out, ← HG.out]
      refine ⟨_, rfl, set4_below (hBl.setCell (p := ⟨w.heap.size, 3, none⟩) (Nat.le_refl _) _) (by omega) _ _ _ _, ?_⟩
      have R := ks_rep (W' := set4 (wr.setCell ⟨w.heap.size, 3, none⟩ (.slice (some ⟨gk, 0, none⟩) t.kids.length ck)) (w.heap.size + 1 + 1) (.int .u8 (kindOf t : Int)) (.int .i64 (numOf t : Int)) (.string ⟨([] : Text).toArray⟩) (.slice (some ⟨gk, 0, none⟩) t.kids.length ck)) HAT.out (fun g hg => by have := hS g hg; omega) P4.out (by rw [set4_size]; simp [World.setCell]) (fun g' hg' => by
        have : g' ≠ w.heap.size ∧ g' ≠ w.heap.size + 1 + 1 := by
          rcases hg' with h | h
          · have := hS g' h; omega
          · omega
        exact (set4_far _ _ _ _ _ _ g' this.2).trans (Below.heap_setCell _ _ _ _ this.1))
      unfold tmHead at R
      rw [P1.out, P2.out, P3.out, P4.out, HLK.out] at R
      exact R.keep (fun g' _ => rfl) (fun g' hg' => hg'.imp id (fun h => ⟨by omega, h.2⟩))
end Go.Proofs.YtefmmgccdpfnaaaGreatDoor

/- The specification's putting: a node that binds names. -/
namespace Go.Proofs.YtefmmgccdpfnaaaGreatDoor
open Go.RowKit
open Ff
set_option linter.unusedVariables false

theorem binds_nam {t : Tm} (h : t.good) : ∀ c ∈ bindsOf t, isNam c = true := by
  intro c hc
  cases t with
  | fn d b => simp [bindsOf] at hc; subst hc; exact h.1
  | fix f d b => simp [bindsOf] at hc; rcases hc with rfl | rfl; exact h.1; exact h.2.1
  | bind d v b => simp [bindsOf] at hc; subst hc; exact h.1
  | _ => simp [bindsOf] at hc
/-- A block of zeros, as its cells are read and written. -/
abbrev ZeroAt (W : World) (g : Nat) : Prop := W.cell? ⟨g, 0, none⟩ = some (.int .u8 0) ∧ W.cell? ⟨g, 1, none⟩ = some (.int .i64 0) ∧ W.cell? ⟨g, 2, none⟩ = some (.string ⟨#[]⟩) ∧ W.cell? ⟨g, 3, none⟩ = some (.slice none 0 0) ∧ W.frozen? ⟨g, 0, none⟩ = false ∧ W.frozen? ⟨g, 1, none⟩ = false ∧ W.frozen? ⟨g, 2, none⟩ = false ∧ W.frozen? ⟨g, 3, none⟩ = false
/-- The call for the body. -/
theorem kid_und (n : Nat) (ih : SubSC n) (S : Nat → Prop) (x : UInt8) (ns : Text) (s u : Tm) (vs vu : Value) (w W : World) (hS : ∀ g, S g → g < w.heap.size) (hW : Below w.heap.size w W) (hd : s.depth ≤ n) (hn : n ≤ 4000) (hgs : s.good) (hgu : u.good) (hud : u.depth ≤ 4000) (hps : (parts s).length ≤ 100000000) (hx : isNam x = true) (hns : ns.length ≤ 2) (hnn : ∀ c ∈ ns, isNam c = true) (hrs : Rep S w s vs) (hru : Rep S w u vu) :
    Calls Tryz.prog 119 #[.string ⟨ns.toArray⟩, vs, .string ⟨([x] : Text).toArray⟩, vu] W fun e W' => ∃ (v0 v1 : Int) (v2 : ByteArray) (v3 : Option Addr) (v4 v5 : Nat), e = .returned (.tuple #[.string ⟨(undS (subS n) ns s x u).1.toArray⟩, .agg #[.int .u8 v0, .int .i64 v1, .string v2, .slice v3 v4 v5], .bool (undS (subS n) ns s x u).2.2]) ∧ Below W.heap.size W W' ∧
      Rep (fun g => S g ∨ New W W' g) W' (undS (subS n) ns s x u).2.1 (.agg #[.int .u8 v0, .int .i64 v1, .string v2, .slice v3 v4 v5]) ∧ (∀ g, W.heap[g]? = some (tmO 0 0 ⟨#[]⟩ none 0 0) → ZeroAt W' g) := by
  have hS' : ∀ g, S g → g < W.heap.size := fun g hg => by have := hS g hg; have := hW.size; omega
  have hrs' : Rep S W s vs := hrs.keep (fun g hg => hW.block g (hS g hg)) (fun g hg => hg)
  have hru' : Rep S W u vu := hru.keep (fun g hg => hW.block g (hS g hg)) (fun g hg => hg)
  have K : Calls Tryz.prog 119 #[.string ⟨ns.toArray⟩, vs, .string ⟨([x] : Text).toArray⟩, vu] W (UndSP S W (undS (subS n) ns s x u)) := by
    by_cases h : x ∈ ns ∨ cntF s x = 0
    · rw [undS_none _ _ _ _ _ h]
      exact under_none S x ns s u vs vu W hS' hrs' hru' (by omega) hps hgs hns h
    · exact under_some n ih S x ns s u vs vu W hS' hrs' hru' hd hn hps hgs hgu hud hx hns hnn h
  refine K.mono fun e W' h => ?_
  obtain ⟨v, he, hb, hr⟩ := h
  obtain ⟨v0, v1, v2, v3, v4, v5, rfl⟩ := hr.junk
  exact ⟨v0, v1, v2, v3, v4, v5, he, hb, hr, fun g hz => cells4 ((hb.block g (Array.getElem?_eq_some_iff.1 hz).1).trans hz)⟩
/-- A store into a block below a row leaves the row. -/
theorem ks_set {base : Nat} {S : Nat → Prop} {l : List Tm} {v : Value} {W : World} (h : KsAt base S l v W) (p : Addr) (hp : p.block < base) (hS : ∀ g, S g → g ≠ p.block) (u : Value) : KsAt base S l v (W.setCell p u) := by
  have hz : (W.setCell p u).heap.size = W.heap.size := by simp [World.setCell]
  obtain ⟨gk, ck, rfl, h1, h2⟩ := ks_shape h
  obtain ⟨xs, hown, hv, hrep⟩ := h
  refine ⟨xs, World.ownsRow.kept (row := some p.block) hown ⟨rfl, rfl, rfl, by omega, fun k _ hk => Below.heap_setCell _ _ _ _ (fun e => hk (by rw [e]))⟩ (.inr (by simp only [Value.ownBlock, ne_eq, Option.some.injEq]; omega)), hv, fun i t hi => (hrep i t hi).keep (fun g hg => Below.heap_setCell _ _ _ _ ?_) (fun g hg => ⟨hg.1.imp id (fun h => ⟨h.1, by omega⟩), hg.2⟩)⟩
  rcases hg.1 with h | h
  · exact hS g h
  · omega
theorem UnW.name {w W : World} {k n : Int} {s : ByteArray} {a : Option Addr} {l c : Nat} {k' n' : Int} {s' : ByteArray} {a' : Option Addr} {l' c' : Nat} (h : UnW w k n s a l c k' n' s' a' l' c' W) (r : ByteArray) : UnW w k n r a l c k' n' s' a' l' c' (W.setCell ⟨w.heap.size, 2, none⟩ (.string r)) := by
  refine ⟨by simp [World.setCell, Array.getElem?_modify, h.body], (Below.heap_setCell _ _ _ _ (by first | (simp; done) | (simp; omega))).trans h.put, (Below.heap_setCell _ _ _ _ (by first | (simp; done) | (simp; omega))).trans h.res, h.below.setCell (p := ⟨w.heap.size, 2, none⟩) (Nat.le_refl _) _, by simpa [World.setCell] using h.size⟩

/-- What stands behind the call for the body. -/
structure Aft (S : Nat → Prop) (w : World) (k n : Int) (s : ByteArray) (a : Option Addr) (l c : Nat) (k' n' : Int) (s' : ByteArray) (a' : Option Addr) (l' c' : Nat) (ks : List Tm) (row : Value) (b : Tm) (v0 v1 : Int) (v2 : ByteArray) (v3 : Option Addr) (v4 v5 : Nat) (p : Nat) (W : World) : Prop where
  boxes : UnW w k n s a l c k' n' s' a' l' c' W
  here : W.heap[p]? = some (tmO v0 v1 v2 v3 v4 v5)
  low : w.heap.size + 3 ≤ p
  rep : Rep (InRow (w.heap.size + 3) S W row) W b (.agg #[.int .u8 v0, .int .i64 v1, .string v2, .slice v3 v4 v5])
  row : KsAt (w.heap.size + 3) S ks row W
theorem Aft.new {S : Nat → Prop} {w wr w7 : World} {k n : Int} {s : ByteArray} {a : Option Addr} {l c : Nat} {k' n' : Int} {s' : ByteArray} {a' : Option Addr} {l' c' : Nat} {ks : List Tm} {gk ck m : Nat} {b : Tm} {v0 v1 : Int} {v2 : ByteArray} {v3 : Option Addr} {v4 v5 : Nat} (hS : ∀ g, S g → g < w.heap.size) (hU : UnW w k n s a l c k' n' s' a' l' c' wr) (hat : KsAt (w.heap.size + 3) S ks (.slice (some ⟨gk, 0, none⟩) m ck) wr) (hgk1 : w.heap.size + 3 ≤ gk) (hgk2 : gk < wr.heap.size) (hB : Below wr.heap.size wr w7)
    (hr : Rep (fun g => S g ∨ (wr.heap.size ≤ g ∧ g < w7.heap.size)) w7 b (.agg #[.int .u8 v0, .int .i64 v1, .string v2, .slice v3 v4 v5])) : Aft S w k n s a l c k' n' s' a' l' c' ks (.slice (some ⟨gk, 0, none⟩) m ck) b v0 v1 v2 v3 v4 v5 w7.heap.size (w7.alloc (tmO v0 v1 v2 v3 v4 v5)) := by
  have hz := hU.size
  have hz7 := hB.size
  have hB9 : Below wr.heap.size wr (w7.alloc (tmO v0 v1 v2 v3 v4 v5)) := hB.alloc hB.size _
  refine ⟨hU.keep hB9, alloc_here _ _, by omega, hr.keep (fun g hg => alloc_far _ _ ?_) (fun g hg => ⟨?_, ?_⟩), ks_keep hat (fun g hg => by have := hS g hg; omega) hz hB9⟩
  · rcases hg with hg | hg
    · have := hS g hg; omega
    · exact hg.2
  · rcases hg with hg | hg
    · exact .inl hg
    · exact .inr ⟨by omega, by simp; omega⟩
  · simp only [Value.ownBlock, ne_eq, Option.some.injEq]
    rcases hg with hg | hg
    · have := hS g hg; omega
    · omega
theorem Aft.set {S : Nat → Prop} {w wr w7 : World} {k n : Int} {s : ByteArray} {a : Option Addr} {l c : Nat} {k' n' : Int} {s' : ByteArray} {a' : Option Addr} {l' c' : Nat} {ks : List Tm} {gk ck m : Nat} {b : Tm} {v0 v1 : Int} {v2 : ByteArray} {v3 : Option Addr} {v4 v5 : Nat} (hS : ∀ g, S g → g < w.heap.size) (hU : UnW w k n s a l c k' n' s' a' l' c' wr) (hat : KsAt (w.heap.size + 3) S ks (.slice (some ⟨gk, 0, none⟩) m ck) wr) (hgk1 : w.heap.size + 3 ≤ gk) (hgk2 : gk < wr.heap.size) (hB : Below wr.heap.size wr w7)
    (h0 : w7.heap[wr.heap.size]? = some (tmO 0 0 ⟨#[]⟩ none 0 0)) (hr : Rep (fun g => S g ∨ (wr.heap.size < g ∧ g < w7.heap.size)) w7 b (.agg #[.int .u8 v0, .int .i64 v1, .string v2, .slice v3 v4 v5])) : Aft S w k n s a l c k' n' s' a' l' c' ks (.slice (some ⟨gk, 0, none⟩) m ck) b v0 v1 v2 v3 v4 v5 wr.heap.size (set4 w7 wr.heap.size (.int .u8 v0) (.int .i64 v1) (.string v2) (.slice v3 v4 v5)) := by
  have hz := hU.size
  have hz7 := hB.size
  have hB9 : Below wr.heap.size wr (set4 w7 wr.heap.size (.int .u8 v0) (.int .i64 v1) (.string v2) (.slice v3 v4 v5)) := set4_below hB (Nat.le_refl _) _ _ _ _
  refine ⟨hU.keep hB9, set4_here h0 _ _ _ _, by omega, hr.keep (fun g hg => set4_far _ _ _ _ _ _ _ ?_) (fun g hg => ⟨?_, ?_⟩), ks_keep hat (fun g hg => by have := hS g hg; omega) hz hB9⟩
  · rcases hg with hg | hg
    · have := hS g hg; omega
    · omega
  · rw [set4_size]
    rcases hg with hg | hg
    · exact .inl hg
    · exact .inr ⟨by omega, hg.2⟩
  · simp only [Value.ownBlock, ne_eq, Option.some.injEq]
    rcases hg with hg | hg
    · have := hS g hg; omega
    · omega
/-- The names are stored. -/
theorem Aft.name {S : Nat → Prop} {w W : World} {k n : Int} {s : ByteArray} {a : Option Addr} {l c : Nat} {k' n' : Int} {s' : ByteArray} {a' : Option Addr} {l' c' : Nat} {ks : List Tm} {row : Value} {b : Tm} {v0 v1 : Int} {v2 : ByteArray} {v3 : Option Addr} {v4 v5 p : Nat} (hS : ∀ g, S g → g < w.heap.size) (h : Aft S w k n s a l c k' n' s' a' l' c' ks row b v0 v1 v2 v3 v4 v5 p W) (r : ByteArray) : Aft S w k n r a l c k' n' s' a' l' c' ks row b v0 v1 v2 v3 v4 v5 p (W.setCell ⟨w.heap.size, 2, none⟩ (.string r)) := by
  have hl := h.low
  refine ⟨h.boxes.name r, (Below.heap_setCell _ _ _ _ (by simp; omega)).trans h.here, hl, h.rep.keep (fun g hg => Below.heap_setCell _ _ _ _ ?_) (fun g hg => ⟨hg.1.imp id (fun h => ⟨h.1, by simpa [World.setCell] using h.2⟩), hg.2⟩), ks_set h.row _ (show w.heap.size < w.heap.size + 3 by omega) (fun g hg => by have := hS g hg; show g ≠ w.heap.size; omega) _⟩
  rcases hg.1 with h | h
  · have := hS g h; show g ≠ w.heap.size; omega
  · show g ≠ w.heap.size; omega

set_option maxRecDepth 100000 in
set_option maxHeartbeats 8000000 in
theorem subst_binds (n : Nat) (ih : SubSC n) (S : Nat → Prop) (x : UInt8) (t u : Tm) (vt vu : Value) (w : World) (hd : t.depth ≤ n + 1) (hn : n + 1 ≤ 4000) (hg : t.good) (hu : u.good) (hud : u.depth ≤ 4000) (hp : (parts t).length ≤ 100000000) (hx : isNam x = true) (hS : ∀ g, S g → g < w.heap.size) (hrt : Rep S w t vt) (hru : Rep S w u vu) (hb : bindsOf t ≠ []) :
    Calls Tryz.prog 86 #[vt, .string ⟨([x] : Text).toArray⟩, vu] w fun e w' => ∃ v, e = .returned (.tuple #[v, .bool (subS (n + 1) x u t).2]) ∧ Below w.heap.size w w' ∧ Rep (fun g => S g ∨ New w w' g) w' (subS (n + 1) x u t).1 v := by
  obtain ⟨u0, u1, u2, u3, u4, u5, rfl⟩ := hru.junk
  obtain ⟨i0, hi, hz0, hz1, hz2⟩ := info_parts Tryz.infoTerm
  obtain ⟨p1, p2, p3, p4, p5⟩ := sub_binds n x u t hb
  have hk := (binds_kids hb).1
  have hkv := kind_sub_var t hk hg
  have hnm := (binds_kids hb).2
  have hnn := binds_nam hg
  have hns2 : (bindsOf t).length ≤ 2 := by rw [← hnm]; exact names_len t
  have hrl := undS_len n (bindsOf t) (lastK t) x u
  obtain ⟨m, hm⟩ : ∃ m, t.kids.length = m + 1 := ⟨t.kids.length - 1, by have := List.length_pos_iff.2 hk; omega⟩
  have hql : (qual t).length = m := by rw [qual_bind hb, List.length_dropLast]; omega
  have hqg : ∀ k, k < m → (qual t)[k]? = t.kids[k]? := fun k hk2 => by rw [qual_bind hb, List.getElem?_dropLast, if_pos (by omega)]
  have hlast := kid_last hk
  rw [hm] at hlast
  simp only [Nat.add_sub_cancel] at hlast
  have hL3 : t.kids.length ≤ 3 := by cases t <;> simp [Tm.kids]
  obtain ⟨nc, nr, hcr⟩ : ∃ nc nr, bindsOf t = nc :: nr := by
    rcases h : bindsOf t with _ | ⟨nc, nr⟩
    · exact absurd h hb
    · exact ⟨nc, nr, rfl⟩
  rw [hcr] at hnn hnm p3 p4 p5 hns2 hrl
  cases hrt with
  | mk _ g cap c hgS hc hkr =>
  have hgw := hS g hgS
  have KC := fun (k : Nat) (s : Tm) (hs : t.kids[k]? = some s) => kid_cells hgw hc hkr hs
  have KS := fun (k : Nat) (s : Tm) (hs : t.kids[k]? = some s) (y0 y1 : Int) (y2 : ByteArray) (y3 : Option Addr) (y4 y5 : Nat) (hr : Rep S w s (.agg #[.int .u8 y0, .int .i64 y1, .string y2, .slice y3 y4 y5])) (W : World) (hW : Below w.heap.size w W) =>
    kid_sub n ih S x s u _ _ w W hS hW (by have := kid_depth (List.mem_of_getElem? hs); omega) (by omega) (Tm.kid_good hg (List.mem_of_getElem? hs)) hu hud (by have := parts_kid_le (List.mem_of_getElem? hs); omega) hx hr hru
  have KU := fun (y0 y1 : Int) (y2 : ByteArray) (y3 : Option Addr) (y4 y5 : Nat) (hr : Rep S w (lastK t) (.agg #[.int .u8 y0, .int .i64 y1, .string y2, .slice y3 y4 y5])) (W : World) (hW : Below w.heap.size w W) =>
    kid_und n ih S x (nc :: nr) (lastK t) u _ _ w W hS hW (by have := kid_depth (List.mem_of_getElem? hlast); omega) (by omega) (Tm.kid_good hg (List.mem_of_getElem? hlast)) hu hud (by have := parts_kid_le (List.mem_of_getElem? hlast); omega) hx hns2 hnn hr hru
  clear hc hkr
  unfold tmHead
  rw [hnm]
  have hLa : m + 1 ≤ t.kids.length := by omega
  have hLb : t.kids.length ≤ m + 1 := by omega
  have q1 : ((kindOf t : Int) == 118) = false := by rw [beq_eq_false_iff_ne]; omega
  have q2 : ((t.kids.length : Int) == 0) = false := by rw [beq_eq_false_iff_ne]; omega
  have q3 : IntKind.i64.wrap ((t.kids.length : Int) - 1) = (m : Int) := by rw [IntKind.wrap_i64]; omega
  have P1 := Lib.hid p1
  have P2 := Lib.hid p2
  have P3 := Lib.hid p3
  have P4 := Lib.hid p4
  have P5 := Lib.hid p5
  have HM := Lib.hid hm
  have HQL := Lib.hid hql
  have HLAST := Lib.hid hlast
  have HRL := Lib.hid hrl
  clear p1 p2 p3 p4 p5 hnm hb hm hql hlast hcr hrl hnn
  obtain ⟨L, hL⟩ : ∃ L, t.kids.length = L := ⟨_, rfl⟩
  rw [hL] at hLa hLb q2 q3 hL3 ⊢
  have HL := Lib.hid hL
  clear hL
  have U0 := UnW.new w (kindOf t : Int) (numOf t : Int) ⟨(nc :: nr : Text).toArray⟩ (some ⟨g, 0, none⟩) L cap u0 u1 u2 u3 u4 u5
  go_enter Tryz.func86, Tryz.ntmps86
  go_wp2_with fail
  obtain ⟨W0, hW0⟩ : ∃ W0, (((w.alloc (tmO (kindOf t : Int) (numOf t : Int) ⟨(nc :: nr : Text).toArray⟩ (some ⟨g, 0, none⟩) L cap)).alloc (tmO u0 u1 u2 u3 u4 u5)).alloc (tmO 0 0 ⟨#[]⟩ none 0 0)) = W0 := ⟨_, rfl⟩
  have hWz : W0.heap.size = w.heap.size + 1 + 1 + 1 := by rw [← hW0]; simp
  rw [hW0] at U0 ⊢
  clear hW0
  have Z0 := ks_zero W0 (w.heap.size + 3) S U0.size
  rw [hWz] at Z0
  have U1 := U0.grow (World.grownBy_alloc W0 (.cells #[] 54) none) (by simp)
  go_loopw [9, 10, 40] (fun gd ks ix wr => ∃ (k : Nat), k ≤ L ∧ ix = .int .i64 k ∧ gd = .bool (((qual t).take k).all fun s => (subS n x u s).2) ∧ KsAt (w.heap.size + 3) S (((qual t).take k).map fun s => (subS n x u s).1) ks wr ∧ UnW w (kindOf t : Int) (numOf t : Int) ⟨(nc :: nr : Text).toArray⟩ (some ⟨g, 0, none⟩) L cap u0 u1 u2 u3 u4 u5 wr) (fun _ _ ix _ => L - (intOf ix).toNat)
  case atStart => exact ⟨0, Nat.zero_le _, rfl, by simp, by simpa using Z0, U1⟩
  case round =>
    clear Z0 U1 U0 hWz
    obtain ⟨k, hkl, rfl, rfl, hat, hU⟩ := hrel
    obtain ⟨gk, ck, rfl, hgk1, hgk2⟩ := ks_shape hat
    obtain ⟨c0, c1, c2, c3, _⟩ := cells4 hU.body
    obtain ⟨d0, d1, d2, d3, _⟩ := cells4 hU.put
    have hBl := hU.below
    have hUz := hU.size
    by_cases hlt : k < L
    · obtain ⟨s, hs⟩ : ∃ s, t.kids[k]? = some s := ⟨_, List.getElem?_eq_getElem (by rw [HL.out]; exact hlt)⟩
      obtain ⟨y0, y1, y2, y3, y4, y5, hrs, hcc⟩ := KC k s hs
      obtain ⟨e0, e1, e2, e3⟩ := hcc wr hBl
      have hw2 : Below w.heap.size w (wr.alloc (tmO y0 y1 y2 y3 y4 y5)) := hBl.alloc hBl.size _
      have C := KS k s hs y0 y1 y2 y3 y4 y5 hrs _ hw2
      have hUk := hU.keep ((Below.refl _ wr).alloc (Nat.le_refl _) (tmO y0 y1 y2 y3 y4 y5))
      obtain ⟨a0, a1, a2, a3, _⟩ := cells4 hUk.body
      obtain ⟨b0, b1, b2, b3, _⟩ := cells4 hUk.put
      by_cases hkm : k < m
      · have hlk : (((qual t).take k).map fun s => (subS n x u s).1).length = k := by simp [HQL.out]; omega
        obtain ⟨G, hG⟩ : ∃ G, G = (((qual t).take k).all fun s => (subS n x u s).2) := ⟨_, rfl⟩
        rw [← hG, hlk]
        have HG := Lib.hid hG
        have HT := Lib.hid (take_snoc ((hqg k hkm).trans hs))
        have HAT := Lib.hid hat
        have HLK := Lib.hid hlk
        have hq3 : k + 1 ≤ maxLen := by unfold maxLen; omega
        clear hG hs KC KS KU hcc hat hlk hqg
        generalize hbs : (subS n x u s).2 = bs at C
        have HBS := Lib.hid hbs
        clear hbs
        cases G
        all_goals
          go_wp2_with (first
            | (go_at_call 86; refine C.mono ?_; clear C; rintro e w3 ⟨v0, v1, v2, v3, v4, v5, rfl, hb3, hr3⟩
               obtain ⟨xs, hown, hrep, hrt', hb4, _, _⟩ := round_made (base := w.heap.size + 3) (fun g hg => by have := hS g hg; omega) hUz HAT.out hb3 hr3
               have hown4 := hown.alloc (tmO v0 v1 v2 v3 v4 v5)
               rw [HLK.out] at hown4
               have z5 := four_new (w3.alloc (tmO v0 v1 v2 v3 v4 v5)) (.int .u8 v0) (.int .i64 v1) (.string v2) (.slice v3 v4 v5) 54
               rw [World.size_alloc] at z5
               have q5 : w.heap.size + 3 ≤ ((w3.alloc (tmO v0 v1 v2 v3 v4 v5)).alloc (tmO v0 v1 v2 v3 v4 v5)).heap.size := by have := hb4.size; simp at this ⊢; omega
               have q6 : ∀ u ∈ [Value.int .u8 v0, .int .i64 v1, .string v2, .slice v3 v4 v5], u.oneCell' = true := by simp [Value.oneCell']
               have HOWN := Lib.hid hown
               have HREP := Lib.hid hrep
               have HRT := Lib.hid hrt'
               clear hown hrep hrt' hr3 hb3)
            | (at_builtin; (refine wpList_append_own_at _ rfl _ _ 52 rfl (w.heap.size + 3) 54 i0 _ 4 56 Tryz.underlying52 hi hz0 hz1 hz2 rfl (by decide) _ _ _ rfl hown4 ⟨w3.heap.size + 1, 0, none⟩ 1 1 [.int .u8 v0, .int .i64 v1, .string v2, .slice v3 v4 v5] rfl rfl z5 q6 hq3 (by omega) q5 ?_); intro v' w4 hown' hgrow hnil hwhere; have HN := Lib.hid hnil; have HW := Lib.hid hwhere; clear hnil hwhere))
          refine ⟨⟨k + 1, by omega, by go_num, ?_, ?_, ?_⟩, by simp [intOf]; omega⟩
          · rw [HT.out, List.all_append, ← HG.out, List.all_cons, List.all_nil, HBS.out]
            simp
          · rw [HT.out, List.map_append]
            refine ks_round (o := tmO v0 v1 v2 v3 v4 v5) (fun g hg => by have := hS g hg; omega) (by have := hb4.size; omega) HOWN.out (by simp) HREP.out HRT.out ?_ ?_ ?_ ?_
            · rw [HLK.out]; exact hown'
            · rw [HLK.out]; exact hgrow
            · rw [HLK.out]; exact HN.out
            · rw [HLK.out]; exact HW.out
          · refine ((hU.keep hb4).keep ((Below.refl _ _).alloc (Nat.le_refl _) _)).grow hgrow (fun g' hg' => ?_)
            have hg9 : gk = g' := Option.some.inj hg'
            omega
      · have hT1 : (qual t).take (k + 1) = (qual t).take k := by rw [List.take_of_length_le (by rw [HQL.out]; omega), List.take_of_length_le (by rw [HQL.out]; omega)]
        have HT := Lib.hid hT1
        have HAT := Lib.hid hat
        obtain ⟨G, hG⟩ : ∃ G, G = (((qual t).take k).all fun s => (subS n x u s).2) := ⟨_, rfl⟩
        rw [← hG]
        have HG := Lib.hid hG
        obtain ⟨lk, hlk⟩ : ∃ lk, lk = (((qual t).take k).map fun s => (subS n x u s).1).length := ⟨_, rfl⟩
        rw [← hlk]
        have HLK := Lib.hid hlk
        clear hT1 hat hG hlk KS KU C hqg hcc KC hs
        go_wp2_with fail
        refine ⟨⟨k + 1, by omega, by go_num, by rw [HT.out, HG.out], ?_, hUk⟩, by simp [intOf]; omega⟩
        rw [HT.out, HLK.out]
        exact ks_keep HAT.out (fun g hg => by have := hS g hg; omega) hUz ((Below.refl _ wr).alloc (Nat.le_refl _) _)
    · obtain rfl : k = L := by omega
      have hTq : (qual t).take k = qual t := List.take_of_length_le (by rw [HQL.out]; omega)
      rw [hTq] at hat ⊢
      have hlk : ((qual t).map fun s => (subS n x u s).1).length = m := by simp [HQL.out]
      rw [hlk] at hat ⊢
      have HLK := Lib.hid hlk
      obtain ⟨y0, y1, y2, y3, y4, y5, hrs, hcc⟩ := KC m (lastK t) HLAST.out
      obtain ⟨R, hR⟩ : ∃ R, undS (subS n) (nc :: nr) (lastK t) x u = R := ⟨_, rfl⟩
      rw [hR] at KU
      have HR := Lib.hid hR
      have KU2 : ∀ W, Below wr.heap.size wr W → Calls Tryz.prog 119 #[.string ⟨(nc :: nr : Text).toArray⟩, .agg #[.int .u8 y0, .int .i64 y1, .string y2, .slice y3 y4 y5], .string ⟨([x] : Text).toArray⟩, .agg #[.int .u8 u0, .int .i64 u1, .string u2, .slice u3 u4 u5]] W fun e W' =>
          ∃ (v0 v1 : Int) (v2 : ByteArray) (v3 : Option Addr) (v4 v5 : Nat), e = .returned (.tuple #[.string ⟨R.1.toArray⟩, .agg #[.int .u8 v0, .int .i64 v1, .string v2, .slice v3 v4 v5], .bool R.2.2]) ∧ Below W.heap.size W W' ∧
            Rep (fun g => S g ∨ New W W' g) W' R.2.1 (.agg #[.int .u8 v0, .int .i64 v1, .string v2, .slice v3 v4 v5]) ∧ (∀ g, W.heap[g]? = some (tmO 0 0 ⟨#[]⟩ none 0 0) → ZeroAt W' g) ∧ Below wr.heap.size wr W' :=
        fun W hW => (KU y0 y1 y2 y3 y4 y5 hrs W (hBl.trans (hW.mono hBl.size))).mono fun e W' h => by
          obtain ⟨v0, v1, v2, v3, v4, v5, he, hb, hr, hz⟩ := h
          exact ⟨v0, v1, v2, v3, v4, v5, he, hb, hr, hz, hW.trans (hb.mono hW.size)⟩
      have LB : ∀ W, Below wr.heap.size wr W → (W.cell? ⟨w.heap.size, 2, none⟩ = some (.string ⟨(nc :: nr : Text).toArray⟩) ∧ W.cell? ⟨w.heap.size, 3, none⟩ = some (.slice (some ⟨g, 0, none⟩) k cap)) ∧
          (W.cell? ⟨g, m * 4, none⟩ = some (.int .u8 y0) ∧ W.cell? ⟨g, m * 4 + 1, none⟩ = some (.int .i64 y1) ∧ W.cell? ⟨g, m * 4 + 2, none⟩ = some (.string y2) ∧ W.cell? ⟨g, m * 4 + 3, none⟩ = some (.slice y3 y4 y5)) ∧
          (W.cell? ⟨w.heap.size + 1, 0, none⟩ = some (.int .u8 u0) ∧ W.cell? ⟨w.heap.size + 1, 1, none⟩ = some (.int .i64 u1) ∧ W.cell? ⟨w.heap.size + 1, 2, none⟩ = some (.string u2) ∧ W.cell? ⟨w.heap.size + 1, 3, none⟩ = some (.slice u3 u4 u5)) ∧ Below wr.heap.size wr W := fun W hW => by
        obtain ⟨_, _, a2, a3, _⟩ := cells4 (hU.keep hW).body
        obtain ⟨b0, b1, b2, b3, _⟩ := cells4 (hU.keep hW).put
        exact ⟨⟨a2, a3⟩, hcc W (hBl.trans (hW.mono hBl.size)), ⟨b0, b1, b2, b3⟩, hW⟩
      obtain ⟨e0, e1, e2, e3⟩ := hcc wr hBl
      have HAT := Lib.hid hat
      have t1 : Below wr.heap.size wr wr.drew := (Below.refl _ wr).drew
      have t2 : ∀ o, Below wr.heap.size wr (wr.alloc o) := fun o => (Below.refl _ wr).alloc (Nat.le_refl _) o
      have t3 : ∀ o, Below wr.heap.size wr (wr.alloc o).drew := fun o => ((Below.refl _ wr).alloc (Nat.le_refl _) o).drew
      have t4 : ∀ o, Below wr.heap.size wr (wr.drew.alloc o) := fun o => ((Below.refl _ wr).drew).alloc (Nat.le_refl _) o
      have tB1 : (wr.alloc (tmO 0 0 ⟨#[]⟩ none 0 0)).heap[wr.heap.size]? = some (tmO 0 0 ⟨#[]⟩ none 0 0) := alloc_here _ _
      have tB2 : (wr.alloc (tmO 0 0 ⟨#[]⟩ none 0 0)).drew.heap[wr.heap.size]? = some (tmO 0 0 ⟨#[]⟩ none 0 0) := alloc_here _ _
      have tB3 : (wr.drew.alloc (tmO 0 0 ⟨#[]⟩ none 0 0)).heap[wr.heap.size]? = some (tmO 0 0 ⟨#[]⟩ none 0 0) := alloc_here wr.drew _
      obtain ⟨G, hG⟩ : ∃ G, G = ((qual t).all fun s => (subS n x u s).2) := ⟨_, rfl⟩
      rw [← hG]
      have HG := Lib.hid hG
      have hI0 : (0 : Int) ≤ (m : Int) := by omega
      have hI1 : (m : Int) < (k : Int) := by omega
      have hI2 : (m : Int) ≤ (k : Int) := by omega
      clear hG KC KS KU hcc hat hlk hR hTq hqg
      go_wp2_with fail
      go_region_held3 (fun w' => (w'.cell? ⟨w.heap.size, 2, none⟩ = some (.string ⟨(nc :: nr : Text).toArray⟩) ∧ w'.cell? ⟨w.heap.size, 3, none⟩ = some (.slice (some ⟨g, 0, none⟩) k cap)) ∧
          (w'.cell? ⟨g, m * 4, none⟩ = some (.int .u8 y0) ∧ w'.cell? ⟨g, m * 4 + 1, none⟩ = some (.int .i64 y1) ∧ w'.cell? ⟨g, m * 4 + 2, none⟩ = some (.string y2) ∧ w'.cell? ⟨g, m * 4 + 3, none⟩ = some (.slice y3 y4 y5)) ∧
          (w'.cell? ⟨w.heap.size + 1, 0, none⟩ = some (.int .u8 u0) ∧ w'.cell? ⟨w.heap.size + 1, 1, none⟩ = some (.int .i64 u1) ∧ w'.cell? ⟨w.heap.size + 1, 2, none⟩ = some (.string u2) ∧ w'.cell? ⟨w.heap.size + 1, 3, none⟩ = some (.slice u3 u4 u5)) ∧ Below wr.heap.size wr w')
        (first | with_reducible exact LB _ (Below.refl _ _) | with_reducible exact LB _ t1 | with_reducible exact LB _ (t2 _) | with_reducible exact LB _ (t3 _) | with_reducible exact LB _ (t4 _) | with_reducible exact LB _ hB7 | with_reducible exact LB _ (t5 _) | with_reducible exact LB _ (t6 _ _ _ _))
        (first | (go_at_call 119; refine (KU2 _ (by first | with_reducible exact t3 _ | with_reducible exact t1 | with_reducible exact t2 _ | with_reducible exact t4 _ | exact Below.refl _ _)).mono ?_; rintro e w7 ⟨v0, v1, v2, v3, v4, v5, rfl, hb7, hr7, hz7, hB7⟩; have zB := hz7 wr.heap.size; clear hz7; (try simp only [tB2, true_implies] at zB); have hs7 := hB7.size; have t5 : ∀ o, Below wr.heap.size wr (w7.alloc o) := (fun o => hB7.alloc hB7.size o); have t6 : ∀ z0 z1 z2 z3, Below wr.heap.size wr (set4 w7 wr.heap.size z0 z1 z2 z3) := (fun z0 z1 z2 z3 => set4_below hB7 (Nat.le_refl _) z0 z1 z2 z3)))
      all_goals first
        | (
          (with_reducible show Exit.then _ _ _ _ (World.alloc w7 _))
          have A := Aft.new hS hU HAT.out hgk1 hgk2 hB7 (hr7.keep (fun g _ => rfl) (fun g hg => hg.imp id (fun h => ⟨by have := h.1; first | exact this | (simp at this; omega), h.2⟩)))
          clear zB t5 t6
          generalize w7.heap.size = p at A ⊢
          generalize w7.alloc (tmO v0 v1 v2 v3 v4 v5) = W9 at A ⊢)
        | (
          (with_reducible show Exit.then _ _ _ _ (World.setCell (World.setCell (World.setCell (World.setCell w7 ⟨wr.heap.size, 0, none⟩ _) _ _) _ _) _ _))
          have A := Aft.set hS hU HAT.out hgk1 hgk2 hB7 (by first | exact (hb7.block wr.heap.size (by simp)).trans tB2 | exact (hb7.block wr.heap.size (by simp)).trans tB1 | exact (hb7.block wr.heap.size (by simp)).trans tB3) (hr7.keep (fun g _ => rfl) (fun g hg => hg.imp id (fun h => ⟨by have := h.1; simp at this; omega, h.2⟩)))
          clear zB t5 t6 tB1 tB2 tB3
          dsimp only [set4] at A
          generalize ((((w7.setCell ⟨wr.heap.size, 0, none⟩ (.int .u8 v0)).setCell ⟨wr.heap.size, 1, none⟩ (.int .i64 v1)).setCell ⟨wr.heap.size, 2, none⟩ (.string v2)).setCell ⟨wr.heap.size, 3, none⟩ (.slice v3 v4 v5)) = W9 at A ⊢
          generalize wr.heap.size = p at A ⊢)
      all_goals
        have A10 := A.name hS ⟨R.1.toArray⟩
        clear e0 e1 e2 e3 c0 c1 c2 c3 d0 d1 d2 d3
        have h10z : (W9.setCell ⟨w.heap.size, 2, none⟩ (.string ⟨R.1.toArray⟩)).heap.size = W9.heap.size := by simp [World.setCell]
        obtain ⟨e0, e1, e2, e3, _⟩ := cells4 A10.here
        obtain ⟨_, _, _, _, g0, g1, g2, g3⟩ := cells4 A.boxes.body
        obtain ⟨xs, hown, hv, hrep⟩ := A10.row
        have hown4 := hown.alloc (tmO v0 v1 v2 v3 v4 v5)
        rw [HLK.out] at hown4
        have z5 := four_new (W9.setCell ⟨w.heap.size, 2, none⟩ (.string ⟨R.1.toArray⟩)) (.int .u8 v0) (.int .i64 v1) (.string v2) (.slice v3 v4 v5) 54
        rw [h10z] at z5
        have hz10 := A10.boxes.size
        have q5 : w.heap.size + 3 ≤ ((W9.setCell ⟨w.heap.size, 2, none⟩ (.string ⟨R.1.toArray⟩)).alloc (tmO v0 v1 v2 v3 v4 v5)).heap.size := by rw [World.size_alloc]; omega
        have q6 : ∀ u ∈ [Value.int .u8 v0, .int .i64 v1, .string v2, .slice v3 v4 v5], u.oneCell' = true := by simp [Value.oneCell']
        have hq3 : m + 1 ≤ maxLen := by unfold maxLen; omega
        have HOWN := Lib.hid hown
        have HREP := Lib.hid hrep
        have HA := Lib.hid A10
        clear hown hrep A10 A hr7 hb7 hB7 LB KU2 hU
        generalize hbb : R.2.2 = bb
        have HBB := Lib.hid hbb
        clear hbb
        cases G
      all_goals
        go_wp2_with (at_builtin; (refine wpList_append_own_at _ rfl _ _ 52 rfl (w.heap.size + 3) 54 i0 _ 4 56 Tryz.underlying52 hi hz0 hz1 hz2 rfl (by decide) _ _ _ rfl hown4 ⟨W9.heap.size, 0, none⟩ 1 1 [.int .u8 v0, .int .i64 v1, .string v2, .slice v3 v4 v5] rfl rfl z5 q6 hq3 (by omega) q5 ?_); intro v' w4 hown' hgrow hnil hwhere
                     have K11 := ks_round (o := tmO v0 v1 v2 v3 v4 v5) (fun g hg => by have := hS g hg; omega) (by omega) HOWN.out (by simp) HREP.out HA.out.rep (by rw [HLK.out]; exact hown') (by exact hgrow) (by exact hnil) (by exact hwhere)
                     have U11 := (HA.out.boxes.keep ((Below.refl _ _).alloc (Nat.le_refl _) (tmO v0 v1 v2 v3 v4 v5))).grow hgrow (fun g' hg' => by have hg9 : gk = g' := Option.some.inj hg'; omega)
                     have hl11 : (((qual t).map fun s => (subS n x u s).1) ++ [R.2.1]).length = m + 1 := by rw [List.length_append, HLK.out]; rfl
                     obtain ⟨gl, cl, hvl, hgl1, hgl2⟩ := ks_shape K11
                     rw [hvl] at K11
                     rw [hl11] at hvl
                     have HK := Lib.hid K11
                     have HL11 := Lib.hid hl11
                     clear K11 hl11 hnil hwhere hgrow hown'
                     subst hvl
                     obtain ⟨b0, b1, b2, b3, j0, j1, j2, j3⟩ := cells4 U11.body
                     obtain ⟨r0, r1, r2, r3, f0, f1, f2, f3⟩ := cells4 U11.res)
        refine bodyPost_ret (v := .tuple #[.agg #[.int .u8 (kindOf t : Int), .int .i64 (numOf t : Int), .string ⟨R.1.toArray⟩, .slice (some ⟨gl, 0, none⟩) (m + 1) cl], .bool (((qual t).all fun s => (subS n x u s).2) && R.2.2)]) (by rw [← HG.out, HBB.out]; simp [results, Tryz.results86, go_sem, r0, r1, r2, r3]) rfl ?_
        rw [P5.out, HR.out]
        refine ⟨_, rfl, set4_below (U11.below.setCell (p := ⟨w.heap.size, 3, none⟩) (Nat.le_refl _) _) (by omega) _ _ _ _, ?_⟩
        have RR := ks_rep (W' := set4 (w4.setCell ⟨w.heap.size, 3, none⟩ (.slice (some ⟨gl, 0, none⟩) (m + 1) cl)) (w.heap.size + 1 + 1) (.int .u8 (kindOf t : Int)) (.int .i64 (numOf t : Int)) (.string ⟨R.1.toArray⟩) (.slice (some ⟨gl, 0, none⟩) (m + 1) cl)) HK.out (fun g hg => by have := hS g hg; omega) (by rw [P4.out, HR.out]) (by rw [set4_size]; simp [World.setCell]) (fun g' hg' => by
          have : g' ≠ w.heap.size ∧ g' ≠ w.heap.size + 1 + 1 := by
            rcases hg' with h | h
            · have := hS g' h; omega
            · omega
          exact (set4_far _ _ _ _ _ _ g' this.2).trans (Below.heap_setCell _ _ _ _ this.1))
        unfold tmHead at RR
        rw [P1.out, P2.out, P3.out, P4.out, HR.out, HL11.out] at RR
        exact RR.keep (fun g' _ => rfl) (fun g' hg' => hg'.imp id (fun h => ⟨by omega, h.2⟩))
end Go.Proofs.YtefmmgccdpfnaaaGreatDoor

/- The specification's putting: terms without kids. -/
namespace Go.Proofs.YtefmmgccdpfnaaaGreatDoor
open Go.RowKit
open Ff
set_option linter.unusedVariables false

theorem byte_ne {d c : UInt8} (h : d ≠ c) : (d == c) = false := by rw [beq_eq_false_iff_ne]; exact h
theorem below_three (w : World) (o1 o2 o3 : Obj) : Below w.heap.size w (((w.alloc o1).alloc o2).alloc o3) := (below_two w o1 o2).alloc (by simp; omega) o3
set_option maxRecDepth 100000 in
set_option maxHeartbeats 1000000 in
theorem subst_num (n : Nat) (m : Nat) (S : Nat → Prop) (x : UInt8) (u : Tm) (vt vu : Value) (w : World) (hS : ∀ g, S g → g < w.heap.size) (hrt : Rep S w (.num m) vt) (hru : Rep S w u vu) :
    Calls Tryz.prog 86 #[vt, .string ⟨([x] : Text).toArray⟩, vu] w fun e w' => ∃ v, e = .returned (.tuple #[v, .bool true]) ∧ Below w.heap.size w w' ∧ Rep (fun g => S g ∨ New w w' g) w' (.num m) v := by
  obtain ⟨u0, u1, u2, u3, u4, u5, rfl⟩ := hru.junk
  have HR := Lib.hid hrt
  cases hrt with
  | mk _ g cap cs hg hc hk =>
  clear hc hk
  unfold tmHead at HR
  unfold tmHead
  replace HR : Hid (Rep S w (.num m) (.agg #[.int .u8 110, .int .i64 (m : Int), .string ⟨#[]⟩, .slice (some ⟨g, 0, none⟩) 0 cap])) := HR
  show Calls Tryz.prog 86 #[.agg #[.int .u8 110, .int .i64 (m : Int), .string ⟨#[]⟩, .slice (some ⟨g, 0, none⟩) 0 cap], .string ⟨#[x]⟩, .agg #[.int .u8 u0, .int .i64 u1, .string u2, .slice u3 u4 u5]] w _
  go_enter Tryz.func86, Tryz.ntmps86
  go_wp2_with fail
  refine bodyPost_ret (v := .tuple #[.agg #[.int .u8 110, .int .i64 (m : Int), .string ⟨#[]⟩, .slice (some ⟨g, 0, none⟩) 0 cap], .bool true]) (by simp [results, Tryz.results86, go_sem]) rfl ?_
  exact ⟨_, rfl, below_three _ _ _ _, HR.out.keep (fun g' hg' => (below_three w _ _ _).block g' (hS g' hg')) (fun g' hg' => .inl hg')⟩
set_option maxRecDepth 100000 in
set_option maxHeartbeats 1000000 in
theorem subst_var (n : Nat) (c : UInt8) (S : Nat → Prop) (x : UInt8) (u : Tm) (vt vu : Value) (w : World) (hS : ∀ g, S g → g < w.heap.size) (hrt : Rep S w (.var c) vt) (hru : Rep S w u vu) :
    Calls Tryz.prog 86 #[vt, .string ⟨([x] : Text).toArray⟩, vu] w fun e w' => ∃ v, e = .returned (.tuple #[v, .bool true]) ∧ Below w.heap.size w w' ∧ Rep (fun g => S g ∨ New w w' g) w' (if c = x then u else .var c) v := by
  obtain ⟨u0, u1, u2, u3, u4, u5, rfl⟩ := hru.junk
  have HU := Lib.hid hru
  have HR := Lib.hid hrt
  cases hrt with
  | mk _ g cap cs hg hc hk =>
  clear hc hk hru
  unfold tmHead at HR
  unfold tmHead
  replace HR : Hid (Rep S w (.var c) (.agg #[.int .u8 118, .int .i64 0, .string ⟨#[c]⟩, .slice (some ⟨g, 0, none⟩) 0 cap])) := HR
  show Calls Tryz.prog 86 #[.agg #[.int .u8 118, .int .i64 0, .string ⟨#[c]⟩, .slice (some ⟨g, 0, none⟩) 0 cap], .string ⟨#[x]⟩, .agg #[.int .u8 u0, .int .i64 u1, .string u2, .slice u3 u4 u5]] w _
  by_cases h : c = x
  · subst h
    rw [if_pos rfl]
    go_enter Tryz.func86, Tryz.ntmps86
    go_wp2_with fail
    refine bodyPost_ret (v := .tuple #[.agg #[.int .u8 u0, .int .i64 u1, .string u2, .slice u3 u4 u5], .bool true]) (by simp [results, Tryz.results86, go_sem]) rfl ?_
    exact ⟨_, rfl, below_three _ _ _ _, HU.out.keep (fun g' hg' => (below_three w _ _ _).block g' (hS g' hg')) (fun g' hg' => .inl hg')⟩
  · have hq := byte_ne h
    rw [if_neg h]
    clear h
    go_enter Tryz.func86, Tryz.ntmps86
    go_wp2_with fail
    refine bodyPost_ret (v := .tuple #[.agg #[.int .u8 118, .int .i64 0, .string ⟨#[c]⟩, .slice (some ⟨g, 0, none⟩) 0 cap], .bool true]) (by simp [results, Tryz.results86, go_sem]) rfl ?_
    exact ⟨_, rfl, below_three _ _ _ _, HR.out.keep (fun g' hg' => (below_three w _ _ _).block g' (hS g' hg')) (fun g' hg' => .inl hg')⟩
end Go.Proofs.YtefmmgccdpfnaaaGreatDoor

/- The specification's putting, at every term; Put. -/
namespace Go.Proofs.YtefmmgccdpfnaaaGreatDoor
open Go.RowKit
open Ff
set_option linter.unusedVariables false

theorem subst_c : ∀ n, SubSC n
  | 0 => fun _ _ t _ _ _ _ hd => absurd hd (by have := t.depth_pos; omega)
  | n + 1 => by
    intro S x t u vt vu w hd hn hg hu hud hp hx hS hrt hru
    have ih := subst_c n
    by_cases hk : t.kids = []
    · cases t with
      | num m => exact subst_num n m S x u vt vu w hS hrt hru
      | var c => exact subst_var n c S x u vt vu w hS hrt hru
      | _ => simp [Tm.kids] at hk
    · by_cases hb : bindsOf t = []
      · exact subst_plain n ih S x t u vt vu w hd hn hg hu hud hp hx hS hrt hru hk hb
      · exact subst_binds n ih S x t u vt vu w hd hn hg hu hud hp hx hS hrt hru hb
theorem fits_read {t : Tm} (hg : t.good) : (readS (textN t)).isSome = fitsT t := by
  unfold fitsT
  rcases hr : readS (textN t) with _ | t'
  · rw [Option.isSome_none, eq_comm, Bool.and_eq_false_iff, decide_eq_false_iff_not, decide_eq_false_iff_not]
    apply Classical.byContradiction
    intro h
    simp only [not_or, Classical.not_not] at h
    rw [text_readS hg h.2 h.1] at hr
    cases hr
  · obtain ⟨r, h1, rfl, hlen⟩ := readS_some hr
    have e : t' = t := by
      have h2 := text_parse t hg (t.depth + t'.depth + (textN t).length) [] (by omega)
      rw [List.append_nil] at h2
      have h3 := (parse_any _ _ _ _ h1).2 (t.depth + t'.depth + (textN t).length) (by have := (parse_any _ _ _ _ h1).1; omega)
      rw [h2] at h3
      simp at h3
      exact h3.symm
    subst e
    have h2 := parse_depth _ _ _ _ h1
    simp [hlen, h2]
theorem Rep.low {S : Nat → Prop} {w : World} {t : Tm} {v : Value} {B : Nat} (h : Rep S w t v) (hS : ∀ g, S g → g < B) : Rep (fun g => g < B) w t v := h.keep (fun _ _ => rfl) (fun g hg => hS g hg)
theorem box_far {W : World} {b : Nat} {z0 z1 z2 z3 : Value} {t : TypeId} {o : Obj} (h : W.heap[b]? = some (.cells #[z0, z1, z2, z3] t (0, 0))) : (W.alloc o).heap[b]? = some (.cells #[z0, z1, z2, z3] t (0, 0)) := by
  rw [alloc_far _ _ (Array.getElem?_eq_some_iff.1 h).1]; exact h
end Go.Proofs.YtefmmgccdpfnaaaGreatDoor
