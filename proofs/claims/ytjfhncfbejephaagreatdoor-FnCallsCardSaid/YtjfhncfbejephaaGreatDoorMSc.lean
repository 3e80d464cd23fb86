import Derived.Test.YtjfhncfbejephaaGreatDoorMWa
import Derived.Test.YtjfhncfbejephaaGreatDoorMWb
import Derived.Test.YtjfhncfbejephaaGreatDoorMTm
import Derived.Test.YtjfhncfbejephaaGreatDoorMDp
/- The model's reader of a text: the reader of terms itself. -/
namespace Go.Proofs.YtjfhncfbejephaaGreatDoor
open Go.RowKit
open Ff
set_option linter.unusedVariables false

theorem within_c (m : Nat) (ih : TermS m) (ib : TermBad) (b : Nat) (T r : Text) (c : UInt8) (w : World) (h : Good b T r (24 - (m : Int)) w) (hl : T.length ≤ 4000) :
    Calls Tryz.prog 99 #[.pointer (some ⟨b, 0, none⟩), .int .u8 (c.toNat : Int)] w (TermPostS b T (24 - (m : Int)) w (pBehind (parse m) c r)) := by
  by_cases h35 : c.toNat = 35
  · have e : pBehind (parse m) c r = pLong r := by simp [pBehind, h35]
    rw [e, h35]
    exact within_35 m b T r w h hl
  by_cases h92 : c.toNat = 92
  · have e : pBehind (parse m) c r = pFn (parse m) r := by simp [pBehind, h92]
    rw [e, h92]
    exact within_92 m ih ib b T r w h hl
  by_cases h64 : c.toNat = 64
  · have e : pBehind (parse m) c r = pFix (parse m) r := by simp [pBehind, h64]
    rw [e, h64]
    exact within_64 m ih ib b T r w h hl
  by_cases h40 : c.toNat = 40
  · have e : pBehind (parse m) c r = pApp (parse m) r := by simp [pBehind, h40]
    rw [e, h40]
    exact within_40 m ih ib b T r w h hl
  by_cases h61 : c.toNat = 61
  · have e : pBehind (parse m) c r = pBind (parse m) r := by simp [pBehind, h61]
    rw [e, h61]
    exact within_61 m ih ib b T r w h hl
  by_cases h43 : c.toNat = 43
  · have e : pBehind (parse m) c r = pOp (parse m) 43 r := by simp [pBehind, h43]; rw [show c = 43 from UInt8.toNat_inj.1 h43]
    rw [e, h43]
    exact within_43 m ih ib b T r w h hl
  by_cases h45 : c.toNat = 45
  · have e : pBehind (parse m) c r = pOp (parse m) 45 r := by simp [pBehind, h45]; rw [show c = 45 from UInt8.toNat_inj.1 h45]
    rw [e, h45]
    exact within_45 m ih ib b T r w h hl
  by_cases h42 : c.toNat = 42
  · have e : pBehind (parse m) c r = pOp (parse m) 42 r := by simp [pBehind, h42]; rw [show c = 42 from UInt8.toNat_inj.1 h42]
    rw [e, h42]
    exact within_42 m ih ib b T r w h hl
  by_cases h63 : c.toNat = 63
  · have e : pBehind (parse m) c r = pSel (parse m) r := by simp [pBehind, h63]
    rw [e, h63]
    exact within_63 m ih ib b T r w h hl
  cases hD : isDig c with
  | true =>
    have e : pBehind (parse m) c r = some (Tm.num (c.toNat - 48), r) := by simp [pBehind, *]
    rw [e]
    exact within_dig m b T r c w h hD
  | false =>
    cases hN : isNam c with
    | true =>
      have e : pBehind (parse m) c r = some (Tm.var c, r) := by simp [pBehind, *]
      rw [e]
      exact within_nam m b T r c w h hN
    | false =>
      have e : pBehind (parse m) c r = none := by simp [pBehind, *]
      rw [e]
      obtain ⟨a, ha, hd, hs⟩ := h
      exact within_none b T c a false _ w hs ha hD hN h35 h92 h64 h40 h61 h43 h45 h42 h63

set_option maxRecDepth 100000 in
set_option maxHeartbeats 4000000 in
theorem sterm_stop (b : Nat) (T : Text) (a : Nat) (bad : Bool) (d : Int) (w : World) (h : SR b T (a : Int) bad d w) (ha : a ≤ T.length) (hs : bad = true ∨ d = 24) :
    Calls Tryz.prog 91 #[.pointer (some ⟨b, 0, none⟩)] w fun e w' => ∃ v, e = .returned v ∧ w.grownBy w' (some b) ∧ Bad b T w' ∧ Junk v := by
  have hbw := h.lt
  have nb : ¬ b = w.heap.size := by omega
  have G : SR b T (a : Int) bad d (w.alloc (.cells #[.int .u8 0, .int .i64 0, .string ⟨#[]⟩, .slice none 0 0] 78)) := h.alloc _
  have g3 := G.c3
  have gf := G.f3
  rcases hs with rfl | rfl
  · obtain ⟨c0, c1, c2, c3, c4, c5, f1, f2, f3⟩ := (h.setDeep (wrap64 (d + 1))).alloc (.cells #[.int .u8 0, .int .i64 0, .string ⟨#[]⟩, .slice none 0 0] 78)
    go_enter Tryz.func91, Tryz.ntmps91
    go_wp2_with fail
    all_goals
      refine bodyPost_ret (v := .agg #[.int .u8 0, .int .i64 0, .string ⟨#[]⟩, .slice none 0 0]) (by simp [results, Tryz.results91, go_sem]) rfl ?_
      exact ⟨_, rfl, grownBy_alloc (grownBy_set (grownBy_set (World.grownBy.refl _ _) _ _) _ _) _, ⟨a, _, ha, ((h.setDeep (wrap64 (d + 1))).setBad true).alloc _⟩, ⟨_, _, _, _, _, _, rfl⟩⟩
  · obtain ⟨c0, c1, c2, c3, c4, c5, f1, f2, f3⟩ := (h.setDeep 25).alloc (.cells #[.int .u8 0, .int .i64 0, .string ⟨#[]⟩, .slice none 0 0] 78)
    go_enter Tryz.func91, Tryz.ntmps91
    go_wp2_with fail
    refine bodyPost_ret (v := .agg #[.int .u8 0, .int .i64 0, .string ⟨#[]⟩, .slice none 0 0]) (by simp [results, Tryz.results91, go_sem]) rfl ?_
    exact ⟨_, rfl, grownBy_alloc (grownBy_set (grownBy_set (World.grownBy.refl _ _) _ _) _ _) _, ⟨a, _, ha, ((h.setDeep 25).setBad true).alloc _⟩, ⟨_, _, _, _, _, _, rfl⟩⟩
theorem sterm_bad : TermBad := fun b T w ⟨a, d, ha, h⟩ hl => sterm_stop b T a true d w h ha (.inl rfl)
theorem sterm_zero : TermS 0 := fun b T s w ⟨a, ha, hd, h⟩ hl => (sterm_stop b T a false _ w h ha (.inr rfl)).mono fun e w' h => h

/-- The block of the function's result, zero. -/
structure Fz (h : Nat) (W : World) : Prop where
  p0 : W.cell? ⟨h, 0, none⟩ = some (.int .u8 0)
  p1 : W.cell? ⟨h, 1, none⟩ = some (.int .i64 0)
  p2 : W.cell? ⟨h, 2, none⟩ = some (.string ⟨#[]⟩)
  p3 : W.cell? ⟨h, 3, none⟩ = some (.slice none 0 0)
  q0 : W.frozen? ⟨h, 0, none⟩ = false
  q1 : W.frozen? ⟨h, 1, none⟩ = false
  q2 : W.frozen? ⟨h, 2, none⟩ = false
  q3 : W.frozen? ⟨h, 3, none⟩ = false
  sz : h < W.heap.size
theorem Fz.keep {h b : Nat} {W W' : World} (f : Fz h W) (hg : W.grownBy W' (some b)) (hb : b < h) : Fz h W' := by
  have s := f.sz
  have s1 := hg.size
  have e1 : W'.heap[h]? = W.heap[h]? := hg.block h (by omega) (by simp; omega)
  have c1 : ∀ j, W'.cell? ⟨h, j, none⟩ = W.cell? ⟨h, j, none⟩ := fun j => World.cell?_of_block (a := ⟨h, j, none⟩) e1
  have f1 : ∀ j, W'.frozen? ⟨h, j, none⟩ = W.frozen? ⟨h, j, none⟩ := fun j => World.frozen?_of_block (a := ⟨h, j, none⟩) e1
  exact ⟨(c1 _).trans f.p0, (c1 _).trans f.p1, (c1 _).trans f.p2, (c1 _).trans f.p3, (f1 _).trans f.q0, (f1 _).trans f.q1, (f1 _).trans f.q2, (f1 _).trans f.q3, by omega⟩
theorem Fz_new (w : World) : Fz w.heap.size (w.alloc (.cells #[.int .u8 0, .int .i64 0, .string ⟨#[]⟩, .slice none 0 0] 78)) := by
  constructor <;> simp [go_sem]

set_option maxRecDepth 100000 in
set_option maxHeartbeats 4000000 in
theorem sterm_step (m : Nat) (hm : m + 1 ≤ 4000) (ih : TermS m) : TermS (m + 1) := by
  intro b T s w hg hl
  obtain ⟨a, ha, hd, h⟩ := hg
  have hbw := h.lt
  have nb : ¬ b = w.heap.size := by omega
  have e1 : (24 - ((m + 1 : Nat) : Int)) + 1 = 24 - (m : Int) := by omega
  have dd : ∃ d : Int, d = 24 - (m : Int) := ⟨_, rfl⟩
  obtain ⟨d, hd1⟩ := dd
  have ed : 24 - ((m + 1 : Nat) : Int) = d - 1 := by omega
  have hd24 : d ≤ 24 := by omega
  have hd0 : -4000 ≤ d := by omega
  rw [ed] at h ⊢
  have HD := Lib.hid hd1
  have HE := Lib.hid hd
  clear hd hd1 e1 ed
  have G : SR b T (a : Int) false (d - 1) (w.alloc (.cells #[.int .u8 0, .int .i64 0, .string ⟨#[]⟩, .slice none 0 0] 78)) := h.alloc _
  have g3 := G.c3
  have gf := G.f3
  have G2 := (h.setDeep d).alloc (.cells #[.int .u8 0, .int .i64 0, .string ⟨#[]⟩, .slice none 0 0] 78)
  obtain ⟨c0, c1, c2, c3, c4, c5, f1, f2, f3⟩ := id G2
  go_enter Tryz.func91, Tryz.ntmps91
  go_wp2_with fail
  refine (snext_c b T a false d _ G2 ha hl).mono ?_
  rintro e w1 ⟨x, a', bad', rfl, hsp, ha', hwhy⟩
  have Z1 : Fz w.heap.size w1 := by
    have z : Fz w.heap.size ((w.setCell ⟨b, 3, none⟩ (.int .i64 d)).alloc (.cells #[.int .u8 0, .int .i64 0, .string ⟨#[]⟩, .slice none 0 0] 78)) := by
      have z0 := Fz_new (w.setCell ⟨b, 3, none⟩ (.int .i64 d))
      have e : (w.setCell ⟨b, 3, none⟩ (.int .i64 d)).heap.size = w.heap.size := by simp [World.setCell]
      rwa [e] at z0
    exact z.keep hsp.rest hbw
  have hgw : w.grownBy w1 (some b) := grownBy_trans (grownBy_alloc (grownBy_setCell _ _ _ _) _) hsp.rest
  clear c0 c1 c2 c3 c4 c5 f1 f2 f3 g3 gf
  have hz1 := Z1.sz
  have HW := Lib.hid hwhy
  clear hwhy
  go_wp2_with fail
  rcases HW.out with ⟨hc, rfl, rfl⟩ | ⟨rfl, rfl, rfl, rfl⟩
  · have hgood : Good b T (T.drop (a + 1)) (24 - (m : Int)) w1 := ⟨a + 1, ha', rfl, HD.out ▸ hsp.sr⟩
    have E0 : parse (m + 1) s = pBehind (parse m) x (T.drop (a + 1)) := by rw [← HE.out, drop_head hc]; simp [parse, next1]
    have C := within_c m ih sterm_bad b T _ x w1 hgood hl
    clear HW hc
    refine C.mono ?_
    rcases hpb : pBehind (parse m) x (T.drop (a + 1)) with _ | ⟨t, r2⟩
    · have E : parse (m + 1) s = none := by rw [E0, hpb]
      clear E0 hpb C
      rintro e w2 ⟨v, rfl, hg2, ⟨a3, d3, ha3, hsr3⟩, k, n, st, aa, l, c, rfl⟩
      have E := Lib.hid E
      have hb2 := hsr3.lt
      have A3 := hsr3.alloc (.cells #[.int .u8 k, .int .i64 n, .string st, .slice aa l c] 78)
      have A4 := (hsr3.setDeep (wrap64 (d3 - 1))).alloc (.cells #[.int .u8 k, .int .i64 n, .string st, .slice aa l c] 78)
      have i3 := A3.c3
      have j3 := A3.f3
      have hgz : w2.grownBy ((w2.setCell ⟨b, 3, none⟩ (.int .i64 (wrap64 (d3 - 1)))).alloc (.cells #[.int .u8 k, .int .i64 n, .string st, .slice aa l c] 78)) (some b) := grownBy_alloc (grownBy_setCell _ _ _ _) _
      obtain ⟨p0, p1, p2, p3, q0, q1, q2, q3, sz⟩ := (Z1.keep hg2 hbw).keep hgz hbw
      go_wp2_with fail
      refine bodyPost_ret (v := .agg #[.int .u8 k, .int .i64 n, .string st, .slice aa l c]) (by simp [results, Tryz.results91, go_sem, p0, p1, p2, p3]) rfl ?_
      rw [E.out]
      exact ⟨_, rfl, Wf_grown (grownBy_trans (grownBy_trans hgw hg2) hgz) _ _ _ _, ⟨a3, _, ha3, A4.same (Wf_heap _ _ _ _ _ _ _ nb)⟩, ⟨_, _, _, _, _, _, rfl⟩⟩
    · have E : parse (m + 1) s = some (t, r2) := by rw [E0, hpb]
      clear E0 hpb C
      rintro e w2 ⟨v, rfl, hg2, ⟨a3, ha3, hd3, hsr3⟩, hrep⟩
      obtain ⟨k, n, st, aa, l, c, rfl⟩ := hrep.junk
      have E := Lib.hid E
      have HD3 := Lib.hid hd3
      clear hd3
      rw [← HD.out] at hsr3
      have hb2 := hsr3.lt
      have A3 := hsr3.alloc (.cells #[.int .u8 k, .int .i64 n, .string st, .slice aa l c] 78)
      have A4 := (hsr3.setDeep (d - 1)).alloc (.cells #[.int .u8 k, .int .i64 n, .string st, .slice aa l c] 78)
      have i3 := A3.c3
      have j3 := A3.f3
      have hgz : w2.grownBy ((w2.setCell ⟨b, 3, none⟩ (.int .i64 (d - 1))).alloc (.cells #[.int .u8 k, .int .i64 n, .string st, .slice aa l c] 78)) (some b) := grownBy_alloc (grownBy_setCell _ _ _ _) _
      obtain ⟨p0, p1, p2, p3, q0, q1, q2, q3, sz⟩ := (Z1.keep hg2 hbw).keep hgz hbw
      go_wp2_with fail
      refine bodyPost_ret (v := .agg #[.int .u8 k, .int .i64 n, .string st, .slice aa l c]) (by simp [results, Tryz.results91, go_sem, p0, p1, p2, p3]) rfl ?_
      rw [E.out]
      refine ⟨_, rfl, Wf_grown (grownBy_trans (grownBy_trans hgw hg2) hgz) _ _ _ _, ⟨a3, ha3, HD3.out, A4.same (Wf_heap _ _ _ _ _ _ _ nb)⟩, ?_⟩
      have hgs := hgw.size
      refine hrep.keep (fun g' hg' => ?_) (fun g' hg' => ⟨by have := hg'.1; omega, ?_⟩)
      · have h1 := hg'.1
        have h2 := hg'.2
        exact (Wf_heap _ _ _ _ _ _ _ (by omega)).trans (hgz.block g' h2 (by simp; omega))
      · have h2 := hg'.2
        simp [World.setCell]
        omega
  · have E : parse (m + 1) s = none := by rw [← HE.out]; simp [parse, next1]
    have C := within_none b T 0 T.length true d w1 hsp.sr (Nat.le_refl _) rfl rfl (by decide) (by decide) (by decide) (by decide) (by decide) (by decide) (by decide) (by decide) (by decide)
    clear HW
    refine C.mono ?_
    rintro e w2 ⟨v, rfl, hg2, ⟨a3, d3, ha3, hsr3⟩, k, n, st, aa, l, c, rfl⟩
    have E := Lib.hid E
    have hb2 := hsr3.lt
    have A3 := hsr3.alloc (.cells #[.int .u8 k, .int .i64 n, .string st, .slice aa l c] 78)
    have A4 := (hsr3.setDeep (wrap64 (d3 - 1))).alloc (.cells #[.int .u8 k, .int .i64 n, .string st, .slice aa l c] 78)
    have i3 := A3.c3
    have j3 := A3.f3
    have hgz : w2.grownBy ((w2.setCell ⟨b, 3, none⟩ (.int .i64 (wrap64 (d3 - 1)))).alloc (.cells #[.int .u8 k, .int .i64 n, .string st, .slice aa l c] 78)) (some b) := grownBy_alloc (grownBy_setCell _ _ _ _) _
    obtain ⟨p0, p1, p2, p3, q0, q1, q2, q3, sz⟩ := (Z1.keep hg2 hbw).keep hgz hbw
    go_wp2_with fail
    refine bodyPost_ret (v := .agg #[.int .u8 k, .int .i64 n, .string st, .slice aa l c]) (by simp [results, Tryz.results91, go_sem, p0, p1, p2, p3]) rfl ?_
    rw [E.out]
    exact ⟨_, rfl, Wf_grown (grownBy_trans (grownBy_trans hgw hg2) hgz) _ _ _ _, ⟨a3, _, ha3, A4.same (Wf_heap _ _ _ _ _ _ _ nb)⟩, ⟨_, _, _, _, _, _, rfl⟩⟩

theorem sterm_c : ∀ m, m ≤ 4000 → TermS m
  | 0, _ => sterm_zero
  | m + 1, h => sterm_step m h (sterm_c m (by omega))
end Go.Proofs.YtjfhncfbejephaaGreatDoor

/- The model's l1Long and l1Read: what a text is as a term, or none. -/
namespace Go.Proofs.YtjfhncfbejephaaGreatDoor
open Go.RowKit
open Ff
set_option linter.unusedVariables false

theorem readS_eq (s : Text) : readS s = readT s := by
  unfold readS readT
  split
  · rcases h1 : parse 24 s with _ | ⟨t, r⟩
    · rcases h2 : parse (s.length + 1) s with _ | ⟨t, r⟩
      · rfl
      · by_cases hd : t.depth ≤ 24
        · rw [(parse_any _ _ _ _ h2).2 24 hd] at h1; cases h1
        · simp [hd]
    · have hd := parse_depth _ _ _ _ h1
      obtain ⟨hl, ha⟩ := parse_any _ _ _ _ h1
      rw [ha (s.length + 1) (by omega)]
      simp [hd]
  · rfl

theorem Fz.keepNe {h b : Nat} {W W' : World} (f : Fz h W) (hg : W.grownBy W' (some b)) (hb : b ≠ h) : Fz h W' := by
  have s := f.sz
  have s1 := hg.size
  have e1 : W'.heap[h]? = W.heap[h]? := hg.block h (by omega) (by simp; omega)
  have c1 : ∀ j, W'.cell? ⟨h, j, none⟩ = W.cell? ⟨h, j, none⟩ := fun j => World.cell?_of_block (a := ⟨h, j, none⟩) e1
  have f1 : ∀ j, W'.frozen? ⟨h, j, none⟩ = W.frozen? ⟨h, j, none⟩ := fun j => World.frozen?_of_block (a := ⟨h, j, none⟩) e1
  exact ⟨(c1 _).trans f.p0, (c1 _).trans f.p1, (c1 _).trans f.p2, (c1 _).trans f.p3, (f1 _).trans f.q0, (f1 _).trans f.q1, (f1 _).trans f.q2, (f1 _).trans f.q3, by omega⟩
theorem Fz.keepBelow {h B : Nat} {W W' : World} (f : Fz h W) (hg : Below B W W') (hb : h < B) : Fz h W' := by
  have s := f.sz
  have s1 := hg.size
  have c1 : ∀ j, W'.cell? ⟨h, j, none⟩ = W.cell? ⟨h, j, none⟩ := fun j => hg.cell (p := ⟨h, j, none⟩) hb
  have f1 : ∀ j, W'.frozen? ⟨h, j, none⟩ = W.frozen? ⟨h, j, none⟩ := fun j => hg.frozen (p := ⟨h, j, none⟩) hb
  exact ⟨(c1 _).trans f.p0, (c1 _).trans f.p1, (c1 _).trans f.p2, (c1 _).trans f.p3, (f1 _).trans f.q0, (f1 _).trans f.q1, (f1 _).trans f.q2, (f1 _).trans f.q3, by omega⟩
/-- The zero value of the model's terms. -/
def zeroTm : Value := .agg #[.int .u8 0, .int .i64 0, .string ⟨#[]⟩, .slice none 0 0]
/-- What the reading of a text comes to. -/
def LongPost (w : World) : Option Tm → Ending → World → Prop
  | some t, e, w' => ∃ v, e = .returned (.tuple #[v, .bool true]) ∧ Below w.heap.size w w' ∧ Rep (New w w') w' t v
  | none, e, w' => e = .returned (.tuple #[zeroTm, .bool false]) ∧ Below w.heap.size w w'

set_option maxRecDepth 100000 in
set_option maxHeartbeats 4000000 in
theorem long_c2 (s : Text) (w : World) (hl : s.length ≤ 120) :
    Calls Tryz.prog 65 #[.string ⟨s.toArray⟩] w (LongPost w ((parse 24 s).bind fun x => if x.2 = [] then some x.1 else none)) := by
  have S0 : SR (w.heap.size + 1) s ((0 : Nat) : Int) false 0 ((w.alloc (.cells #[.int .u8 0, .int .i64 0, .string ⟨#[]⟩, .slice none 0 0] 78)).alloc (.cells #[.string ⟨s.toArray⟩, .int .i64 0, .bool false, .int .i64 0, .bool false, .bool false] 188)) := by
    constructor <;> simp [go_sem]
  have G0 : Good (w.heap.size + 1) s s (24 - ((24 : Nat) : Int)) ((w.alloc (.cells #[.int .u8 0, .int .i64 0, .string ⟨#[]⟩, .slice none 0 0] 78)).alloc (.cells #[.string ⟨s.toArray⟩, .int .i64 0, .bool false, .int .i64 0, .bool false, .bool false] 188)) := ⟨0, Nat.zero_le _, rfl, S0⟩
  have C := sterm_c 24 (by omega) (w.heap.size + 1) s s _ G0 (by omega)
  clear G0 S0
  go_enter Tryz.func65, Tryz.ntmps65
  go_wp2_with fail
  refine C.mono ?_
  clear C
  rcases hp : parse 24 s with _ | ⟨t, r⟩
  · rintro e w1 ⟨v, rfl, hg, ⟨a, d, ha, hsr⟩, k, n, st, aa, l, c, rfl⟩
    have Z := (((Fz_new w).keepNe (b := w.heap.size + 1) (grownBy_alloc (World.grownBy.refl _ _) _) (by omega)).keepNe hg (by omega)).keepNe (b := w.heap.size + 1) (grownBy_alloc (World.grownBy.refl _ _) (.cells #[.int .u8 k, .int .i64 n, .string st, .slice aa l c] 78)) (by omega)
    have A := hsr.alloc (.cells #[.int .u8 k, .int .i64 n, .string st, .slice aa l c] 78)
    have hgs := hg.size
    have hb1 : Below w.heap.size w w1 := (below_two w _ _).trans (below_of_grown hg (by omega) (by simp; omega))
    obtain ⟨p0, p1, p2, p3, q0, q1, q2, q3, sz⟩ := id Z
    obtain ⟨c0, c1, c2, c3, c4, c5, f1, f2, f3⟩ := id A
    have E := Lib.hid (show ((parse 24 s).bind fun x => if x.2 = [] then some x.1 else none) = none by rw [hp]; rfl)
    clear hp
    go_wp2_with fail
    rw [E.out]
    refine bodyPost_ret (v := .tuple #[zeroTm, .bool false]) (by simp [results, Tryz.results65, go_sem, zeroTm, p0, p1, p2, p3]) rfl ?_
    exact ⟨rfl, ((((hb1.alloc (by have := hb1.size; omega) _).setCell (p := ⟨w.heap.size, 0, none⟩) (Nat.le_refl _) _).setCell (p := ⟨w.heap.size, 1, none⟩) (Nat.le_refl _) _).setCell (p := ⟨w.heap.size, 2, none⟩) (Nat.le_refl _) _).setCell (p := ⟨w.heap.size, 3, none⟩) (Nat.le_refl _) _⟩
  · rintro e w1 ⟨v, rfl, hg, ⟨a, ha, hd, hsr⟩, hrep⟩
    obtain ⟨k, n, st, aa, l, c, rfl⟩ := hrep.junk
    have Z := (((Fz_new w).keepNe (b := w.heap.size + 1) (grownBy_alloc (World.grownBy.refl _ _) _) (by omega)).keepNe hg (by omega)).keepNe (b := w.heap.size + 1) (grownBy_alloc (World.grownBy.refl _ _) (.cells #[.int .u8 k, .int .i64 n, .string st, .slice aa l c] 78)) (by omega)
    have A := hsr.alloc (.cells #[.int .u8 k, .int .i64 n, .string st, .slice aa l c] 78)
    have hgs := hg.size
    have hb1 : Below w.heap.size w w1 := (below_two w _ _).trans (below_of_grown hg (by omega) (by simp; omega))
    obtain ⟨p0, p1, p2, p3, q0, q1, q2, q3, sz⟩ := id Z
    obtain ⟨c0, c1, c2, c3, c4, c5, f1, f2, f3⟩ := id A
    have hbf := fun x0 x1 x2 x3 => ((((hb1.alloc (by have := hb1.size; omega) (.cells #[.int .u8 k, .int .i64 n, .string st, .slice aa l c] 78)).setCell (p := ⟨w.heap.size, 0, none⟩) (Nat.le_refl _) x0).setCell (p := ⟨w.heap.size, 1, none⟩) (Nat.le_refl _) x1).setCell (p := ⟨w.heap.size, 2, none⟩) (Nat.le_refl _) x2).setCell (p := ⟨w.heap.size, 3, none⟩) (Nat.le_refl _) x3
    cases r with
    | cons x r =>
      have hq : ((a : Int) != (s.length : Int)) = true := by
        rw [bne_iff_ne]
        intro h9
        have : a = s.length := by omega
        rw [this] at hd
        simp at hd
      have hq2 : (a != s.length) = true := by rw [bne_iff_ne]; intro h9; rw [h9] at hd; simp at hd
      have HD := Lib.hid hd
      have E := Lib.hid (show ((parse 24 s).bind fun x => if x.2 = [] then some x.1 else none) = none by rw [hp]; rfl)
      clear hd hp
      go_wp2_with fail
      rw [E.out]
      refine bodyPost_ret (v := .tuple #[zeroTm, .bool false]) (by simp [results, Tryz.results65, go_sem, zeroTm, p0, p1, p2, p3]) rfl ?_
      exact ⟨rfl, hbf _ _ _ _⟩
    | nil =>
      have he : a = s.length := by
        have := congrArg List.length hd
        simp at this
        omega
      have hq : ((a : Int) != (s.length : Int)) = false := by rw [he]; simp
      have hq2 : (a != s.length) = false := by rw [he]; simp
      have HD := Lib.hid hd
      have E := Lib.hid (show ((parse 24 s).bind fun x => if x.2 = [] then some x.1 else none) = some t by rw [hp]; rfl)
      have HE := Lib.hid he
      clear hd hp he
      go_wp2_with fail
      rw [E.out]
      refine bodyPost_ret (v := .tuple #[.agg #[.int .u8 k, .int .i64 n, .string st, .slice aa l c], .bool true]) (by simp [results, Tryz.results65, go_sem, p0, p1, p2, p3]) rfl ?_
      refine ⟨_, rfl, hbf _ _ _ _, ?_⟩
      refine hrep.keep (fun g' hg' => ?_) (fun g' hg' => ⟨by have := hg'.1; simp at this; omega, ?_⟩)
      · have h1 := hg'.1
        have h2 := hg'.2
        simp at h1
        exact (Wf_heap _ _ _ _ _ _ _ (by omega)).trans (Below.heap_alloc _ _ _ h2)
      · have h2 := hg'.2
        simp [World.setCell]
        omega

set_option maxRecDepth 100000 in
set_option maxHeartbeats 4000000 in
theorem sread_c (s : Text) (w : World) (hl : s.length ≤ 9223372036854775807) :
    Calls Tryz.prog 44 #[.string ⟨s.toArray⟩] w (LongPost w (readS s)) := by
  by_cases h : s.length ≤ 120
  · have C := long_c2 s (w.alloc (.cells #[.int .u8 0, .int .i64 0, .string ⟨#[]⟩, .slice none 0 0] 78)) h
    have e : readS s = (parse 24 s).bind fun x => if x.2 = [] then some x.1 else none := by simp only [readS, if_pos h]
    rw [← e] at C
    go_enter Tryz.func44, Tryz.ntmps44
    go_wp2_with fail
    refine C.mono ?_
    have Z := Fz_new w
    have hb0 : Below w.heap.size w (w.alloc (.cells #[.int .u8 0, .int .i64 0, .string ⟨#[]⟩, .slice none 0 0] 78)) := (Below.refl _ w).alloc (Nat.le_refl _) _
    clear C e
    rcases hr : readS s with _ | t
    · rintro e w1 ⟨rfl, hb1⟩
      unfold zeroTm
      have HR := Lib.hid hr
      clear hr
      have hb2 := hb0.trans (hb1.mono (by simp))
      obtain ⟨p0, p1, p2, p3, q0, q1, q2, q3, sz⟩ := Z.keepBelow hb1 (by simp)
      go_wp2_with fail
      refine bodyPost_ret (v := .tuple #[zeroTm, .bool false]) (by simp [results, Tryz.results44, go_sem, zeroTm, p0, p1, p2, p3]) rfl ?_
      rw [HR.out]
      exact ⟨rfl, (((hb2.setCell (p := ⟨w.heap.size, 0, none⟩) (Nat.le_refl _) _).setCell (p := ⟨w.heap.size, 1, none⟩) (Nat.le_refl _) _).setCell (p := ⟨w.heap.size, 2, none⟩) (Nat.le_refl _) _).setCell (p := ⟨w.heap.size, 3, none⟩) (Nat.le_refl _) _⟩
    · rintro e w1 ⟨v, rfl, hb1, hrep⟩
      obtain ⟨k, n, st, aa, l, c, rfl⟩ := hrep.junk
      have HR := Lib.hid hr
      clear hr
      have hb2 := hb0.trans (hb1.mono (by simp))
      obtain ⟨p0, p1, p2, p3, q0, q1, q2, q3, sz⟩ := Z.keepBelow hb1 (by simp)
      go_wp2_with fail
      refine bodyPost_ret (v := .tuple #[.agg #[.int .u8 k, .int .i64 n, .string st, .slice aa l c], .bool true]) (by simp [results, Tryz.results44, go_sem, p0, p1, p2, p3]) rfl ?_
      rw [HR.out]
      refine ⟨_, rfl, (((hb2.setCell (p := ⟨w.heap.size, 0, none⟩) (Nat.le_refl _) _).setCell (p := ⟨w.heap.size, 1, none⟩) (Nat.le_refl _) _).setCell (p := ⟨w.heap.size, 2, none⟩) (Nat.le_refl _) _).setCell (p := ⟨w.heap.size, 3, none⟩) (Nat.le_refl _) _, ?_⟩
      refine hrep.keep (fun g' hg' => ?_) (fun g' hg' => ⟨by have := hg'.1; simp at this; omega, ?_⟩)
      · have h1 := hg'.1
        simp at h1
        exact Wf_heap _ _ _ _ _ _ _ (by omega)
      · have h2 := hg'.2
        simp [World.setCell]
        omega
  · have e : readS s = none := by simp only [readS, if_neg h]
    rw [e]
    have hlt : 120 < (s.length : Int) := by omega
    go_enter Tryz.func44, Tryz.ntmps44
    go_wp2_with fail
    refine bodyPost_ret (v := .tuple #[zeroTm, .bool false]) (by simp [results, Tryz.results44, go_sem, zeroTm]) rfl ?_
    exact ⟨rfl, (Below.refl _ w).alloc (Nat.le_refl _) _⟩
end Go.Proofs.YtjfhncfbejephaaGreatDoor

/- TermValid: the model's and the program's. -/
namespace Go.Proofs.YtjfhncfbejephaaGreatDoor
open Go.RowKit
open Ff
set_option linter.unusedVariables false

set_option maxHeartbeats 1000000 in
theorem sTermValid_c (s : Text) (w : World) (hl : s.length ≤ 9223372036854775807) :
    Calls Tryz.prog 52 #[.string ⟨s.toArray⟩] w fun e w' => e = .returned (.bool (readS s).isSome) ∧ Below w.heap.size w w' := by
  have C := sread_c s w hl
  go_enter Tryz.func52, Tryz.ntmps52
  go_wp2_with fail
  refine C.mono ?_
  clear C
  rcases hr : readS s with _ | t
  · rintro e w1 ⟨rfl, hb1⟩
    have HR := Lib.hid hr
    clear hr
    unfold zeroTm
    go_wp2_with fail
    go_ret
    exact ⟨by rw [HR.out]; rfl, hb1.alloc hb1.size _⟩
  · rintro e w1 ⟨v, rfl, hb1, hrep⟩
    obtain ⟨k, n, st, aa, l, c, rfl⟩ := hrep.junk
    have HR := Lib.hid hr
    clear hr
    go_wp2_with fail
    go_ret
    exact ⟨by rw [HR.out]; rfl, hb1.alloc hb1.size _⟩

end Go.Proofs.YtjfhncfbejephaaGreatDoor

/- IsValue: the model's and the program's. -/
namespace Go.Proofs.YtjfhncfbejephaaGreatDoor
open Go.RowKit
open Ff
set_option linter.unusedVariables false

theorem kind_val {t : Tm} (h : t.good) : (((kindOf t : Int) == 110) || ((kindOf t : Int) == 92) || ((kindOf t : Int) == 64)) = t.isVal := by
  cases t with
  | op s l r => rcases h.1 with h | h | h <;> subst h <;> rfl
  | _ => rfl
def isNum : Tm → Bool
  | .num _ => true | _ => false
def isFun : Tm → Bool
  | .fn _ _ => true | .fix _ _ _ => true | _ => false
def numV : Tm → Value
  | .num n => pl (.num n) | _ => .agg #[.int .i64 0]
def funV : Tm → Value
  | .fn c b => pl (.fn c b) | .fix f c b => pl (.fix f c b) | _ => .agg #[.int .u8 0, .int .u8 0, .nilIface]
theorem ta_num (t : Tm) (w : World) : (Instr.typeAssert (.iface (ty t) (pl t)) 63 137 true).run Tryz.prog w = .ok (.tuple #[numV t, .bool (isNum t)]) w := by
  cases t <;> kernel_rfl
theorem ta_fun (t : Tm) (w : World) : (Instr.typeAssert (.iface (ty t) (pl t)) 63 140 true).run Tryz.prog w = .ok (.tuple #[funV t, .bool (isFun t)]) w := by
  cases t <;> kernel_rfl
end Go.Proofs.YtjfhncfbejephaaGreatDoor

/- DepthOf: the model's and the program's. -/
namespace Go.Proofs.YtjfhncfbejephaaGreatDoor
open Go.RowKit
open Ff
set_option linter.unusedVariables false

/-- What a text's depth is told as. -/
def depthI (o : Option Tm) : Int := match o with | some t => t.depth | none => -1
end Go.Proofs.YtjfhncfbejephaaGreatDoor
