import Derived.Test.YtefmmgccdpfnaaaGreatDoorStN
import Derived.Test.YtefmmgccdpfnaaaGreatDoorMPe
import Derived.Test.YtefmmgccdpfnaaaGreatDoorStC
import Derived.Test.YtefmmgccdpfnaaaGreatDoorMPu
/- What fills a place: closures within closures. -/
namespace Go.Proofs.YtefmmgccdpfnaaaGreatDoor
open Go.RowKit
open Ff
set_option linter.unusedVariables false

/-- A function value that fills the place at a path of a term: it lies in blocks from B on. -/
def Fills (B : Nat) (W : World) : Value → Tm → List Nat → Prop
  | fv, _, [] => fv = .func (.func 69) #[] #[]
  | fv, t, i :: p => ∃ (b : Nat) (fn : Fn) (first cap : Array Value) (s : Tm), fv = .func (.func 90) #[] #[.pointer (some ⟨b, 0, none⟩), .pointer (some ⟨b + 2, 0, none⟩), .pointer (some ⟨b + 1, 0, none⟩)] ∧ B ≤ b ∧ b + 2 < W.heap.size ∧
      W.heap[b]? = some (.cells #[enc t] 46 (0, 0)) ∧ W.heap[b + 1]? = some (.cells #[.int .i64 (i : Int)] 3 (0, 0)) ∧ W.heap[b + 2]? = some (.cells #[.func fn first cap] 60 (0, 0)) ∧
      t.kids[i]? = some s ∧ Fills B W (.func fn first cap) s p
theorem Fills.keep {B : Nat} {W W' : World} (h : KeepsB B W W') : ∀ (p : List Nat) (fv : Value) (t : Tm), Fills B W fv t p → Fills B W' fv t p
  | [], _, _, h1 => h1
  | i :: p, fv, t, h1 => by
    obtain ⟨b, fn, first, cap, s, h2, h3, h4, h5, h6, h7, h8, h9⟩ := h1
    have hz := h.size
    exact ⟨b, fn, first, cap, s, h2, h3, by omega, (h.block _ h3 (by omega)).trans h5, (h.block _ (by omega) (by omega)).trans h6, (h.block _ (by omega) (by omega)).trans h7, h8, Fills.keep h p _ s h9⟩
theorem Fills.mono {B B' : Nat} {W : World} (h : B' ≤ B) : ∀ (p : List Nat) (fv : Value) (t : Tm), Fills B W fv t p → Fills B' W fv t p
  | [], _, _, h1 => h1
  | i :: p, fv, t, h1 => by
    obtain ⟨b, fn, first, cap, s, h2, h3, h4, h5, h6, h7, h8, h9⟩ := h1
    exact ⟨b, fn, first, cap, s, h2, by omega, h4, h5, h6, h7, h8, Fills.mono h p _ s h9⟩
set_option maxRecDepth 100000 in
set_option maxHeartbeats 1000000 in
theorem fill_ok : FillOk Fills where
  keep := fun B W W' fv t p h1 h2 => Fills.keep h2 p fv t h1
  mono := fun B B' W fv t p h1 h2 => Fills.mono h2 p fv t h1
  whole := fun B W t => rfl
  within := fun B t s k fn first cap p w hg hs hB hf => by
    have hmf : ∀ (fn : Fn) (first cap : Array Value) (w : World), (Instr.makeFunc fn first cap).run Tryz.prog w = .ok (.func fn first cap) w := fun _ _ _ _ => rfl
    obtain ⟨n, v, hnv⟩ := enc_gen t
    rw [hnv]
    have HNV := Lib.hid hnv
    have HF := Lib.hid hf
    clear hnv hf
    go_enter Tryz.func68, Tryz.ntmps68
    go_wp2_with fail
    go_ret
    have hb := below_three w (.cells #[.iface n v] 46) (.cells #[.int .i64 (k : Int)] 3) (.cells #[.func fn first cap] 60)
    refine ⟨_, _, _, rfl, ⟨w.heap.size, fn, first, cap, s, rfl, hB, by simp, ?_, ?_, ?_, hs, Fills.keep (KeepsB.of_below hb) p _ s HF.out⟩, hb⟩
    · rw [HNV.out, alloc_far _ _ (by simp; omega), alloc_far _ _ (by simp)]; exact alloc_here _ _
    · rw [alloc_far _ _ (by simp)]
      have h := alloc_here (w.alloc (.cells #[.iface n v] 46)) (.cells #[.int .i64 (k : Int)] 3)
      rwa [World.size_alloc] at h
    · have h := alloc_here ((w.alloc (.cells #[.iface n v] 46)).alloc (.cells #[.int .i64 (k : Int)] 3)) (.cells #[.func fn first cap] 60)
      rwa [World.size_alloc, World.size_alloc] at h
end Go.Proofs.YtefmmgccdpfnaaaGreatDoor

/- What fills a place, called. -/
namespace Go.Proofs.YtefmmgccdpfnaaaGreatDoor
open Go.RowKit
open Ff
set_option linter.unusedVariables false
attribute [local go_sem] Oper.semAt_some

/-- A part's kids, in a row of the caller's own. -/
def KidsOwn (t : Tm) (w : World) (e : Ending) (w' : World) : Prop := ∃ g, e = .returned (.slice (some ⟨g, 0, none⟩) t.kids.length t.kids.length) ∧ w.heap.size ≤ g ∧ g < w'.heap.size ∧ (∀ i s, t.kids[i]? = some s → w'.cell? ⟨g, i, none⟩ = some (enc s)) ∧ (∀ k, w'.frozen? ⟨g, k, none⟩ = false) ∧ Below w.heap.size w w'
theorem kids_own_of (t : Tm) (w : World) (o : Obj) (l : List Value) (hl : l = t.kids.map enc) (hne : t.kids ≠ []) : KidsOwn t w (.returned (.slice (some ⟨w.heap.size + 1, 0, none⟩) t.kids.length t.kids.length)) ((w.alloc o).alloc (.cells l.toArray 44)) := by
  obtain ⟨g, h1, h2, h3, h4, h5, h6⟩ := bound_own_of w o l 44 (by rw [hl]; simpa using hne)
  rw [show l.length = t.kids.length by rw [hl, List.length_map]] at h1
  exact ⟨g, by rw [h1], h2, h3, fun i s hs => h4 i _ (by rw [hl, List.getElem?_map, hs]; rfl), h5, h6⟩
set_option maxHeartbeats 1000000 in
theorem kids_own (t : Tm) (w : World) (hne : t.kids ≠ []) : Calls Tryz.prog (kf t) #[pl t] w (KidsOwn t w) := by
  cases t with
  | num n => exact absurd rfl hne
  | var c => exact absurd rfl hne
  | fn c b =>
    obtain ⟨n0, v0, e0⟩ := enc_gen b
    have H0 := Lib.hid e0
    show Calls Tryz.prog 183 #[.agg #[.int .u8 0, .int .u8 (c.toNat : Int), enc b]] w _
    rw [e0]
    clear e0
    go_enter Tryz.func183, Tryz.ntmps183
    go_wp2_with fail
    go_ret
    exact kids_own_of (.fn c b) w _ [.iface n0 v0] (by simp only [Tm.kids, List.map_cons, List.map_nil, H0.out]) (by simp [Tm.kids])
  | fix f c b =>
    obtain ⟨n0, v0, e0⟩ := enc_gen b
    have H0 := Lib.hid e0
    show Calls Tryz.prog 183 #[.agg #[.int .u8 (f.toNat : Int), .int .u8 (c.toNat : Int), enc b]] w _
    rw [e0]
    clear e0
    go_enter Tryz.func183, Tryz.ntmps183
    go_wp2_with fail
    go_ret
    exact kids_own_of (.fix f c b) w _ [.iface n0 v0] (by simp only [Tm.kids, List.map_cons, List.map_nil, H0.out]) (by simp [Tm.kids])
  | app x y =>
    obtain ⟨n0, v0, e0⟩ := enc_gen x
    obtain ⟨n1, v1, e1⟩ := enc_gen y
    have H0 := Lib.hid e0
    have H1 := Lib.hid e1
    show Calls Tryz.prog 185 #[.agg #[enc x, enc y]] w _
    rw [e0, e1]
    clear e0 e1
    go_enter Tryz.func185, Tryz.ntmps185
    go_wp2_with fail
    go_ret
    exact kids_own_of (.app x y) w _ [.iface n0 v0, .iface n1 v1] (by simp only [Tm.kids, List.map_cons, List.map_nil, H0.out, H1.out]) (by simp [Tm.kids])
  | bind c x y =>
    obtain ⟨n0, v0, e0⟩ := enc_gen x
    obtain ⟨n1, v1, e1⟩ := enc_gen y
    have H0 := Lib.hid e0
    have H1 := Lib.hid e1
    show Calls Tryz.prog 189 #[.agg #[.int .u8 (c.toNat : Int), enc x, enc y]] w _
    rw [e0, e1]
    clear e0 e1
    go_enter Tryz.func189, Tryz.ntmps189
    go_wp2_with fail
    go_ret
    exact kids_own_of (.bind c x y) w _ [.iface n0 v0, .iface n1 v1] (by simp only [Tm.kids, List.map_cons, List.map_nil, H0.out, H1.out]) (by simp [Tm.kids])
  | op o x y =>
    obtain ⟨n0, v0, e0⟩ := enc_gen x
    obtain ⟨n1, v1, e1⟩ := enc_gen y
    have H0 := Lib.hid e0
    have H1 := Lib.hid e1
    show Calls Tryz.prog 187 #[.agg #[.int .u8 (o.toNat : Int), enc x, enc y]] w _
    rw [e0, e1]
    clear e0 e1
    go_enter Tryz.func187, Tryz.ntmps187
    go_wp2_with fail
    go_ret
    exact kids_own_of (.op o x y) w _ [.iface n0 v0, .iface n1 v1] (by simp only [Tm.kids, List.map_cons, List.map_nil, H0.out, H1.out]) (by simp [Tm.kids])
  | sel x y z =>
    obtain ⟨n0, v0, e0⟩ := enc_gen x
    obtain ⟨n1, v1, e1⟩ := enc_gen y
    obtain ⟨n2, v2, e2⟩ := enc_gen z
    have H0 := Lib.hid e0
    have H1 := Lib.hid e1
    have H2 := Lib.hid e2
    show Calls Tryz.prog 191 #[.agg #[enc x, enc y, enc z]] w _
    rw [e0, e1, e2]
    clear e0 e1 e2
    go_enter Tryz.func191, Tryz.ntmps191
    go_wp2_with fail
    go_ret
    exact kids_own_of (.sel x y z) w _ [.iface n0 v0, .iface n1 v1, .iface n2 v2] (by simp only [Tm.kids, List.map_cons, List.map_nil, H0.out, H1.out, H2.out]) (by simp [Tm.kids])
set_option maxRecDepth 100000 in
set_option maxHeartbeats 8000000 in
/-- One closure, given what the one within makes. -/
theorem fill_one (t s x r : Tm) (i b : Nat) (f : FuncId) (cap : Array Value) (w : World) (hg : t.good) (hs : t.kids[i]? = some s) (hbz : b + 2 < w.heap.size)
    (h0 : w.heap[b]? = some (.cells #[enc t] 46 (0, 0))) (h1 : w.heap[b + 1]? = some (.cells #[.int .i64 (i : Int)] 3 (0, 0))) (h2 : w.heap[b + 2]? = some (.cells #[.func (.func f) #[] cap] 60 (0, 0)))
    (hcf : ∀ (W : World) (v : Value), (callFunc f (#[v] ++ cap)).run Tryz.prog W = .ok (.enter f (#[v] ++ cap)) W)
    (hC : ∀ W, Below w.heap.size w W → Calls Tryz.prog f (#[enc x] ++ cap) W fun e W' => e = .returned (enc r) ∧ Below W.heap.size W W') :
    Calls Tryz.prog 90 #[enc x, .pointer (some ⟨b, 0, none⟩), .pointer (some ⟨b + 2, 0, none⟩), .pointer (some ⟨b + 1, 0, none⟩)] w fun e w' => e = .returned (enc (reTm t (bindsOf t) (t.kids.set i r))) ∧ Below w.heap.size w w' := by
  have hk3 : t.kids.length ≤ 3 := by cases t <;> simp [Tm.kids]
  have hil : i < t.kids.length := (List.getElem?_eq_some_iff.1 hs).1
  rw [enc_ty t] at h0
  obtain ⟨xn, xv, hx⟩ := enc_gen x
  obtain ⟨rn, rv, hr⟩ := enc_gen r
  rw [hx]
  simp only [hx, hr] at hC
  have c0 : w.cell? ⟨b, 0, none⟩ = some (.iface (ty t) (pl t)) := by simp [World.cell?, h0]
  have c1 : w.cell? ⟨b + 1, 0, none⟩ = some (.int .i64 (i : Int)) := by simp [World.cell?, h1]
  have c2 : w.cell? ⟨b + 2, 0, none⟩ = some (.func (.func f) #[] cap) := by simp [World.cell?, h2]
  have HX := Lib.hid hx
  have HR := Lib.hid hr
  have HS := Lib.hid hs
  clear hx hr hs h0 h1 h2
  obtain ⟨n, hn⟩ : ∃ n, t.kids.length = n := ⟨_, rfl⟩
  rw [hn] at hil hk3
  have HN := Lib.hid hn
  have hne : t.kids ≠ [] := fun e => by rw [e] at hn; simp at hn; omega
  clear hn
  have KB := fun W => boundBy_c t hg W
  have KR := fun an ak cn ck W h1 h2 => remade_c t hg (bindsOf t) (t.kids.set i r) rfl (by simp) an ak cn ck W h1 h2
  rw [enc_ty t] at KB
  generalize hRT : reTm t (bindsOf t) (t.kids.set i r) = RT at *
  obtain ⟨qn, qv, hq⟩ := enc_gen RT
  rw [hq]
  simp only [hq, enc_ty t, List.length_set, HN.out] at KR
  clear hq hRT
  go_enter Tryz.func90, Tryz.ntmps90
  go_wp2_with (refine wpList_invoke rfl _ _ (ty t) (pl t) rfl rfl (kf t) (kids_m t _ (by unfold KidsName; kernel_rfl) _) (kids_f t _) (fun v w' => KidsOwn t w (.returned v) w') ((kids_own t _ hne).mono fun e w' h => by (obtain ⟨g, h1, h2⟩ := h; exact ⟨_, h1, g, rfl, h2⟩)) ?_; rintro v w1 ⟨g, hv, hg1, hg2, hcell, hfro, hb⟩; injection hv with hv; subst hv; rw [HN.out])
  have KC : ∀ W, Below w1.heap.size w1 W → Calls Tryz.prog f (#[.iface xn xv] ++ cap) W fun e W' => e = .returned (.iface rn rv) ∧ (W'.cell? ⟨b, 0, none⟩ = some (.iface (ty t) (pl t)) ∧ W'.cell? ⟨b + 1, 0, none⟩ = some (.int .i64 (i : Int)) ∧ W'.cell? ⟨b + 2, 0, none⟩ = some (.func (.func f) #[] cap)) ∧ Below w1.heap.size w1 W' :=
    fun W hW => (hC W (hb.trans (hW.mono hb.size))).mono fun e W' ⟨h1, h2⟩ =>
      have hB := hb.trans ((hW.trans (h2.mono hW.size)).mono hb.size)
      ⟨h1, ⟨(hB.cell (p := ⟨b, 0, none⟩) (by show b < _; omega)).trans c0, (hB.cell (p := ⟨b + 1, 0, none⟩) (by show b + 1 < _; omega)).trans c1, (hB.cell (p := ⟨b + 2, 0, none⟩) (by show b + 2 < _; omega)).trans c2⟩, hW.trans (h2.mono hW.size)⟩
  have d0 : w1.cell? ⟨b, 0, none⟩ = some (.iface (ty t) (pl t)) := (hb.cell (p := ⟨b, 0, none⟩) (by show b < _; omega)).trans c0
  have d1 : w1.cell? ⟨b + 1, 0, none⟩ = some (.int .i64 (i : Int)) := (hb.cell (p := ⟨b + 1, 0, none⟩) (by show b + 1 < _; omega)).trans c1
  have d2 : w1.cell? ⟨b + 2, 0, none⟩ = some (.func (.func f) #[] cap) := (hb.cell (p := ⟨b + 2, 0, none⟩) (by show b + 2 < _; omega)).trans c2
  have m0 : w1.drew.cell? ⟨b, 0, none⟩ = some (.iface (ty t) (pl t)) := d0
  have m1 : w1.drew.cell? ⟨b + 1, 0, none⟩ = some (.int .i64 (i : Int)) := d1
  have m2 : w1.drew.cell? ⟨b + 2, 0, none⟩ = some (.func (.func f) #[] cap) := d2
  have hI0 : (0 : Int) ≤ (i : Int) := by omega
  have hI1 : (i : Int) < (n : Int) := by omega
  have HC := Lib.hid hcell
  have HF := Lib.hid hfro
  clear hcell hfro hC c0 c1 c2
  go_wp2_with fail
  go_region_held3 (fun w' => w'.cell? ⟨b, 0, none⟩ = some (.iface (ty t) (pl t)) ∧ w'.cell? ⟨b + 1, 0, none⟩ = some (.int .i64 (i : Int)) ∧ w'.cell? ⟨b + 2, 0, none⟩ = some (.func (.func f) #[] cap))
    (first | (refine ⟨?_, ?_, ?_⟩ <;> assumption) | (refine ⟨?_, ?_, ?_⟩ <;> (rw [World.cell?_setCell_other _ _ _ _ (by first | (simp; done) | (simp; omega))]; assumption)))
    (first | (refine (KC _ (by first | exact (Below.refl _ w1).drew | exact Below.refl _ _)).mono ?_; rintro e w2 ⟨rfl, ⟨j0, j1, j2⟩, hb2⟩; have e9 : w2.cell? ⟨g, i, none⟩ = some (enc s) := ((hb2.cell (p := ⟨g, i, none⟩) hg2).trans (HC.out i s HS.out)); have f9 : w2.frozen? ⟨g, i, none⟩ = false := ((hb2.frozen (p := ⟨g, i, none⟩) hg2).trans (HF.out i))))
  have hset : ∀ w2, Below w1.heap.size w1 w2 → RowAt (w2.setCell ⟨g, i, none⟩ (.iface rn rv)) (some ⟨g, 0, none⟩) ((t.kids.set i r).map enc) := fun w2 hb2 j y hj => by
    refine ⟨g, rfl, by have := hb2.size; simp [World.setCell]; omega, ?_⟩
    rw [List.getElem?_map, List.getElem?_set] at hj
    by_cases hij : i = j
    · subst hij
      have he := (hb2.cell (p := ⟨g, i, none⟩) hg2).trans (HC.out i s HS.out)
      rw [if_pos rfl, if_pos (by have := HN.out; omega)] at hj
      have hy : y = .iface rn rv := by simpa [HR.out] using hj.symm
      rw [hy]
      exact World.cell?_setCell_same _ _ _ he
    · rw [if_neg hij] at hj
      rcases hk : t.kids[j]? with _ | q
      · rw [hk] at hj; cases hj
      · rw [hk] at hj
        have hy : y = enc q := (Option.some.inj hj).symm
        rw [hy, World.cell?_setCell_other _ _ _ _ (by first | (simp; done) | (simp; omega))]
        exact (hb2.cell (p := ⟨g, j, none⟩) hg2).trans (HC.out j q hk)
  all_goals
    have hset2 := hset _ hb2
    have hB3 : Below w.heap.size w (w2.setCell ⟨g, i, none⟩ (.iface rn rv)) := (hb.trans (hb2.mono hb.size)).setCell (p := ⟨g, i, none⟩) hg1 _
    have k0 : (w2.setCell ⟨g, i, none⟩ (.iface rn rv)).cell? ⟨b, 0, none⟩ = some (.iface (ty t) (pl t)) := (World.cell?_setCell_other _ _ _ _ (by first | (simp; done) | (simp; omega))).trans j0
    generalize w2.setCell ⟨g, i, none⟩ (.iface rn rv) = W3 at *
    have l0 : W3.drew.cell? ⟨b, 0, none⟩ = some (.iface (ty t) (pl t)) := k0
    have hz3 := hB3.size
    have KB2 : ∀ W, Below W3.heap.size W3 W → Calls Tryz.prog 71 #[.iface (ty t) (pl t)] W fun e w' => ∃ a, e = .returned (.slice a (bindsOf t).length (bindsOf t).length) ∧ RowAt w' a ((bindsOf t).map bv) ∧ Below W3.heap.size W3 w' ∧ w'.cell? ⟨b, 0, none⟩ = some (.iface (ty t) (pl t)) :=
      fun W hW => (KB W).mono fun e w' ⟨v, h1, h2, h3⟩ => by
        obtain ⟨a, rfl, hr⟩ := h2.row
        have hB := hW.trans (h3.mono hW.size)
        exact ⟨a, by rw [h1, List.length_map], hr, hB, (hB.cell (p := ⟨b, 0, none⟩) (by show b < _; omega)).trans k0⟩
    go_wp2_with fail
    go_region_held3 (fun w' => w'.cell? ⟨b, 0, none⟩ = some (.iface (ty t) (pl t)))
      (first | assumption)
      (first
        | (go_at_call 71; refine (KB2 _ (by first | exact (Below.refl _ W3).drew | exact Below.refl _ _)).mono ?_; rintro e w4 ⟨a4, rfl, hrow4, hb4, k4⟩; have hset4 := hset2.keep hb4)
        | (go_at_call 91; refine (KR _ _ _ _ _ hrow4 hset4).mono ?_; rintro e w5 ⟨rfl, hb5⟩; have k5 : w5.cell? ⟨b, 0, none⟩ = some (.iface (ty t) (pl t)) := ((hb5.cell (p := ⟨b, 0, none⟩) (by show b < _; have := hb4.size; omega)).trans k4)))
    all_goals go_wp2_with fail
    all_goals go_ret
    all_goals exact ⟨rfl, (hB3.trans (hb4.mono hB3.size)).trans (hb5.mono (by have := hb4.size; omega))⟩
theorem enter_self (w : World) (v : Value) : (callFunc 69 (#[v] ++ #[])).run Tryz.prog w = .ok (.enter 69 (#[v] ++ #[])) w := by kernel_rfl
theorem enter_fill (a b c : Value) (w : World) (v : Value) : (callFunc 90 (#[v] ++ #[a, b, c])).run Tryz.prog w = .ok (.enter 90 (#[v] ++ #[a, b, c])) w := by kernel_rfl
/-- What fills a place, called: the term with another part there. -/
theorem fill_call : ∀ (p : List Nat) (t : Tm) (fv : Value) (B : Nat) (W : World), Fills B W fv t p → t.good → ∃ (f : FuncId) (cap : Array Value), fv = .func (.func f) #[] cap ∧ (∀ (W : World) (v : Value), (callFunc f (#[v] ++ cap)).run Tryz.prog W = .ok (.enter f (#[v] ++ cap)) W) ∧
    ∀ (x : Tm) (w : World), KeepsB B W w → Calls Tryz.prog f (#[enc x] ++ cap) w fun e w' => e = .returned (enc (withAt t p x)) ∧ Below w.heap.size w w'
  | [], t, fv, B, W, hf, hg => ⟨69, #[], hf, fun w v => enter_self w v, fun x w _ => (itself_c x w).mono fun e w' ⟨h1, h2⟩ => ⟨h1, by rw [h2]; exact Below.refl _ _⟩⟩
  | i :: p, t, fv, B, W, hf, hg => by
    obtain ⟨b, fn, first, cap, s, rfl, h3, h4, h5, h6, h7, hs, h9⟩ := hf
    obtain ⟨f', cap', e, hcf, hC⟩ := fill_call p s _ B W h9 (Tm.kid_good hg (List.mem_of_getElem? hs))
    injection e with e1 e2 e3
    subst e1 e2 e3
    refine ⟨_, _, rfl, fun w v => enter_fill _ _ _ w v, fun x w hW => ?_⟩
    have hz := hW.size
    have ew : withAt t (i :: p) x = reTm t (bindsOf t) (t.kids.set i (withAt s p x)) := by simp only [withAt, hs]
    rw [ew]
    exact fill_one t s x (withAt s p x) i b f' cap w hg hs (by omega) ((hW.block _ h3 (by omega)).trans h5) ((hW.block _ (by omega) (by omega)).trans h6) ((hW.block _ (by omega) (by omega)).trans h7) hcf (fun W' hW' => hC x W' (hW.trans (KeepsB.of_below hW')))
end Go.Proofs.YtefmmgccdpfnaaaGreatDoor
