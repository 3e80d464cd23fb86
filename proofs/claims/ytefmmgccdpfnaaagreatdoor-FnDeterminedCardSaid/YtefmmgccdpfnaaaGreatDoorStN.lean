import Derived.Test.YtefmmgccdpfnaaaGreatDoorStP
import Derived.Test.YtefmmgccdpfnaaaGreatDoorMPu
import Derived.Test.YtefmmgccdpfnaaaGreatDoorMPs
import Derived.Test.YtefmmgccdpfnaaaGreatDoorMSc
import Derived.Laws.EntriesVeiled
/- The program's next: the part of a state that is next, and what fills its place. -/
namespace Go.Proofs.YtefmmgccdpfnaaaGreatDoor
open Go.RowKit
open Ff
set_option linter.unusedVariables false
attribute [local go_sem] Oper.semAt_some

theorem evalK_all {t : Tm} (h : (isApp t || isOp t) = true) : evalK t = t.kids := by cases t <;> first | rfl | (simp [isApp, isOp] at h)
set_option maxRecDepth 100000 in
set_option maxHeartbeats 2000000 in
theorem evalKids_all (t : Tm) (w : World) (h : (isApp t || isOp t) = true) :
    Calls Tryz.prog 67 #[enc t] w fun e w' => ∃ a, e = .returned (.slice a (evalK t).length (evalK t).length) ∧ RowAt w' a ((evalK t).map enc) ∧ Below w.heap.size w w' := by
  rw [evalK_all h, enc_ty t]
  have a1 := ta_app t
  have a2 := ta_op t
  cases h1 : isApp t <;> cases h2 : isOp t <;> rw [h1, h2] at h <;> rw [h1] at a1 <;> rw [h2] at a2 <;> clear h1 h2
  · cases h
  all_goals
    clear h
    go_enter Tryz.func67, Tryz.ntmps67
    go_wp2_with (refine wpList_invoke rfl _ _ (ty t) (pl t) rfl rfl (kf t) (kids_m t _ (by unfold KidsName; kernel_rfl) _) (kids_f t _) (fun v w' => SliceOf w.heap.size w' v (t.kids.map enc) ∧ Below w.heap.size w w') (kids_c t _) ?_; rintro x w1 ⟨hs, hb⟩; obtain ⟨a, rfl, hrow⟩ := hs.row; clear hs; have HR := Lib.hid hrow; clear hrow)
    go_ret
    exact ⟨a, rfl, HR.out, hb⟩
theorem row_one (w : World) (v : Value) (t : TypeId) : RowAt (w.alloc (.cells #[v] t)) (some ⟨w.heap.size, 0, none⟩) [v] := fun i x hx => by
  rcases i with _ | i
  · simp at hx
    subst hx
    exact ⟨_, rfl, by simp, cell_new w [v] t 0⟩
  · simp at hx
set_option maxRecDepth 100000 in
set_option maxHeartbeats 2000000 in
theorem evalKids_bind (c : UInt8) (v b : Tm) (w : World) :
    Calls Tryz.prog 67 #[enc (.bind c v b)] w fun e w' => ∃ a, e = .returned (.slice a (evalK (.bind c v b)).length (evalK (.bind c v b)).length) ∧ RowAt w' a ((evalK (.bind c v b)).map enc) ∧ Below w.heap.size w w' := by
  have a1 := ta_app (.bind c v b)
  have a2 := ta_op (.bind c v b)
  have a3 := ta_let (.bind c v b)
  obtain ⟨n0, v0, q0⟩ := enc_gen v
  obtain ⟨n1, v1, q1⟩ := enc_gen b
  simp only [ty, pl, appV, isApp, letV, isLet, opV, isOp, q0, q1] at a1 a2 a3
  simp only [enc, evalK, List.map_cons, List.map_nil, List.length_cons, List.length_nil, q0, q1]
  clear q0 q1
  go_enter Tryz.func67, Tryz.ntmps67
  go_wp2_with fail
  go_ret
  refine ⟨_, rfl, ?_, below_two w _ _⟩
  have h := row_one (w.alloc (.cells #[bv c, .iface n0 v0, .iface n1 v1] 140)) (.iface n0 v0) 44
  rwa [World.size_alloc] at h
set_option maxRecDepth 100000 in
set_option maxHeartbeats 2000000 in
theorem evalKids_sel (x y z : Tm) (w : World) :
    Calls Tryz.prog 67 #[enc (.sel x y z)] w fun e w' => ∃ a, e = .returned (.slice a (evalK (.sel x y z)).length (evalK (.sel x y z)).length) ∧ RowAt w' a ((evalK (.sel x y z)).map enc) ∧ Below w.heap.size w w' := by
  have a1 := ta_app (.sel x y z)
  have a2 := ta_op (.sel x y z)
  have a3 := ta_let (.sel x y z)
  have a4 := ta_sel (.sel x y z)
  obtain ⟨n0, v0, q0⟩ := enc_gen x
  obtain ⟨n1, v1, q1⟩ := enc_gen y
  obtain ⟨n2, v2, q2⟩ := enc_gen z
  simp only [ty, pl, appV, isApp, letV, isLet, opV, isOp, selV, isSel, q0, q1, q2] at a1 a2 a3 a4
  simp only [enc, evalK, List.map_cons, List.map_nil, List.length_cons, List.length_nil, q0, q1, q2]
  clear q0 q1 q2
  go_enter Tryz.func67, Tryz.ntmps67
  go_wp2_with fail
  go_ret
  refine ⟨_, rfl, ?_, below_two w _ _⟩
  have h := row_one (w.alloc (.cells #[.iface n0 v0, .iface n1 v1, .iface n2 v2] 142)) (.iface n0 v0) 44
  rwa [World.size_alloc] at h
set_option maxRecDepth 100000 in
set_option maxHeartbeats 2000000 in
theorem evalKids_none (t : Tm) (w : World) (h1 : isApp t = false) (h2 : isOp t = false) (h3 : isLet t = false) (h4 : isSel t = false) :
    Calls Tryz.prog 67 #[enc t] w fun e w' => e = .returned (.slice none 0 0) ∧ Below w.heap.size w w' := by
  have a1 := ta_app t
  have a2 := ta_op t
  have a3 := ta_let t
  have a4 := ta_sel t
  rw [h1] at a1
  rw [h2] at a2
  rw [h3] at a3
  rw [h4] at a4
  rw [enc_ty t]
  clear h1 h2 h3 h4
  go_enter Tryz.func67, Tryz.ntmps67
  go_wp2_with fail
  go_ret
  exact ⟨rfl, Below.refl _ _⟩
theorem evalKids_c (t : Tm) (w : World) :
    Calls Tryz.prog 67 #[enc t] w fun e w' => ∃ a, e = .returned (.slice a (evalK t).length (evalK t).length) ∧ RowAt w' a ((evalK t).map enc) ∧ Below w.heap.size w w' := by
  cases t with
  | app f a => exact evalKids_all _ w rfl
  | op o l r => exact evalKids_all _ w rfl
  | bind c v b => exact evalKids_bind c v b w
  | sel x y z => exact evalKids_sel x y z w
  | _ => exact (evalKids_none _ w rfl rfl rfl rfl).mono fun e w' ⟨h1, h2⟩ => ⟨none, h1, (fun i x hx => by simp [evalK] at hx), h2⟩
/-- What lies in the blocks from B on, stays. -/
structure KeepsB (B : Nat) (W W' : World) : Prop where
  size : W.heap.size ≤ W'.heap.size
  block : ∀ j, B ≤ j → j < W.heap.size → W'.heap[j]? = W.heap[j]?
theorem KeepsB.of_below {B : Nat} {W W' : World} (h : Below W.heap.size W W') : KeepsB B W W' := ⟨h.size, fun j _ hj => h.block j hj⟩
theorem KeepsB.trans {B : Nat} {W W' W'' : World} (h : KeepsB B W W') (k : KeepsB B W' W'') : KeepsB B W W'' := ⟨Nat.le_trans h.size k.size, fun j h1 h2 => (k.block j h1 (Nat.lt_of_lt_of_le h2 h.size)).trans (h.block j h1 h2)⟩
theorem KeepsB.set {B : Nat} {W : World} (p : Addr) (v : Value) (h : p.block < B) : KeepsB B W (W.setCell p v) := ⟨by simp [World.setCell], fun j h1 _ => Below.heap_setCell _ _ _ _ (by omega)⟩
/-- What fills a place, by blocks from B on: it stays so; the place of the whole is filled by itself; and a place within a kid. -/
structure FillOk (F : Nat → World → Value → Tm → List Nat → Prop) : Prop where
  keep : ∀ B W W' fv t p, F B W fv t p → KeepsB B W W' → F B W' fv t p
  mono : ∀ B B' W fv t p, F B W fv t p → B' ≤ B → F B' W fv t p
  whole : ∀ B W t, F B W (.func (.func 69) #[] #[]) t []
  within : ∀ (B : Nat) (t s : Tm) (k : Nat) (fn : Fn) (first cap : Array Value) (p : List Nat) (w : World), t.good → t.kids[k]? = some s → B ≤ w.heap.size → F B w (.func fn first cap) s p →
    Calls Tryz.prog 68 #[.agg #[enc t], .int .i64 (k : Int), .func fn first cap] w fun e w' => ∃ fn' first' cap', e = .returned (.func fn' first' cap') ∧ F B w' (.func fn' first' cap') t (k :: p) ∧ Below w.heap.size w w'
/-- What the search for the next part comes to. -/
def PNextP (F : Nat → World → Value → Tm → List Nat → Prop) (t : Tm) (w : World) (e : Ending) (w' : World) : Prop := Below w.heap.size w w' ∧
    ((t.isVal = true ∧ e = .returned (.tuple #[.agg #[.nilIface, .nilFunc], .bool false])) ∨
     (t.isVal = false ∧ ∃ fn first cap, e = .returned (.tuple #[.agg #[enc (partAt t (redexP t)), .func fn first cap], .bool true]) ∧ F w.heap.size w' (.func fn first cap) t (redexP t)))
def PNextC (F : Nat → World → Value → Tm → List Nat → Prop) (n : Nat) : Prop := ∀ (t : Tm) (w : World), t.depth ≤ n → n ≤ 4000 → t.good →
  Calls Tryz.prog 38 #[.agg #[enc t]] w (PNextP F t w)
/-- The boxes: the state, the result. -/
structure PnW (w : World) (n : TypeId) (v : Value) (W : World) : Prop where
  box : W.heap[w.heap.size]? = some (.cells #[.iface n v] 46 (0, 0))
  res : W.heap[w.heap.size + 1]? = some (.cells #[.nilIface, .nilFunc] 62 (0, 0))
  below : Below w.heap.size w W
theorem PnW.keep {w W W' : World} {n : TypeId} {v : Value} (h : PnW w n v W) (hb : Below W.heap.size W W') : PnW w n v W' :=
  ⟨(hb.block _ (Array.getElem?_eq_some_iff.1 h.box).1).trans h.box, (hb.block _ (Array.getElem?_eq_some_iff.1 h.res).1).trans h.res, h.below.trans (hb.mono h.below.size)⟩
theorem PnW.new (w : World) (n : TypeId) (v : Value) : PnW w n v ((w.alloc (.cells #[.iface n v] 46)).alloc (.cells #[.nilIface, .nilFunc] 62)) := by
  refine ⟨?_, ?_, below_two w _ _⟩
  · rw [alloc_far _ _ (by simp)]; exact alloc_here _ _
  · have h := alloc_here (w.alloc (.cells #[.iface n v] 46)) (.cells #[.nilIface, .nilFunc] 62)
    rwa [World.size_alloc] at h
theorem PnW.cells {w W : World} {n : TypeId} {v : Value} (h : PnW w n v W) : W.cell? ⟨w.heap.size, 0, none⟩ = some (.iface n v) ∧ W.cell? ⟨w.heap.size + 1, 0, none⟩ = some .nilIface ∧ W.cell? ⟨w.heap.size + 1, 1, none⟩ = some .nilFunc ∧ W.frozen? ⟨w.heap.size + 1, 0, none⟩ = false ∧ W.frozen? ⟨w.heap.size + 1, 1, none⟩ = false := by
  refine ⟨?_, ?_, ?_, ?_, ?_⟩ <;> simp [World.cell?, World.frozen?, h.box, h.res]
set_option maxRecDepth 100000 in
set_option maxHeartbeats 4000000 in
theorem pnext_val (F : Nat → World → Value → Tm → List Nat → Prop) (t : Tm) (w : World) (hv : t.isVal = true) :
    Calls Tryz.prog 38 #[.agg #[enc t]] w (PNextP F t w) := by
  have K := fun W => isValue_c t W
  rw [hv] at K
  obtain ⟨n, v, hnv⟩ := enc_gen t
  rw [hnv] at K
  rw [hnv]
  clear hnv
  have P0 := PnW.new w n v
  have HV := Lib.hid hv
  clear hv
  go_enter Tryz.func38, Tryz.ntmps38
  go_wp2_with (go_at_call 66; refine (K _).mono ?_; clear K; rintro e w2 ⟨rfl, hw2⟩; have hP : PnW w n v w2 := (by rw [← hw2]; exact P0); clear P0 hw2; obtain ⟨c0, r0, r1, f0, f1⟩ := hP.cells)
  refine bodyPost_ret (v := .tuple #[.agg #[.nilIface, .nilFunc], .bool false]) (by simp [results, Tryz.results38, go_sem, r0, r1]) rfl ?_
  exact ⟨(hP.below.setCell (p := ⟨w.heap.size + 1, 0, none⟩) (by simp) _).setCell (p := ⟨w.heap.size + 1, 1, none⟩) (by simp) _, .inl ⟨HV.out, rfl⟩⟩
set_option maxRecDepth 100000 in
set_option maxHeartbeats 8000000 in
theorem pnext_node (F : Nat → World → Value → Tm → List Nat → Prop) (hF : FillOk F) (n : Nat) (ih : PNextC F n) (t : Tm) (w : World) (hd : t.depth ≤ n + 1) (hn : n + 1 ≤ 4000) (hg : t.good) (hv : t.isVal = false) :
    Calls Tryz.prog 38 #[.agg #[enc t]] w (PNextP F t w) := by
  have hml := evalK_len t
  have K := fun W => isValue_c t W
  have KE := fun W => evalKids_c t W
  have KI := fun (k : Nat) (s : Tm) (hs : (evalK t)[k]? = some s) W => ih s W (by have := kid_depth (List.mem_of_getElem? (evalK_kid hs)); omega) (by omega) (Tm.kid_good hg (List.mem_of_getElem? (evalK_kid hs)))
  have KF := fun (k : Nat) (s : Tm) (hs : (evalK t)[k]? = some s) B fn first cap p W hB hf => hF.within B t s k fn first cap p W hg (evalK_kid hs) hB hf
  have KW := fun W => hF.whole w.heap.size W t
  rw [hv] at K
  obtain ⟨tn, tv, hnv⟩ := enc_gen t
  rw [hnv] at K
  simp only [hnv] at KE KF
  rw [hnv]
  have HNV := Lib.hid hnv
  have HV := Lib.hid hv
  clear hnv hv
  have P0 := PnW.new w tn tv
  obtain ⟨m, hm⟩ : ∃ m, (evalK t).length = m := ⟨_, rfl⟩
  simp only [hm] at KE
  rw [hm] at hml
  have HM := Lib.hid hm
  clear hm
  go_enter Tryz.func38, Tryz.ntmps38
  go_wp2_with (first
    | (go_at_call 66; refine (K _).mono ?_; clear K; rintro e w2 ⟨rfl, hw2⟩; have hP : PnW w tn tv w2 := (by rw [← hw2]; exact P0); clear P0 hw2; obtain ⟨c0, r0, r1, f0, f1⟩ := hP.cells)
    | (go_at_call 67; refine (KE _).mono ?_; clear KE; rintro e w3 ⟨a, rfl, hrow, hb3⟩; replace hP := hP.keep hb3; clear c0 r0 r1 f0 f1; have HR := Lib.hid hrow; clear hrow))
  go_loopw [16] (fun ix wr => ∃ (k : Nat), k ≤ m ∧ ix = .int .i64 k ∧ (∀ (j : Nat) (r : Tm), j < k → (evalK t)[j]? = some r → r.isVal = true) ∧ PnW w tn tv wr ∧ Below w3.heap.size w3 wr) (fun ix _ => m - (intOf ix).toNat)
  case atStart => exact ⟨0, Nat.zero_le _, rfl, fun j r h => by omega, hP, Below.refl _ _⟩
  case round =>
    clear hP
    obtain ⟨k, hkl, rfl, hprev, hP, hBr⟩ := hrel
    obtain ⟨c0, r0, r1, f0, f1⟩ := hP.cells
    have hBl := hP.below
    by_cases hlt : k < m
    · obtain ⟨s, hs⟩ : ∃ s, (evalK t)[k]? = some s := ⟨_, List.getElem?_eq_getElem (by rw [HM.out]; exact hlt)⟩
      obtain ⟨sn, sv, hsn⟩ := enc_gen s
      obtain ⟨g, rfl, hg1, hcell⟩ := (HR.out.keep hBr) k (enc s) (by simp [hs])
      rw [hsn] at hcell
      have C := KI k s hs wr
      rw [hsn] at C
      have KF2 := KF k s hs
      have HSS := Lib.hid hs
      have HSN := Lib.hid hsn
      have HPV := Lib.hid hprev
      clear hs hsn hprev KI KF KW
      cases hsv : s.isVal
      · have C2 : Calls Tryz.prog 38 #[.agg #[.iface sn sv]] wr fun e w' => Below wr.heap.size wr w' ∧ ∃ pn pv fn first cap, e = .returned (.tuple #[.agg #[.iface pn pv, .func fn first cap], .bool true]) ∧ Hid (enc (partAt s (redexP s)) = .iface pn pv) ∧ F wr.heap.size w' (.func fn first cap) s (redexP s) := C.mono fun e w' h => by
          obtain ⟨h1, ⟨h2, _⟩ | ⟨_, fn, first, cap, h3, h4⟩⟩ := h
          · rw [hsv] at h2; cases h2
          · obtain ⟨pn, pv, hpv⟩ := enc_gen (partAt s (redexP s))
            exact ⟨h1, pn, pv, fn, first, cap, by rw [h3, hpv], hpv, h4⟩
        have hpth := Lib.hid (redexP_some HSS.out hsv HPV.out)
        have hpa := Lib.hid (show partAt t (k :: redexP s) = partAt s (redexP s) by simp only [partAt, evalK_kid HSS.out])
        clear C hsv
        go_wp2_with (go_at_call 38; refine C2.mono ?_; clear C2; rintro e w4 ⟨hb4, pn, pv, fn, first, cap, rfl, hpv, hf4⟩; have hP4 := hP.keep hb4)
        have hs4 := hb4.size
        have hpw : w.heap.size + 1 < wr.heap.size := (Array.getElem?_eq_some_iff.1 hP.res).1
        have b5 := (Below.refl _ w4).alloc (Nat.le_refl _) (.cells #[.iface pn pv, .func fn first cap] 62)
        have hP5 := hP4.keep b5
        have z5 := alloc_here w4 (.cells #[.iface pn pv, .func fn first cap] 62)
        have hf5 := hF.keep _ _ _ _ _ _ hf4 (KeepsB.of_below b5)
        have hp4 : w.heap.size + 1 < w4.heap.size := (Array.getElem?_eq_some_iff.1 hP4.res).1
        generalize hW5 : w4.alloc (.cells #[.iface pn pv, .func fn first cap] 62) = W5 at *
        have hz5 : W5.heap.size = w4.heap.size + 1 := by rw [← hW5]; simp
        have e0 : W5.cell? ⟨w4.heap.size, 0, none⟩ = some (.iface pn pv) := by simp [World.cell?, z5]
        have e1 : W5.cell? ⟨w4.heap.size, 1, none⟩ = some (.func fn first cap) := by simp [World.cell?, z5]
        clear hW5 c0 r0 r1 f0 f1 hcell hlt
        obtain ⟨c0, r0, r1, f0, f1⟩ := hP5.cells
        have KF3 : ∀ W, Below W5.heap.size W5 W → Calls Tryz.prog 68 #[.agg #[.iface tn tv], .int .i64 (k : Int), .func fn first cap] W fun e w' => ∃ fn' first' cap', e = .returned (.func fn' first' cap') ∧ F wr.heap.size w' (.func fn' first' cap') t (k :: redexP s) ∧ Below W.heap.size W w' ∧
            (w'.cell? ⟨w4.heap.size, 0, none⟩ = some (.iface pn pv) ∧ w'.cell? ⟨w4.heap.size, 1, none⟩ = some (.func fn first cap) ∧ w'.cell? ⟨w.heap.size, 0, none⟩ = some (.iface tn tv)) ∧ PnW w tn tv w' :=
          fun W hW => (KF2 wr.heap.size fn first cap (redexP s) W (by have := hW.size; omega) (hF.keep _ _ _ _ _ _ hf5 (KeepsB.of_below hW))).mono fun e w' ⟨fn', first', cap', h1, h2, h3⟩ =>
            have hb := hW.trans (h3.mono hW.size)
            ⟨fn', first', cap', h1, h2, h3, ⟨(hb.cell (p := ⟨w4.heap.size, 0, none⟩) (by show w4.heap.size < _; omega)).trans e0, (hb.cell (p := ⟨w4.heap.size, 1, none⟩) (by show w4.heap.size < _; omega)).trans e1, (hP5.keep hb).cells.1⟩, hP5.keep hb⟩
        have d0 : W5.drew.cell? ⟨w4.heap.size, 0, none⟩ = some (.iface pn pv) := e0
        have d1 : W5.drew.cell? ⟨w4.heap.size, 1, none⟩ = some (.func fn first cap) := e1
        have d2 : W5.drew.cell? ⟨w.heap.size, 0, none⟩ = some (.iface tn tv) := c0
        have hBd : Below W5.heap.size W5 W5.drew := (Below.refl _ W5).drew
        go_wp2_with fail
        go_region_held3 (fun w' => w'.cell? ⟨w4.heap.size, 0, none⟩ = some (.iface pn pv) ∧ w'.cell? ⟨w4.heap.size, 1, none⟩ = some (.func fn first cap) ∧ w'.cell? ⟨w.heap.size, 0, none⟩ = some (.iface tn tv))
          (first | (refine ⟨?_, ?_, ?_⟩ <;> assumption) | exact ⟨d0, d1, d2⟩ | (refine ⟨?_, ?_, ?_⟩ <;> (rw [World.cell?_setCell_other _ _ _ _ (by first | (simp; done) | (simp; omega)), World.cell?_setCell_other _ _ _ _ (by first | (simp; done) | (simp; omega))]; assumption)))
          (first | (go_at_call 68; refine (KF3 _ (by first | exact hBd | exact Below.refl _ _)).mono ?_; rintro e w6 ⟨fn', first', cap', rfl, hf6, hb6, ⟨j0, j1, j2⟩, hP6⟩; obtain ⟨_, r0', r1', f0', f1'⟩ := hP6.cells))
        all_goals go_wp2_with fail
        all_goals refine bodyPost_ret (v := .tuple #[.agg #[.iface pn pv, .func fn' first' cap'], .bool true]) (by simp [results, Tryz.results38, go_sem, r0', r1']) rfl ?_
        all_goals
          refine ⟨(hP6.below.setCell (p := ⟨w.heap.size + 1, 0, none⟩) (by simp) _).setCell (p := ⟨w.heap.size + 1, 1, none⟩) (by simp) _, .inr ⟨HV.out, fn', first', cap', by rw [hpth.out, hpa.out, hpv], ?_⟩⟩
          rw [hpth.out]
          exact hF.mono _ _ _ _ _ _ (hF.keep _ _ _ _ _ _ hf6 ((KeepsB.set ⟨w.heap.size + 1, 0, none⟩ _ hpw).trans (KeepsB.set ⟨w.heap.size + 1, 1, none⟩ _ hpw))) (by omega)
      · have C2 : Calls Tryz.prog 38 #[.agg #[.iface sn sv]] wr fun e w' => Below wr.heap.size wr w' ∧ e = .returned (.tuple #[.agg #[.nilIface, .nilFunc], .bool false]) := C.mono fun e w' h => by
          obtain ⟨h1, ⟨_, h2⟩ | ⟨h2, _⟩⟩ := h
          · exact ⟨h1, h2⟩
          · rw [hsv] at h2; cases h2
        have HSV := Lib.hid hsv
        clear C hsv KF2
        go_wp2_with (go_at_call 38; refine C2.mono ?_; clear C2; rintro e w4 ⟨hb4, rfl⟩)
        have b5 := hb4.alloc hb4.size (.cells #[.nilIface, .nilFunc] 62)
        refine ⟨⟨k + 1, by omega, by go_num, fun j r hj hr => ?_, hP.keep b5, hBr.trans (b5.mono hBr.size)⟩, by simp [intOf]; omega⟩
        by_cases hjk : j < k
        · exact HPV.out j r hjk hr
        · obtain rfl : j = k := by omega
          rw [HSS.out] at hr
          injection hr with hr
          rw [← hr]
          exact HSV.out
    · have hnone := redexP_none (t := t) (fun j s hs => hprev j s (by have := (List.getElem?_eq_some_iff.1 hs).1; have := HM.out; omega) hs)
      have HNO := Lib.hid hnone
      have hw9 := KW ((wr.setCell ⟨w.heap.size + 1, 0, none⟩ (.iface tn tv)).setCell ⟨w.heap.size + 1, 1, none⟩ (.func (.func 69) #[] #[]))
      clear hnone hprev KI KF KW
      go_wp2_with fail
      refine bodyPost_ret (v := .tuple #[.agg #[.iface tn tv, .func (.func 69) #[] #[]], .bool true]) (by simp [results, Tryz.results38, go_sem, r0, r1]) rfl ?_
      refine ⟨(hBl.setCell (p := ⟨w.heap.size + 1, 0, none⟩) (by simp) _).setCell (p := ⟨w.heap.size + 1, 1, none⟩) (by simp) _, .inr ⟨HV.out, .func 69, #[], #[], ?_, ?_⟩⟩
      · rw [HNO.out, partAt, HNV.out]
      · rw [HNO.out]
        exact hw9
theorem pnext_c (F : Nat → World → Value → Tm → List Nat → Prop) (hF : FillOk F) : ∀ n, PNextC F n
  | 0 => fun t _ hd => absurd hd (by have := t.depth_pos; omega)
  | n + 1 => fun t w hd hn hg => by
    cases hv : t.isVal
    · exact pnext_node F hF n (pnext_c F hF n) t w hd hn hg hv
    · exact pnext_val F t w hv
end Go.Proofs.YtefmmgccdpfnaaaGreatDoor
