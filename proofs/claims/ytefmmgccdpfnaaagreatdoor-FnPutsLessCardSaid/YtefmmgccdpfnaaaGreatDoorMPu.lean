import Derived.Test.YtefmmgccdpfnaaaGreatDoorPuA
import Derived.Test.YtefmmgccdpfnaaaGreatDoorMSp
import Derived.Lib.AppendIntMem
/- The program's remade: a part with other names and kids. Written by genPu.py. -/
namespace Go.Proofs.YtefmmgccdpfnaaaGreatDoor
open Go.RowKit
open Ff
set_option linter.unusedVariables false
attribute [local go_sem] Oper.semAt_some

def isApp : Tm → Bool
  | .app _ _ => true | _ => false
def isOp : Tm → Bool
  | .op _ _ _ => true | _ => false
def isSel : Tm → Bool
  | .sel _ _ _ => true | _ => false
def appV : Tm → Value
  | .app f a => pl (.app f a) | _ => .agg #[.nilIface, .nilIface]
def opV : Tm → Value
  | .op o l r => pl (.op o l r) | _ => .agg #[.int .u8 0, .nilIface, .nilIface]
def selV : Tm → Value
  | .sel x y z => pl (.sel x y z) | _ => .agg #[.nilIface, .nilIface, .nilIface]
theorem ta_app (t : Tm) (w : World) : (Instr.typeAssert (.iface (ty t) (pl t)) 44 136 true).run Tryz.prog w = .ok (.tuple #[appV t, .bool (isApp t)]) w := by
  cases t <;> kernel_rfl
theorem ta_op (t : Tm) (w : World) : (Instr.typeAssert (.iface (ty t) (pl t)) 44 138 true).run Tryz.prog w = .ok (.tuple #[opV t, .bool (isOp t)]) w := by
  cases t <;> kernel_rfl
theorem ta_sel (t : Tm) (w : World) : (Instr.typeAssert (.iface (ty t) (pl t)) 44 142 true).run Tryz.prog w = .ok (.tuple #[selV t, .bool (isSel t)]) w := by
  cases t <;> kernel_rfl
set_option maxRecDepth 100000 in
set_option maxHeartbeats 4000000 in
theorem remade_fn (c : UInt8) (b : Tm) (d0 : UInt8) (s0 : Tm) (an ak : Option Addr) (cn ck : Nat) (w : World) (hn : RowAt w an [bv d0]) (hk : RowAt w ak [enc s0]) :
    Calls Tryz.prog 91 #[enc (.fn c b), .slice an 1 cn, .slice ak 1 ck] w fun e w' => e = .returned (enc (.fn d0 s0)) ∧ Below w.heap.size w w' := by
  have a1 := ta_fun (.fn c b)
  have a2 := ta_app (.fn c b)
  have a3 := ta_let (.fn c b)
  have a4 := ta_op (.fn c b)
  have a5 := ta_sel (.fn c b)
  obtain ⟨n0, v0, q0⟩ := enc_gen b
  obtain ⟨m0, u0, p0⟩ := enc_gen s0
  obtain ⟨g, rfl, hg, hn0⟩ := hn 0 (bv d0) rfl
  obtain ⟨h, rfl, hh, hk0⟩ := hk 0 (enc s0) rfl
  clear hn hk
  simp only [ty, pl, funV, isFun, appV, isApp, letV, isLet, opV, isOp, selV, isSel, q0] at a1 a2 a3 a4 a5
  simp only [enc, q0, p0]
  rw [p0] at hk0
  clear q0 p0
  go_enter Tryz.func91, Tryz.ntmps91
  go_wp2_with fail
  go_region
  all_goals go_wp2_with fail
  all_goals go_ret
  all_goals exact ⟨rfl, by first | exact (Below.refl _ w).alloc (Nat.le_refl _) _ | exact ((Below.refl _ w).alloc (Nat.le_refl _) _).drew | exact ((Below.refl _ w).drew.alloc (Nat.le_refl _) _)⟩
set_option maxRecDepth 100000 in
set_option maxHeartbeats 4000000 in
theorem remade_fix (f c : UInt8) (b : Tm) (d0 d1 : UInt8) (s0 : Tm) (an ak : Option Addr) (cn ck : Nat) (hf : isNam f = true) (w : World) (hn : RowAt w an [bv d0, bv d1]) (hk : RowAt w ak [enc s0]) :
    Calls Tryz.prog 91 #[enc (.fix f c b), .slice an 2 cn, .slice ak 1 ck] w fun e w' => e = .returned (enc (.fix d0 d1 s0)) ∧ Below w.heap.size w w' := by
  have a1 := ta_fun (.fix f c b)
  have a2 := ta_app (.fix f c b)
  have a3 := ta_let (.fix f c b)
  have a4 := ta_op (.fix f c b)
  have a5 := ta_sel (.fix f c b)
  obtain ⟨n0, v0, q0⟩ := enc_gen b
  obtain ⟨m0, u0, p0⟩ := enc_gen s0
  obtain ⟨g, rfl, hg, hn0⟩ := hn 0 (bv d0) rfl
  obtain ⟨g', e1, _, hn1⟩ := hn 1 (bv d1) rfl
  obtain rfl : g = g' := by simpa using e1
  obtain ⟨h, rfl, hh, hk0⟩ := hk 0 (enc s0) rfl
  clear hn hk
  simp only [ty, pl, funV, isFun, appV, isApp, letV, isLet, opV, isOp, selV, isSel, q0] at a1 a2 a3 a4 a5
  simp only [enc, q0, p0]
  rw [p0] at hk0
  have b1 : ((f.toNat : Int) == 0) = false := by
    simp only [isNam, Bool.and_eq_true, decide_eq_true_eq] at hf
    simp; omega
  clear hf
  clear q0 p0
  go_enter Tryz.func91, Tryz.ntmps91
  go_wp2_with fail
  go_region
  all_goals go_wp2_with fail
  all_goals go_ret
  all_goals exact ⟨rfl, by first | exact (Below.refl _ w).alloc (Nat.le_refl _) _ | exact ((Below.refl _ w).alloc (Nat.le_refl _) _).drew | exact ((Below.refl _ w).drew.alloc (Nat.le_refl _) _)⟩
set_option maxRecDepth 100000 in
set_option maxHeartbeats 4000000 in
theorem remade_app (f a : Tm) (d9 : UInt8) (s0 s1 : Tm) (an ak : Option Addr) (cn ck : Nat) (w : World) (hn : RowAt w an []) (hk : RowAt w ak [enc s0, enc s1]) :
    Calls Tryz.prog 91 #[enc (.app f a), .slice an 0 cn, .slice ak 2 ck] w fun e w' => e = .returned (enc (.app s0 s1)) ∧ Below w.heap.size w w' := by
  have a1 := ta_fun (.app f a)
  have a2 := ta_app (.app f a)
  have a3 := ta_let (.app f a)
  have a4 := ta_op (.app f a)
  have a5 := ta_sel (.app f a)
  obtain ⟨n0, v0, q0⟩ := enc_gen f
  obtain ⟨n1, v1, q1⟩ := enc_gen a
  obtain ⟨m0, u0, p0⟩ := enc_gen s0
  obtain ⟨m1, u1, p1⟩ := enc_gen s1
  obtain ⟨h, rfl, hh, hk0⟩ := hk 0 (enc s0) rfl
  obtain ⟨h', e1, _, hk1⟩ := hk 1 (enc s1) rfl
  obtain rfl : h = h' := by simpa using e1
  clear hn hk
  simp only [ty, pl, funV, isFun, appV, isApp, letV, isLet, opV, isOp, selV, isSel, q0, q1] at a1 a2 a3 a4 a5
  simp only [enc, q0, q1, p0, p1]
  rw [p0] at hk0
  rw [p1] at hk1
  clear q0 q1 p0 p1
  go_enter Tryz.func91, Tryz.ntmps91
  go_wp2_with fail
  go_region
  all_goals go_wp2_with fail
  all_goals go_ret
  all_goals exact ⟨rfl, by first | exact (Below.refl _ w).alloc (Nat.le_refl _) _ | exact ((Below.refl _ w).alloc (Nat.le_refl _) _).drew | exact ((Below.refl _ w).drew.alloc (Nat.le_refl _) _)⟩
set_option maxRecDepth 100000 in
set_option maxHeartbeats 4000000 in
theorem remade_bind (c : UInt8) (v b : Tm) (d0 : UInt8) (s0 s1 : Tm) (an ak : Option Addr) (cn ck : Nat) (w : World) (hn : RowAt w an [bv d0]) (hk : RowAt w ak [enc s0, enc s1]) :
    Calls Tryz.prog 91 #[enc (.bind c v b), .slice an 1 cn, .slice ak 2 ck] w fun e w' => e = .returned (enc (.bind d0 s0 s1)) ∧ Below w.heap.size w w' := by
  have a1 := ta_fun (.bind c v b)
  have a2 := ta_app (.bind c v b)
  have a3 := ta_let (.bind c v b)
  have a4 := ta_op (.bind c v b)
  have a5 := ta_sel (.bind c v b)
  obtain ⟨n0, v0, q0⟩ := enc_gen v
  obtain ⟨n1, v1, q1⟩ := enc_gen b
  obtain ⟨m0, u0, p0⟩ := enc_gen s0
  obtain ⟨m1, u1, p1⟩ := enc_gen s1
  obtain ⟨g, rfl, hg, hn0⟩ := hn 0 (bv d0) rfl
  obtain ⟨h, rfl, hh, hk0⟩ := hk 0 (enc s0) rfl
  obtain ⟨h', e1, _, hk1⟩ := hk 1 (enc s1) rfl
  obtain rfl : h = h' := by simpa using e1
  clear hn hk
  simp only [ty, pl, funV, isFun, appV, isApp, letV, isLet, opV, isOp, selV, isSel, q0, q1] at a1 a2 a3 a4 a5
  simp only [enc, q0, q1, p0, p1]
  rw [p0] at hk0
  rw [p1] at hk1
  clear q0 q1 p0 p1
  go_enter Tryz.func91, Tryz.ntmps91
  go_wp2_with fail
  go_region
  all_goals go_wp2_with fail
  all_goals go_ret
  all_goals exact ⟨rfl, by first | exact (Below.refl _ w).alloc (Nat.le_refl _) _ | exact ((Below.refl _ w).alloc (Nat.le_refl _) _).drew | exact ((Below.refl _ w).drew.alloc (Nat.le_refl _) _)⟩
set_option maxRecDepth 100000 in
set_option maxHeartbeats 4000000 in
theorem remade_op (o : UInt8) (l r : Tm) (d9 : UInt8) (s0 s1 : Tm) (an ak : Option Addr) (cn ck : Nat) (w : World) (hn : RowAt w an []) (hk : RowAt w ak [enc s0, enc s1]) :
    Calls Tryz.prog 91 #[enc (.op o l r), .slice an 0 cn, .slice ak 2 ck] w fun e w' => e = .returned (enc (.op o s0 s1)) ∧ Below w.heap.size w w' := by
  have a1 := ta_fun (.op o l r)
  have a2 := ta_app (.op o l r)
  have a3 := ta_let (.op o l r)
  have a4 := ta_op (.op o l r)
  have a5 := ta_sel (.op o l r)
  obtain ⟨n0, v0, q0⟩ := enc_gen l
  obtain ⟨n1, v1, q1⟩ := enc_gen r
  obtain ⟨m0, u0, p0⟩ := enc_gen s0
  obtain ⟨m1, u1, p1⟩ := enc_gen s1
  obtain ⟨h, rfl, hh, hk0⟩ := hk 0 (enc s0) rfl
  obtain ⟨h', e1, _, hk1⟩ := hk 1 (enc s1) rfl
  obtain rfl : h = h' := by simpa using e1
  clear hn hk
  simp only [ty, pl, funV, isFun, appV, isApp, letV, isLet, opV, isOp, selV, isSel, q0, q1] at a1 a2 a3 a4 a5
  simp only [enc, q0, q1, p0, p1]
  rw [p0] at hk0
  rw [p1] at hk1
  clear q0 q1 p0 p1
  go_enter Tryz.func91, Tryz.ntmps91
  go_wp2_with fail
  go_region
  all_goals go_wp2_with fail
  all_goals go_ret
  all_goals exact ⟨rfl, by first | exact (Below.refl _ w).alloc (Nat.le_refl _) _ | exact ((Below.refl _ w).alloc (Nat.le_refl _) _).drew | exact ((Below.refl _ w).drew.alloc (Nat.le_refl _) _)⟩
set_option maxRecDepth 100000 in
set_option maxHeartbeats 4000000 in
theorem remade_sel (x y z : Tm) (d9 : UInt8) (s0 s1 s2 : Tm) (an ak : Option Addr) (cn ck : Nat) (w : World) (hn : RowAt w an []) (hk : RowAt w ak [enc s0, enc s1, enc s2]) :
    Calls Tryz.prog 91 #[enc (.sel x y z), .slice an 0 cn, .slice ak 3 ck] w fun e w' => e = .returned (enc (.sel s0 s1 s2)) ∧ Below w.heap.size w w' := by
  have a1 := ta_fun (.sel x y z)
  have a2 := ta_app (.sel x y z)
  have a3 := ta_let (.sel x y z)
  have a4 := ta_op (.sel x y z)
  have a5 := ta_sel (.sel x y z)
  obtain ⟨n0, v0, q0⟩ := enc_gen x
  obtain ⟨n1, v1, q1⟩ := enc_gen y
  obtain ⟨n2, v2, q2⟩ := enc_gen z
  obtain ⟨m0, u0, p0⟩ := enc_gen s0
  obtain ⟨m1, u1, p1⟩ := enc_gen s1
  obtain ⟨m2, u2, p2⟩ := enc_gen s2
  obtain ⟨h, rfl, hh, hk0⟩ := hk 0 (enc s0) rfl
  obtain ⟨h', e1, _, hk1⟩ := hk 1 (enc s1) rfl
  obtain rfl : h = h' := by simpa using e1
  obtain ⟨h', e2, _, hk2⟩ := hk 2 (enc s2) rfl
  obtain rfl : h = h' := by simpa using e2
  clear hn hk
  simp only [ty, pl, funV, isFun, appV, isApp, letV, isLet, opV, isOp, selV, isSel, q0, q1, q2] at a1 a2 a3 a4 a5
  simp only [enc, q0, q1, q2, p0, p1, p2]
  rw [p0] at hk0
  rw [p1] at hk1
  rw [p2] at hk2
  clear q0 q1 q2 p0 p1 p2
  go_enter Tryz.func91, Tryz.ntmps91
  go_wp2_with fail
  go_region
  all_goals go_wp2_with fail
  all_goals go_ret
  all_goals exact ⟨rfl, by first | exact (Below.refl _ w).alloc (Nat.le_refl _) _ | exact ((Below.refl _ w).alloc (Nat.le_refl _) _).drew | exact ((Below.refl _ w).drew.alloc (Nat.le_refl _) _)⟩
set_option maxHeartbeats 2000000 in
theorem remade_leaf (t : Tm) (h : t.kids = []) (a b : Value) (hb : ∃ x l c, b = .slice x l c) (ha : ∃ x l c, a = .slice x l c) (w : World) :
    Calls Tryz.prog 91 #[enc t, a, b] w fun e w' => e = .returned (enc t) ∧ Below w.heap.size w w' := by
  obtain ⟨_, _, _, rfl⟩ := ha
  obtain ⟨_, _, _, rfl⟩ := hb
  have a1 := ta_fun t
  have a2 := ta_app t
  have a3 := ta_let t
  have a4 := ta_op t
  have a5 := ta_sel t
  have h1 : isFun t = false ∧ isApp t = false ∧ isLet t = false ∧ isOp t = false ∧ isSel t = false ∧ funV t = .agg #[.int .u8 0, .int .u8 0, .nilIface] ∧ appV t = .agg #[.nilIface, .nilIface] ∧ letV t = .agg #[.int .u8 0, .nilIface, .nilIface] ∧ opV t = .agg #[.int .u8 0, .nilIface, .nilIface] ∧ selV t = .agg #[.nilIface, .nilIface, .nilIface] := by
    cases t <;> simp [Tm.kids] at h <;> exact ⟨rfl, rfl, rfl, rfl, rfl, rfl, rfl, rfl, rfl, rfl⟩
  obtain ⟨h1, h2, h3, h4, h5, e1, e2, e3, e4, e5⟩ := h1
  rw [h1, e1] at a1
  rw [h2, e2] at a2
  rw [h3, e3] at a3
  rw [h4, e4] at a4
  rw [h5, e5] at a5
  rw [enc_ty t]
  clear h h1 h2 h3 h4 h5 e1 e2 e3 e4 e5
  go_enter Tryz.func91, Tryz.ntmps91
  go_wp2_with fail
  go_ret
  exact ⟨rfl, Below.refl _ w⟩
/-- What a part becomes that gets as many names and kids. -/
theorem remade_c (t : Tm) (hg : t.good) (ns : Text) (ks : List Tm) (hn : ns.length = (bindsOf t).length) (hk : ks.length = t.kids.length) (an ak : Option Addr) (cn ck : Nat) (w : World) (h1 : RowAt w an (ns.map bv)) (h2 : RowAt w ak (ks.map enc)) :
    Calls Tryz.prog 91 #[enc t, .slice an ns.length cn, .slice ak ks.length ck] w fun e w' => e = .returned (enc (reTm t ns ks)) ∧ Below w.heap.size w w' := by
  cases t with
  | num n => exact remade_leaf (.num n) rfl _ _ ⟨_, _, _, rfl⟩ ⟨_, _, _, rfl⟩ w
  | var c => exact remade_leaf (.var c) rfl _ _ ⟨_, _, _, rfl⟩ ⟨_, _, _, rfl⟩ w
  | fn c b =>
    match ns, ks, hn, hk with
    | [d0], [s0], _, _ => exact remade_fn c b d0 s0 an ak cn ck w h1 h2
  | fix f c b =>
    match ns, ks, hn, hk with
    | [d0, d1], [s0], _, _ => exact remade_fix f c b d0 d1 s0 an ak cn ck hg.1 w h1 h2
  | app f a =>
    match ns, ks, hn, hk with
    | [], [s0, s1], _, _ => exact remade_app f a 0 s0 s1 an ak cn ck w h1 h2
  | bind c v b =>
    match ns, ks, hn, hk with
    | [d0], [s0, s1], _, _ => exact remade_bind c v b d0 s0 s1 an ak cn ck w h1 h2
  | op o l r =>
    match ns, ks, hn, hk with
    | [], [s0, s1], _, _ => exact remade_op o l r 0 s0 s1 an ak cn ck w h1 h2
  | sel x y z =>
    match ns, ks, hn, hk with
    | [], [s0, s1, s2], _, _ => exact remade_sel x y z 0 s0 s1 s2 an ak cn ck w h1 h2
end Go.Proofs.YtefmmgccdpfnaaaGreatDoor

/- Rows that the program has made and stores into. -/
namespace Go.Proofs.YtefmmgccdpfnaaaGreatDoor
open Go.RowKit
open Ff
set_option linter.unusedVariables false

theorem row_setI {W : World} {base : Nat} {e : TypeId} {n g cap : Nat} {xs : List Value} (h : W.ownsRow base e 1 (.slice (some ⟨g, 0, none⟩) n cap) n xs) (j : Nat) (u : Value) : (W.setCell ⟨g, j, none⟩ u).ownsRow base e 1 (.slice (some ⟨g, 0, none⟩) n cap) n (xs.set j u) := by
  obtain ⟨h1, h2⟩ := h
  refine ⟨by simpa using h1, ?_⟩
  rcases h2 with ⟨h2, _⟩ | ⟨g', cap', cur, hv, hb, hh, hn, hm, hc, ht⟩
  · cases h2
  · injection hv with hv1 hv2 hv3
    injection hv1 with hv1
    injection hv1 with hv1
    subst hv1 hv3
    refine .inr ⟨g, cap, cur.setIfInBounds j u, rfl, hb, ?_, hn, hm, by simpa using hc, ?_⟩
    · obtain ⟨hlt, hk⟩ := Array.getElem?_eq_some_iff.1 hh
      show (W.heap.modify g _)[g]? = _
      rw [Array.getElem?_eq_getElem (by rw [Array.size_modify]; exact hlt), Array.getElem_modify_self, hk]
      rfl
    · rw [Nat.mul_one] at ht ⊢
      rw [Array.toList_setIfInBounds, List.take_set, ht]
theorem Ints.frozen {W : World} {base : Nat} {e : TypeId} {n g cap size : Nat} {xs : List Value} (h : W.ownsRow base e size (.slice (some ⟨g, 0, none⟩) n cap) n xs) (j : Nat) : W.frozen? ⟨g, j, none⟩ = false := by
  rcases h.2 with ⟨h2, _⟩ | ⟨g', cap', cur, hv, hb, hh, hn, hm, hc, ht⟩
  · cases h2
  · injection hv with hv1
    injection hv1 with hv1
    injection hv1 with hv1
    subst hv1
    simp [World.frozen?, hh]
end Go.Proofs.YtefmmgccdpfnaaaGreatDoor

/- The program's visitKids: what visitors make of the kids of a part. -/
namespace Go.Proofs.YtefmmgccdpfnaaaGreatDoor
open Go.RowKit
open Ff
set_option linter.unusedVariables false
attribute [local go_sem] Oper.semAt_some

/-- The panic of a shortage of names. -/
def shortP : List PanicEntry := [{ v := .iface 186 (.agg #[]), recovered := false }]
/-- What a visit comes to. -/
def SubP (r : Tm × Bool) (w : World) (e : Ending) (w' : World) : Prop := ((r.2 = true ∧ e = .returned (enc r.1)) ∨ (r.2 = false ∧ e = .panicked shortP)) ∧ Below w.heap.size w w'
/-- A visitor. -/
def Visits (B : Nat) (w0 : World) (fv : Value) (s : Tm) (r : Tm × Bool) : Prop :=
  ∃ (f : FuncId) (first : Array Value), fv = .func (.func f) first #[] ∧ (∀ w v, (callFunc f (first.push v)).run Tryz.prog w = .ok (.enter f (first.push v)) w) ∧ ∀ w, Below B w0 w → Calls Tryz.prog f (first.push (enc s)) w (SubP r w)
theorem Tryz.infoTm : (Tryz.prog.info? 44).map (fun i => (i.zero, i.size, i.bytes)) = some (some .nilIface, 1, 16) := by kernel_rfl
theorem ownsRow_keep {W W' : World} {base : Nat} {e : TypeId} {size n : Nat} {v : Value} {xs : List Value} (h : W.ownsRow base e size v n xs) (hb : Below W.heap.size W W') : W'.ownsRow base e size v n xs :=
  World.ownsRow.kept (row := none) h (below_grown hb) (by rcases ho : Value.ownBlock v with _ | j; exact .inl rfl; exact .inr (by simp))
theorem last_eq {k n : Nat} (h : k + 1 = n) : ((k : Int) == (n : Int) - 1) = true := by subst h; simp
theorem last_ne {k n : Nat} (h : k + 1 ≠ n) : ((k : Int) == (n : Int) - 1) = false := by rw [beq_eq_false_iff_ne]; omega

set_option maxRecDepth 100000 in
set_option maxHeartbeats 4000000 in
theorem visitKids_c (t : Tm) (fo fi : Value) (rs : List (Tm × Bool)) (B : Nat) (w0 w : World) (hlen : rs.length = t.kids.length) (hB : Below B w0 w) (hBs : B ≤ w.heap.size)
    (hv : ∀ k s r, t.kids[k]? = some s → rs[k]? = some r → Visits B w0 (if k + 1 = t.kids.length then fi else fo) s r) :
    Calls Tryz.prog 141 #[enc t, fo, fi] w fun e w' => Below w.heap.size w w' ∧
      ((rs.all (·.2) = true ∧ ∃ a cap, e = .returned (.slice a rs.length cap) ∧ RowAt w' a (rs.map fun r => enc r.1)) ∨ (rs.all (·.2) = false ∧ e = .panicked shortP)) := by
  obtain ⟨i0, hi, hz0, hz1, hz2⟩ := info_parts Tryz.infoTm
  have hk3 : t.kids.length ≤ 3 := by cases t <;> simp [Tm.kids]
  rw [enc_ty t]
  have HV := Lib.hid hv
  have HL := Lib.hid hlen
  clear hv hlen
  obtain ⟨n, hn⟩ : ∃ n, t.kids.length = n := ⟨_, rfl⟩
  go_enter Tryz.func141, Tryz.ntmps141
  go_wp2_with (refine wpList_invoke rfl _ _ (ty t) (pl t) rfl rfl (kf t) (kids_m t _ (by unfold KidsName; kernel_rfl) _) (kids_f t _) (fun v w' => SliceOf w.heap.size w' v (t.kids.map enc) ∧ Below w.heap.size w w') (kids_c t _) ?_; rintro x w1 ⟨hs, hb⟩; obtain ⟨a, rfl, hcell⟩ := hs.uni; clear hs; have HC := Lib.hid hcell; clear hcell; rw [List.length_map, hn]; obtain ⟨w2, hrun, hown, hgrow⟩ := run_make_full (P := Tryz.prog) w1 w1.heap.size 100 44 i0 .nilIface 1 Tryz.underlying100 hi hz0 hz1 .i64 .i64 n (by rw [hz2]; omega) (by unfold maxLen; omega) (Nat.le_refl _))
  have hb2 : Below w.heap.size w w2 := hb.grown hgrow hb.size (fun j hj => by cases hj)
  have hmk : (madeCells (Value.nilIface).cells (n * 1)).toList.length = n := by have := hown.1; omega
  have hg12 : w1.heap.size ≤ w2.heap.size := hgrow.size
  have HC2 : Hid (∀ i x, (t.kids.map enc)[i]? = some x → ∃ g, a = some ⟨g, 0, none⟩ ∧ w.heap.size ≤ g ∧ g < w1.heap.size ∧ w2.cell? ⟨g, i, none⟩ = some x) := Lib.hid fun i x hx => by
    obtain ⟨g, h1, h2, h3, h4⟩ := HC.out i x hx
    exact ⟨g, h1, h2, h3, hgrow.cell h4 (by simp)⟩
  have HO := Lib.hid hown
  have HN := Lib.hid hn
  clear hown hrun HC
  go_loopw [18] (fun i wr => ∃ (k : Nat) (ys : List Value), k ≤ n ∧ i = .int .i64 k ∧ wr.ownsRow w1.heap.size 44 1 (.slice (some ⟨w1.heap.size, 0, none⟩) n n) n ys ∧ Below w.heap.size w wr ∧ w2.grownBy wr (some w1.heap.size) ∧ ∀ j r, j < k → rs[j]? = some r → r.2 = true ∧ ys[j]? = some (enc r.1)) (fun i _ => n - (intOf i).toNat)
  case atStart => exact ⟨0, _, Nat.zero_le _, rfl, HO.out, hb2, World.grownBy.refl _ _, fun j r h => by omega⟩
  case round =>
    obtain ⟨k, ys, hk, rfl, hO, hBr, hG, hys⟩ := hrel
    have hyl : ys.length = n := by have := hO.1; omega
    by_cases hlt : k < n
    · obtain ⟨s, hs⟩ : ∃ s, t.kids[k]? = some s := ⟨_, List.getElem?_eq_getElem (by have := HN.out; omega)⟩
      obtain ⟨r, hr⟩ : ∃ r, rs[k]? = some r := ⟨_, List.getElem?_eq_getElem (by have := HN.out; have := HL.out; omega)⟩
      obtain ⟨y, hy⟩ : ∃ y, ys[k]? = some y := ⟨_, List.getElem?_eq_getElem (by omega)⟩
      obtain ⟨g, rfl, hg1, hg2, hc⟩ := HC2.out k (enc s) (by simp [hs])
      have hc2 := hG.cell hc (by simp; omega)
      have hvis := HV.out k s r hs hr
      rw [HN.out] at hvis
      have HS := Lib.hid hs
      have HR := Lib.hid hr
      have HY := Lib.hid hys
      have HYL := Lib.hid hyl
      have HOO := Lib.hid hO
      have hsr : w1.heap.size < wr.heap.size := (hO.lt w1.heap.size rfl).2
      have cy := hO.cells (g := w1.heap.size) rfl k y hy
      rw [Addr.add_lit, Nat.zero_add] at cy
      have fy := Ints.frozen hO k
      clear hs hr hys hyl hc hy hO
      rw [enc_ty s] at hc2
      by_cases hlast : k + 1 = n
      · rw [if_pos hlast] at hvis
        have hq := last_eq hlast
        obtain ⟨f, first, rfl, hcf, hC⟩ := hvis
        have C := hC wr (hB.trans (hBr.mono hBs))
        rw [enc_ty s] at C
        have hw : IntKind.i64.wrap ((n : Int) - 1) = (n : Int) - 1 := by rw [IntKind.wrap_i64]; omega
        have HLA := Lib.hid hlast
        clear hlast hC HV
        go_wp2_with fail
        refine C.mono ?_
        clear C hcf
        rintro e w3 ⟨h | h, hb3⟩
        · obtain ⟨hr2, rfl⟩ := h
          have c3 := (hb3.cell (p := ⟨w1.heap.size, k, none⟩) hsr).trans cy
          have f3 := (hb3.frozen (p := ⟨w1.heap.size, k, none⟩) hsr).trans fy
          have HR2 := Lib.hid hr2
          clear hr2 cy fy
          obtain ⟨m1, m2, m3⟩ := enc_gen r.1
          have M3 := Lib.hid m3
          rw [m3]
          clear m3
          go_wp2_with fail
          refine ⟨⟨k + 1, ys.set k (.iface m1 m2), by omega, by go_num, row_setI (ownsRow_keep HOO.out hb3) k _, (hBr.trans (hb3.mono hBr.size)).setCell (p := ⟨w1.heap.size, k, none⟩) hb.size _, grownBy_set (hG.andThen (below_grown hb3) (fun j hj => by cases hj)) k _, ?_⟩, by simp [intOf]; omega⟩
          intro j r' hj hr'
          by_cases e : j = k
          · subst e
            rw [HR.out] at hr'
            injection hr' with hr'
            subst hr'
            exact ⟨HR2.out, by rw [List.getElem?_set_self (by have := HYL.out; omega), M3.out]⟩
          · rw [List.getElem?_set_ne (Ne.symm e)]
            exact HY.out j r' (by omega) hr'
        · obtain ⟨hr2, rfl⟩ := h
          have hall : rs.all (·.2) = false := by
            rw [List.all_eq_false]
            exact ⟨r, List.mem_of_getElem? HR.out, by simp [hr2]⟩
          exact ⟨rfl, hBr.trans (hb3.mono hBr.size), .inr ⟨hall, rfl⟩⟩
      · rw [if_neg hlast] at hvis
        have hq := last_ne hlast
        obtain ⟨f, first, rfl, hcf, hC⟩ := hvis
        have C := hC wr (hB.trans (hBr.mono hBs))
        rw [enc_ty s] at C
        have hw : IntKind.i64.wrap ((n : Int) - 1) = (n : Int) - 1 := by rw [IntKind.wrap_i64]; omega
        have HLA := Lib.hid hlast
        clear hlast hC HV
        go_wp2_with fail
        refine C.mono ?_
        clear C hcf
        rintro e w3 ⟨h | h, hb3⟩
        · obtain ⟨hr2, rfl⟩ := h
          have c3 := (hb3.cell (p := ⟨w1.heap.size, k, none⟩) hsr).trans cy
          have f3 := (hb3.frozen (p := ⟨w1.heap.size, k, none⟩) hsr).trans fy
          have HR2 := Lib.hid hr2
          clear hr2 cy fy
          obtain ⟨m1, m2, m3⟩ := enc_gen r.1
          have M3 := Lib.hid m3
          rw [m3]
          clear m3
          go_wp2_with fail
          refine ⟨⟨k + 1, ys.set k (.iface m1 m2), by omega, by go_num, row_setI (ownsRow_keep HOO.out hb3) k _, (hBr.trans (hb3.mono hBr.size)).setCell (p := ⟨w1.heap.size, k, none⟩) hb.size _, grownBy_set (hG.andThen (below_grown hb3) (fun j hj => by cases hj)) k _, ?_⟩, by simp [intOf]; omega⟩
          intro j r' hj hr'
          by_cases e : j = k
          · subst e
            rw [HR.out] at hr'
            injection hr' with hr'
            subst hr'
            exact ⟨HR2.out, by rw [List.getElem?_set_self (by have := HYL.out; omega), M3.out]⟩
          · rw [List.getElem?_set_ne (Ne.symm e)]
            exact HY.out j r' (by omega) hr'
        · obtain ⟨hr2, rfl⟩ := h
          have hall : rs.all (·.2) = false := by
            rw [List.all_eq_false]
            exact ⟨r, List.mem_of_getElem? HR.out, by simp [hr2]⟩
          exact ⟨rfl, hBr.trans (hb3.mono hBr.size), .inr ⟨hall, rfl⟩⟩
    · obtain rfl : k = n := by omega
      have HY := Lib.hid hys
      have HYL := Lib.hid hyl
      have HOO := Lib.hid hO
      clear hys hyl hO
      go_wp2_with fail
      go_ret
      have hall : rs.all (·.2) = true := by
        rw [List.all_eq_true]
        intro r hr
        obtain ⟨j, hj⟩ := List.getElem?_of_mem hr
        have hjl := (List.getElem?_eq_some_iff.1 hj).1
        exact (HY.out j r (by have := HL.out; have := HN.out; omega) hj).1
      refine ⟨hBr, .inl ⟨hall, _, k, by rw [HL.out, HN.out]; rfl, fun j x hx => ?_⟩⟩
      obtain ⟨r, hr, rfl⟩ : ∃ r, rs[j]? = some r ∧ enc r.1 = x := by simpa using hx
      have hjl := (List.getElem?_eq_some_iff.1 hr).1
      have h2 := (HY.out j r (by have := HL.out; have := HN.out; omega) hr).2
      have h3 := HOO.out.cells (g := w1.heap.size) rfl j _ h2
      rw [Addr.add_lit, Nat.zero_add] at h3
      exact ⟨_, rfl, (HOO.out.lt w1.heap.size rfl).2, h3⟩
end Go.Proofs.YtefmmgccdpfnaaaGreatDoor

/- The program's putting: a new one; a name that is not taken; the names that are. -/
namespace Go.Proofs.YtefmmgccdpfnaaaGreatDoor
open Go.RowKit
open Ff
set_option linter.unusedVariables false
attribute [local go_sem] Oper.semAt_some

/-- A putting as the program holds it. -/
abbrev putV (x : UInt8) (u : Tm) (b : Nat) : Value := .agg #[bv x, enc u, .map (some b)]
theorem three_of {w : World} {b : Nat} {z0 z1 z2 : Value} {t : TypeId} (h : w.heap[b]? = some (.cells #[z0, z1, z2] t (0, 0))) : w.cell? ⟨b, 0, none⟩ = some z0 ∧ w.cell? ⟨b, 1, none⟩ = some z1 ∧ w.cell? ⟨b, 2, none⟩ = some z2 ∧ ∀ k, w.frozen? ⟨b, k, none⟩ = false := by
  refine ⟨?_, ?_, ?_, fun k => ?_⟩ <;> simp [World.cell?, World.frozen?, h]
set_option maxRecDepth 100000 in
set_option maxHeartbeats 2000000 in
theorem newPutting_c (x : UInt8) (u : Tm) (w : World) (hu : u.good) (hp : (parts u).length ≤ 4000) (hd : u.depth ≤ 4000) :
    Calls Tryz.prog 136 #[bv x, enc u] w fun e w' => ∃ b m, e = .returned (putV x u b) ∧ w.heap.size ≤ b ∧ m ≤ (parts u).length ∧ Tally w' b m (cntF u) ∧ Below w.heap.size w w' := by
  have hb0 := (Below.refl _ w).alloc (Nat.le_refl _) (.cells #[.int .u8 0, .nilIface, .map none] 168)
  have C := freeIn_c 4000 u (w.alloc (.cells #[.int .u8 0, .nilIface, .map none] 168)) hd (Nat.le_refl _) hp hu
  obtain ⟨n, v, hv⟩ := enc_gen u
  have HV := Lib.hid hv
  unfold putV
  rw [hv] at C ⊢
  clear hv
  have z := World.alloc_heap_new w (.cells #[.int .u8 0, .nilIface, .map none] 168)
  have hs0 : w.heap.size < (w.alloc (.cells #[.int .u8 0, .nilIface, .map none] 168)).heap.size := by simp
  go_enter Tryz.func136, Tryz.ntmps136
  generalize hW0 : w.alloc (.cells #[.int .u8 0, .nilIface, .map none] 168) = W0 at *
  go_wp2_with (go_at_call 41; refine C.mono ?_; rintro e w1 ⟨b, m, rfl, hb1, hm, hT, hb2⟩; obtain ⟨p0, p1, p2, pf⟩ := three_of ((hb2.block _ hs0).trans z); have q0 := pf 0; have q1 := pf 1; have q2 := pf 2)
  have hbb : b ≠ w.heap.size := by omega
  refine bodyPost_ret (v := .agg #[bv x, .iface n v, .map (some b)]) (by simp [results, Tryz.results136, go_sem, p0, p1, p2]) rfl ?_
  exact ⟨b, m, rfl, by omega, hm, ((hT.setCell hbb _).setCell hbb _).setCell hbb _, (((hb0.trans (hb2.mono (by omega))).setCell (p := ⟨w.heap.size, 0, none⟩) (Nat.le_refl _) _).setCell (p := ⟨w.heap.size, 1, none⟩) (Nat.le_refl _) _).setCell (p := ⟨w.heap.size, 2, none⟩) (Nat.le_refl _) _⟩
set_option maxRecDepth 100000 in
set_option maxHeartbeats 2000000 in
theorem mustUntaken_c (b nm : Nat) (m : UInt8 → Nat) (w : World) (hT : Tally w b nm m) :
    Calls Tryz.prog 147 #[.map (some b)] w fun e w' => ((∃ c, (butTo m 16).head? = some c ∧ e = .returned (bv c)) ∨ ((butTo m 16).head? = none ∧ e = .panicked shortP)) ∧ Below w.heap.size w w' := by
  have C := untaken_c b nm m w hT
  unfold untV at C
  rcases hr : (butTo m 16).head? with _ | c
  · rw [hr] at C
    go_enter Tryz.func147, Tryz.ntmps147
    go_wp2_with (go_at_call 153; refine C.mono ?_; clear C; rintro e w1 ⟨rfl, hb1⟩)
    exact ⟨rfl, .inr ⟨trivial, rfl⟩, hb1⟩
  · rw [hr] at C
    go_enter Tryz.func147, Tryz.ntmps147
    go_wp2_with (go_at_call 153; refine C.mono ?_; clear C; rintro e w1 ⟨rfl, hb1⟩)
    go_ret
    exact ⟨.inl ⟨c, rfl, rfl⟩, hb1⟩
/-- How often a name stands free in a part's body and in what is put. -/
def baseM (u t : Tm) : UInt8 → Nat := fun c => cntF (lastK t) c + cntF u c
/-- How often a name is taken for a part. -/
def takeM (x : UInt8) (u t : Tm) (k : Nat) : UInt8 → Nat := fun c => cntF (lastK t) c + cntF u c + (if c = x then 1 else 0) + ((bindsOf t).take k).count c
theorem take_zero (x : UInt8) (u t : Tm) (c : UInt8) : upd (baseM u t) x (baseM u t x + 1) c = takeM x u t 0 c := by
  unfold upd takeM baseM
  by_cases e : c = x
  · subst e; simp
  · simp [e]
theorem take_succ (x : UInt8) (u t : Tm) (k : Nat) (c : UInt8) (hc : (bindsOf t)[k]? = some c) (y : UInt8) : upd (takeM x u t k) c (takeM x u t k c + 1) y = takeM x u t (k + 1) y := by
  unfold upd takeM
  rw [List.take_add_one, hc]
  simp only [Option.toList_some, List.count_append, List.count_singleton]
  by_cases e : y = c
  · subst e; simp; omega
  · have e2 : ¬ c = y := fun h => e h.symm
    simp [e, e2]
theorem take_le (x : UInt8) (u t : Tm) (c : UInt8) (k : Nat) (hu : (parts u).length ≤ 4000) (hp : (parts (lastK t)).length ≤ 4000) : takeM x u t k c ≤ 9000 := by
  have h1 := cnt_le (lastK t) c
  have h2 := cnt_le u c
  have h3 : ((bindsOf t).take k).count c ≤ 2 := Nat.le_trans List.count_le_length (Nat.le_trans (by rw [List.length_take]; omega) (binds_len t))
  unfold takeM
  split <;> omega
set_option maxRecDepth 100000 in
set_option maxHeartbeats 4000000 in
theorem takenFor_c (x : UInt8) (u t : Tm) (b m : Nat) (w : World) (hT : Tally w b m (cntF u)) (hm : m ≤ 4000) (hu : (parts u).length ≤ 4000) (ht : t.good) (hk : t.kids ≠ []) (hp : (parts t).length ≤ 4000) (hd : t.depth ≤ 4000) :
    Calls Tryz.prog 148 #[putV x u b, enc t] w fun e w' => ∃ b' m', e = .returned (.map (some b')) ∧ w.heap.size ≤ b' ∧ Tally w' b' m' (takeM x u t (bindsOf t).length) ∧ Below w.heap.size w w' := by
  have hl : lastK t ∈ t.kids := by
    unfold lastK
    rcases h : t.kids.getLast? with _ | y
    · rw [List.getLast?_eq_none_iff] at h; exact absurd h hk
    · exact List.mem_of_getLast? h
  have hb0 := (Below.refl _ w).alloc (Nat.le_refl _) (.cells #[bv x, enc u, .map (some b)] 168)
  have hpl := parts_kid_le hl
  have hdl := kid_depth hl
  have C1 := bodyOf_c t hk (w.alloc (.cells #[bv x, enc u, .map (some b)] 168))
  have C2 := fun w' => freeIn_c 4000 (lastK t) w' (by omega) (Nat.le_refl _) (by omega) (Tm.kid_good ht hl)
  have KB := fun w' => boundBy_c t ht w'
  have hM1 : ∀ c, cntF (lastK t) c + cntF u c ≤ 1000000 := fun c => by
    have := cnt_le (lastK t) c
    have := cnt_le u c
    omega
  have hM2 : ∀ c, takeM x u t 0 c ≤ 1000000 := fun c => by
    have := cnt_le (lastK t) c
    have := cnt_le u c
    simp only [takeM, List.take_zero, List.count_nil]
    split <;> omega
  have hMx : baseM u t x ≤ 10000 := by
    unfold baseM
    have := cnt_le (lastK t) x
    have := cnt_le u x
    omega
  have hlen := binds_len t
  have HM := Lib.hid hM1
  have HM2 := Lib.hid hM2
  have hT0 : Tally (w.alloc (.cells #[bv x, enc u, .map (some b)] 168)) b m (cntF u) := hT.alloc _
  have hbw := hT.lt
  have z := World.alloc_heap_new w (.cells #[bv x, enc u, .map (some b)] 168)
  have hs0 : w.heap.size < (w.alloc (.cells #[bv x, enc u, .map (some b)] 168)).heap.size := by simp
  have hpn : (parts (lastK t)).length ≤ 4000 := by omega
  obtain ⟨ln, lv, hlv⟩ := enc_gen (lastK t)
  obtain ⟨un, uv, huv⟩ := enc_gen u
  obtain ⟨tn, tv, htv⟩ := enc_gen t
  simp only [hlv, huv, htv] at C1 C2 KB z hs0 hb0 hT0
  unfold putV
  simp only [huv, htv]
  clear hM1 hM2 hT hl hlv huv htv
  go_enter Tryz.func148, Tryz.ntmps148
  generalize hW0 : w.alloc (.cells #[bv x, .iface un uv, .map (some b)] 168) = W0 at *
  go_wp2_with (first
    | (go_at_call 145; refine C1.mono ?_; clear C1; rintro e w1 ⟨rfl, hb1⟩)
    | (go_at_call 41; refine (C2 _).mono ?_; clear C2; rintro e w2 ⟨bf, nf, rfl, hbf, hnf, hTf, hb2⟩; obtain ⟨p0, p1, p2, pf⟩ := three_of ((hb2.block _ (Nat.lt_of_lt_of_le hs0 hb1.size)).trans ((hb1.block _ hs0).trans z)))
    | (go_at_call 72; refine (add_c bf b nf m _ _ w2 hTf ((hT0.below hb1).below hb2) (by have := hb1.size; omega) (by omega) HM.out).mono ?_; rintro e w3 ⟨rfl, hT3, hg3⟩; change Tally w3 bf (nf + m) (baseM u t) at hT3; have r0 := hg3.cell p0 (by have := hb1.size; simp; omega); have hwr : IntKind.i64.wrap ((baseM u t x : Int) + 1) = (baseM u t x : Int) + 1 := (by rw [IntKind.wrap_i64]; omega); clear p0 p1 p2 pf)
    | (at_lookup; refine wpList_lookup_tally rfl _ _ rfl rfl hT3 x rfl ?_)
    | (at_mapUpdate; refine wpList_update_tally rfl _ _ _ rfl rfl hT3 x rfl (baseM u t x + 1) (by go_num) (by unfold maxLen; omega) (by omega) (by omega) ?_; intro w4 hT4 hg4; go_frame)
    | (go_at_call 71; refine (KB _).mono ?_; clear KB; rintro e w5 ⟨v, rfl, hsv, hb5⟩; obtain ⟨a5, rfl, hcell5⟩ := hsv.uni; have HC5 := Lib.hid hcell5; clear hcell5 hsv)
    | go_in)
  have hb44 := hT4.lt
  have hTk := (hT4.below hb5).congr (fun c => take_zero x u t c)
  have hsz : w.heap.size ≤ w5.heap.size := by
    have := hb1.size; have := hb2.size; have := hg3.size; have := hg4.size; have := hb5.size
    omega
  have hB5 : Below w.heap.size w w5 := by
    have h3 : Below w.heap.size w w2 := (hb0.trans (hb1.mono (by omega))).trans (hb2.mono (by have := hb1.size; omega))
    have h4 : Below w.heap.size w w4 := (h3.grown hg3 h3.size (fun j hj => by cases hj; have := hb1.size; omega)).grown hg4 (by have := h3.size; have := hg3.size; omega) (fun j hj => by cases hj; have := hb1.size; omega)
    exact h4.trans (hb5.mono (by have := h3.size; have := hg3.size; have := hg4.size; omega))
  have hbf5 : w.heap.size ≤ bf := by have := hb1.size; omega
  have hb45 : bf < w5.heap.size := hTk.lt
  have HTL := Lib.hid (fun c k => take_le x u t c k hu hpn)
  clear hT4 hT3 hTf HM HM2 hT0 z hW0 hwr r0 hMx
  go_loopw [23] (fun i wr => ∃ (k n' : Nat), k ≤ (bindsOf t).length ∧ i = .int .i64 k ∧ n' ≤ nf + m + 1 + k ∧ Tally wr bf n' (takeM x u t k) ∧ w5.grownBy wr (some bf)) (fun i _ => (bindsOf t).length - (intOf i).toNat)
  case atStart => exact ⟨0, _, Nat.zero_le _, by simp, Nat.le_refl _, hTk, World.grownBy.refl _ _⟩
  case round =>
    obtain ⟨k, n', hk, rfl, hn', hT, hG⟩ := hrel
    by_cases hlt : k < (bindsOf t).length
    · obtain ⟨c, hc⟩ : ∃ c, (bindsOf t)[k]? = some c := ⟨_, List.getElem?_eq_getElem hlt⟩
      obtain ⟨g, rfl, hg0, hg, hcg⟩ := HC5.out k (bv c) (by simp [hc])
      have hne : g ≠ bf := by omega
      have hc2 := hG.cell hcg (by simp; omega)
      have htl := HTL.out c k
      have hwr : IntKind.i64.wrap ((takeM x u t k c : Int) + 1) = (takeM x u t k c : Int) + 1 := by rw [IntKind.wrap_i64]; omega
      have HCC := Lib.hid hc
      clear hc hcg
      go_wp2_with (first
        | (at_lookup; refine wpList_lookup_tally rfl _ _ rfl rfl hT c rfl ?_)
        | (at_mapUpdate; refine wpList_update_tally rfl _ _ _ rfl rfl hT c rfl (takeM x u t k c + 1) (by go_num) (by unfold maxLen; omega) (by omega) (by omega) ?_; intro w6 hT6 hg6; go_frame)
        | go_in)
      exact ⟨⟨k + 1, n' + 1, by omega, by go_num, by omega, hT6.congr (fun y => take_succ x u t k c HCC.out y), hG.andThen hg6 (fun j hj => Or.inr hj)⟩, by simp [intOf]; omega⟩
    · obtain rfl : k = (bindsOf t).length := by omega
      go_wp2_with fail
      go_ret
      exact ⟨bf, n', rfl, hbf5, hT, hB5.grown hG hsz (fun j hj => by cases hj; exact hbf5)⟩
/-- The first name that is not taken. -/
theorem take_new (x : UInt8) (u t : Tm) (hu : u.good) (ht : (lastK t).good) : (butTo (takeM x u t (bindsOf t).length) 16).head? = newO (sfree u ++ sfree (lastK t) ++ bindsOf t ++ [x]) := by
  have h0 : ∀ (p q : UInt8 → Bool) (l : Text), (∀ c, p c = q c) → (l.filter p).head? = l.find? q := by
    intro p q l h
    induction l with
    | nil => rfl
    | cons c l ih => simp only [List.filter_cons, List.find?_cons, ← h c]; cases p c <;> simp [ih]
  unfold newO butTo
  rw [show letters.take 16 = letters from rfl]
  refine h0 _ _ _ fun c => ?_
  have h1 := mem_free hu c
  have h2 := mem_free ht c
  rw [decide_eq_decide]
  simp only [takeM, List.take_length, List.mem_append, List.mem_singleton, h1, h2]
  by_cases e : c = x
  · simp [e]
  · simp only [e, if_false]
    have h3 : (bindsOf t).count c = 0 ↔ c ∉ bindsOf t := List.count_eq_zero
    constructor
    · intro h
      have := h3.1 (by omega)
      simp [this]; omega
    · intro h
      simp only [not_or, Classical.not_not, or_false] at h
      have := h3.2 h.2
      omega
end Go.Proofs.YtefmmgccdpfnaaaGreatDoor

/- The program's putting: a binder gets another name. -/
namespace Go.Proofs.YtefmmgccdpfnaaaGreatDoor
open Go.RowKit
open Ff
set_option linter.unusedVariables false
attribute [local go_sem] Oper.semAt_some

/-- What putting a term for a name comes to, in terms of no more than so many parts within each other. -/
def IntoC (n : Nat) : Prop := ∀ (x : UInt8) (u t : Tm) (b m : Nat) (w : World), t.depth ≤ n → n ≤ 4000 → t.good → u.good → (parts u).length ≤ 4000 → ((parts t).length ≤ 4000 ∨ sfree u = []) → Tally w b m (cntF u) → m ≤ 4000 →
  Calls Tryz.prog 137 #[putV x u b, enc t] w (SubP (subS n x u t) w)
theorem bound_own_of (w : World) (o : Obj) (l : List Value) (t : TypeId) (hl : l ≠ []) :
    ∃ g, Value.slice (some ⟨w.heap.size + 1, 0, none⟩) l.length l.length = .slice (some ⟨g, 0, none⟩) l.length l.length ∧ w.heap.size ≤ g ∧ g < ((w.alloc o).alloc (.cells l.toArray t)).heap.size ∧ (∀ i v, l[i]? = some v → ((w.alloc o).alloc (.cells l.toArray t)).cell? ⟨g, i, none⟩ = some v) ∧
      (∀ k, ((w.alloc o).alloc (.cells l.toArray t)).frozen? ⟨g, k, none⟩ = false) ∧ Below w.heap.size w ((w.alloc o).alloc (.cells l.toArray t)) := by
  refine ⟨w.heap.size + 1, rfl, by omega, by simp, fun i v hv => ?_, fun k => ?_, below_two w _ _⟩
  · rcases slice_new w o l t hl with ⟨h, _⟩ | ⟨_, g, h1, h2, h3, h4⟩
    · exact absurd h hl
    · injection h1 with h1
      injection h1 with h1
      injection h1 with h1
      rw [h1]
      exact h4 i v hv
  · have h := World.alloc_heap_new (w.alloc o) (.cells l.toArray t)
    rw [World.size_alloc] at h
    simp only [World.frozen?, h]
    simp
/-- The names that a binder binds, in a row of the caller's own. -/
theorem boundBy_own (t : Tm) (hgd : t.good) (hb : bindsOf t ≠ []) (w : World) :
    Calls Tryz.prog 71 #[enc t] w fun e w' => ∃ g, e = .returned (.slice (some ⟨g, 0, none⟩) (bindsOf t).length (bindsOf t).length) ∧ w.heap.size ≤ g ∧ g < w'.heap.size ∧ (∀ i c, (bindsOf t)[i]? = some c → w'.cell? ⟨g, i, none⟩ = some (bv c)) ∧
      (∀ k, w'.frozen? ⟨g, k, none⟩ = false) ∧ Below w.heap.size w w' := by
  have go : ∀ (e : Ending) (w' : World) (o : Obj) (l : Text), l ≠ [] → e = .returned (.slice (some ⟨w.heap.size + 1, 0, none⟩) l.length l.length) → w' = (w.alloc o).alloc (.cells (l.map bv).toArray 5) →
      ∃ g, e = .returned (.slice (some ⟨g, 0, none⟩) l.length l.length) ∧ w.heap.size ≤ g ∧ g < w'.heap.size ∧ (∀ i c, l[i]? = some c → w'.cell? ⟨g, i, none⟩ = some (bv c)) ∧ (∀ k, w'.frozen? ⟨g, k, none⟩ = false) ∧ Below w.heap.size w w' := by
    rintro e w' o l hl rfl rfl
    obtain ⟨g, h1, h2, h3, h4, h5, h6⟩ := bound_own_of w o (l.map bv) 5 (by simpa using hl)
    simp only [List.length_map] at h1
    exact ⟨g, by rw [h1], h2, h3, fun i c hc => h4 i _ (by simp [hc]), h5, h6⟩
  cases t with
  | fn c b => exact (boundBy_fn c b w).mono (by rintro e w' ⟨o, rfl, rfl⟩; exact go _ _ o [c] (by simp) rfl rfl)
  | fix f c b =>
    have hf : f.toNat ≠ 0 := by
      have := hgd.1
      simp only [isNam, Bool.and_eq_true, decide_eq_true_eq] at this
      omega
    exact (boundBy_fix f c b hf w).mono (by rintro e w' ⟨o, rfl, rfl⟩; exact go _ _ o [f, c] (by simp) rfl rfl)
  | bind c x b => exact (boundBy_bind c x b w).mono (by rintro e w' ⟨o, rfl, rfl⟩; exact go _ _ o [c] (by simp) rfl rfl)
  | num _ => exact absurd rfl hb
  | var _ => exact absurd rfl hb
  | app _ _ => exact absurd rfl hb
  | op _ _ _ => exact absurd rfl hb
  | sel _ _ _ => exact absurd rfl hb
/-- A binder with other names and another body. -/
def withNB : Tm → Text → Tm → Tm
  | .fn _ _, ns, b => .fn (ns.headD 0) b
  | .fix _ _ _, ns, b => .fix (ns.headD 0) ((ns.drop 1).headD 0) b
  | .bind _ v _, ns, b => .bind (ns.headD 0) v b
  | t, _, _ => t
/-- What the kids become where the last alone turns. -/
def rsLast (t : Tm) (r : Tm × Bool) : List (Tm × Bool) := t.kids.dropLast.map (fun s => (s, true)) ++ [r]
theorem binder_kids {t : Tm} (h : bindsOf t ≠ []) : t.kids ≠ [] := by cases t <;> simp [bindsOf] at h <;> simp [Tm.kids]
theorem rsLast_len {t : Tm} (h : t.kids ≠ []) (r : Tm × Bool) : (rsLast t r).length = t.kids.length := by
  have := List.length_pos_iff.2 h
  simp [rsLast]; omega
theorem rsLast_re {t : Tm} (h : bindsOf t ≠ []) (ns : Text) (r : Tm × Bool) : reTm t ns ((rsLast t r).map (·.1)) = withNB t ns r.1 := by
  cases t <;> simp [bindsOf] at h <;> simp [rsLast, Tm.kids, reTm, withNB]
theorem rsLast_all (t : Tm) (r : Tm × Bool) : (rsLast t r).all (·.2) = r.2 := by
  unfold rsLast
  rw [List.all_append]
  have : (t.kids.dropLast.map (fun s => (s, true))).all (·.2) = true := by
    rw [List.all_map]
    exact List.all_eq_true.2 fun _ _ => rfl
  rw [this]
  simp
theorem rsLast_at {t : Tm} (h : t.kids ≠ []) (r : Tm × Bool) {k : Nat} {s : Tm} {q : Tm × Bool} (hs : t.kids[k]? = some s) (hq : (rsLast t r)[k]? = some q) : (k + 1 = t.kids.length ∧ s = lastK t ∧ q = r) ∨ (k + 1 ≠ t.kids.length ∧ q = (s, true)) := by
  have hl := List.length_pos_iff.2 h
  have hk := (List.getElem?_eq_some_iff.1 hs).1
  unfold rsLast at hq
  by_cases e : k + 1 = t.kids.length
  · refine .inl ⟨e, ?_, ?_⟩
    · unfold lastK
      rw [List.getLast?_eq_getElem?, show t.kids.length - 1 = k by omega, hs]; rfl
    · rw [List.getElem?_append_right (by simp; omega)] at hq
      simp only [List.length_map, List.length_dropLast, show k - (t.kids.length - 1) = 0 by omega, List.getElem?_cons_zero, Option.some.injEq] at hq
      exact hq.symm
  · refine .inr ⟨e, ?_⟩
    rw [List.getElem?_append_left (by simp; omega)] at hq
    simp only [List.getElem?_map, List.getElem?_dropLast] at hq
    rw [if_pos (by omega), hs] at hq
    simpa using hq.symm
theorem enter_itself (w : World) (v : Value) : (callFunc 69 ((#[] : Array Value).push v)).run Tryz.prog w = .ok (.enter 69 ((#[] : Array Value).push v)) w := by kernel_rfl
theorem enter_into (p : Value) (w : World) (v : Value) : (callFunc 137 (#[p].push v)).run Tryz.prog w = .ok (.enter 137 (#[p].push v)) w := by kernel_rfl
theorem visits_itself (B : Nat) (w0 : World) (s : Tm) : Visits B w0 (.func (.func 69) #[] #[]) s (s, true) :=
  ⟨_, _, rfl, enter_itself, fun w _ => (itself_c s w).mono (by rintro e w' ⟨rfl, rfl⟩; exact ⟨.inl ⟨rfl, rfl⟩, Below.refl _ _⟩)⟩
theorem visits_into {n : Nat} (ih : IntoC n) (B : Nat) (w0 : World) (x : UInt8) (u s : Tm) (b m : Nat) (hs : s.depth ≤ n) (hn : n ≤ 4000) (hg : s.good) (hu : u.good) (hpu : (parts u).length ≤ 4000) (hp : (parts s).length ≤ 4000 ∨ sfree u = []) (hT : Tally w0 b m (cntF u)) (hm : m ≤ 4000) (hbB : b < B) :
    Visits B w0 (.func (.func 137) #[putV x u b] #[]) s (subS n x u s) :=
  ⟨_, _, rfl, enter_into _, fun w hB => ih x u s b m w hs hn hg hu hpu hp (hT.keepB hbB hB) hm⟩
theorem lastK_mem {t : Tm} (hk : t.kids ≠ []) : lastK t ∈ t.kids := by
  unfold lastK
  rcases h : t.kids.getLast? with _ | y
  · rw [List.getLast?_eq_none_iff] at h; exact absurd h hk
  · exact List.mem_of_getLast? h
set_option maxRecDepth 100000 in
set_option maxHeartbeats 4000000 in
theorem renamed_c (n : Nat) (ih : IntoC n) (t : Tm) (k : Nat) (c d : UInt8) (w : World) (hg : t.good) (hb : bindsOf t ≠ []) (hck : (bindsOf t)[k]? = some c) (hfi : c ∉ (bindsOf t).take k) (hd : isNam d = true) (hdep : (lastK t).depth ≤ n) (hn : n ≤ 4000) (hp : (parts t).length ≤ 4000) :
    Calls Tryz.prog 146 #[enc t, bv c, bv d] w (SubP (withNB t ((bindsOf t).set k d) (subS n c (.var d) (lastK t)).1, (subS n c (.var d) (lastK t)).2) w) := by
  have hkids := binder_kids hb
  have hlk := lastK_mem hkids
  have hpl := parts_kid_le hlk
  have hgl := Tm.kid_good hg hlk
  have hlen := binds_len t
  have hkl := (List.getElem?_eq_some_iff.1 hck).1
  have KB := fun w' => boundBy_own t hg hb w'
  have KI := fun a w' h => indexB_c (bindsOf t) c a (bindsOf t).length w' (by omega) h
  rw [findI_at hck hfi] at KI
  have KN := fun w' => newPutting_c c (.var d) w' hd (by simp [parts]) (by simp [Tm.depth])
  have hev : enc (.var d) = .iface 105 (.agg #[bv d]) := rfl
  rw [hev] at KN
  have KV := fun (b m : Nat) (w' : World) (hT : Tally w' b m (cntF (.var d))) (hm : m ≤ 4000) => visitKids_c t (.func (.func 69) #[] #[]) (.func (.func 137) #[putV c (.var d) b] #[]) (rsLast t (subS n c (.var d) (lastK t))) w'.heap.size w' w' (rsLast_len hkids _) (Below.refl _ _) (Nat.le_refl _) (by
    intro j s r hs hr
    rcases rsLast_at hkids _ hs hr with ⟨h1, rfl, rfl⟩ | ⟨h1, rfl⟩
    · rw [if_pos h1]
      exact visits_into ih _ _ c (.var d) (lastK t) b m hdep hn hgl hd (by simp [parts]) (.inl (by omega)) hT hm hT.lt
    · rw [if_neg h1]
      exact visits_itself _ _ _)
  have KR := fun an ak cn ck w' h1 h2 => remade_c t hg ((bindsOf t).set k d) ((rsLast t (subS n c (.var d) (lastK t))).map (·.1)) (by simp) (by rw [List.length_map, rsLast_len hkids]) an ak cn ck w' h1 h2
  rw [rsLast_re hb] at KR
  rw [rsLast_all, rsLast_len hkids] at KV
  simp only [List.length_map, List.length_set, rsLast_len hkids] at KR
  generalize subS n c (.var d) (lastK t) = r at *
  rw [enc_ty t] at *
  have HCK := Lib.hid hck
  unfold putV at KN KV
  rw [hev] at KV
  clear hck hfi hev
  go_enter Tryz.func146, Tryz.ntmps146
  go_wp2_with (first
    | (go_at_call 71; refine (KB _).mono ?_; clear KB; rintro e w1 ⟨g, rfl, hg1, hg2, hcell, hfz, hb1⟩; have ck := hcell k c HCK.out; have fk := hfz k; have HC := Lib.hid hcell; clear hcell hfz)
    | (go_at_call 144; refine (KI _ _ (fun i x hx => ?_)).mono ?_; (obtain ⟨c', hc', rfl⟩ : ∃ c', (bindsOf t)[i]? = some c' ∧ bv c' = x := (by simpa using hx)); exact ⟨g, rfl, hg2, HC.out i c' hc'⟩; clear KI; rintro e w2 ⟨rfl, rfl⟩)
    | (go_at_call 136; refine (KN _).mono ?_; clear KN; rintro e w3 ⟨bn, mn, rfl, hbn, hmn, hTn, hb3⟩))
  have hmn4 : mn ≤ 4000 := by simp [parts] at hmn; omega
  refine (KV bn mn w3 hTn hmn4).mono ?_
  clear KV
  have hB3 : Below w.heap.size w w3 := (hb1.setCell (p := ⟨g, k, none⟩) hg1 _).trans (hb3.mono (by simpa using hb1.size))
  have hrow : RowAt w3 (some ⟨g, 0, none⟩) (((bindsOf t).set k d).map bv) := by
    intro i x hx
    obtain ⟨c', hc', rfl⟩ : ∃ c', ((bindsOf t).set k d)[i]? = some c' ∧ bv c' = x := by rw [List.getElem?_map] at hx; simpa using hx
    refine ⟨g, rfl, by have := hb3.size; simp at this; omega, (hb3.cell (p := ⟨g, i, none⟩) (by simpa using hg2)).trans ?_⟩
    by_cases e : k = i
    · subst e
      rw [List.getElem?_set_self hkl] at hc'
      injection hc' with hc'
      subst hc'
      exact World.cell?_setCell_same _ _ _ ck
    · rw [List.getElem?_set_ne e] at hc'
      rw [World.cell?_setCell_other _ _ _ _ (by first | (simp; done) | (simp; omega))]
      exact HC.out i c' hc'
  rintro e w4 ⟨hb4, ⟨hok, a4, cap4, rfl, hrow4⟩ | ⟨hok, rfl⟩⟩
  · have hB4 := hB3.trans (hb4.mono hB3.size)
    have KR2 := KR _ a4 (bindsOf t).length cap4 w4 (hrow.keep hb4) (by rw [List.map_map]; exact hrow4)
    clear KR hrow hrow4 hTn ck fk HC
    go_wp2_with fail
    refine KR2.mono ?_
    rintro e w5 ⟨rfl, hb5⟩
    obtain ⟨n5, v5, e5⟩ := enc_gen (withNB t ((bindsOf t).set k d) r.1)
    have E5 := Lib.hid e5
    rw [e5]
    clear e5 KR2
    go_wp2_with fail
    go_ret
    exact ⟨.inl ⟨hok, by rw [E5.out]; rfl⟩, hB4.trans (hb5.mono hB4.size)⟩
  · exact ⟨rfl, .inr ⟨hok, rfl⟩, hB3.trans (hb4.mono hB3.size)⟩
end Go.Proofs.YtefmmgccdpfnaaaGreatDoor
