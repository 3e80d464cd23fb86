import Derived.Test.YtojbffiffcfblaaGreatPuA
/- The program's remade: a part with other names and kids. Written by genPu.py. -/
namespace Go.Proofs.YtojbffiffcfblaaGreat
open Go.RowKit
open Ff
set_option linter.unusedVariables false
attribute [local go_sem] Oper.semAt_some

def isApp : Tm → Bool
  | .app _ _ => true | _ => false
def isOp : Tm → Bool
  | .op _ _ _ => true | _ => false
def isSel : Tm → Bool
  | .sel _ _ _ => true | _ => false
def appV : Tm → Value
  | .app f a => pl (.app f a) | _ => .agg #[.nilIface, .nilIface]
def opV : Tm → Value
  | .op o l r => pl (.op o l r) | _ => .agg #[.int .u8 0, .nilIface, .nilIface]
def selV : Tm → Value
  | .sel x y z => pl (.sel x y z) | _ => .agg #[.nilIface, .nilIface, .nilIface]
theorem ta_app (t : Tm) (w : World) : (Instr.typeAssert (.iface (ty t) (pl t)) 39 140 true).run Tryz.prog w = .ok (.tuple #[appV t, .bool (isApp t)]) w := by
  cases t <;> kernel_rfl
theorem ta_op (t : Tm) (w : World) : (Instr.typeAssert (.iface (ty t) (pl t)) 39 142 true).run Tryz.prog w = .ok (.tuple #[opV t, .bool (isOp t)]) w := by
  cases t <;> kernel_rfl
theorem ta_sel (t : Tm) (w : World) : (Instr.typeAssert (.iface (ty t) (pl t)) 39 144 true).run Tryz.prog w = .ok (.tuple #[selV t, .bool (isSel t)]) w := by
  cases t <;> kernel_rfl
set_option maxRecDepth 100000 in
set_option maxHeartbeats 4000000 in
theorem remade_fn (c : UInt8) (b : Tm) (d0 : UInt8) (s0 : Tm) (an ak : Option Addr) (cn ck : Nat) (w : World) (hn : RowAt w an [bv d0]) (hk : RowAt w ak [enc s0]) :
    Calls Tryz.prog 82 #[enc (.fn c b), .slice an 1 cn, .slice ak 1 ck] w fun e w' => e = .returned (enc (.fn d0 s0)) ∧ Below w.heap.size w w' := by
  have a1 := ta_fun (.fn c b)
  have a2 := ta_app (.fn c b)
  have a3 := ta_let (.fn c b)
  have a4 := ta_op (.fn c b)
  have a5 := ta_sel (.fn c b)
  obtain ⟨n0, v0, q0⟩ := enc_gen b
  obtain ⟨m0, u0, p0⟩ := enc_gen s0
  obtain ⟨g, rfl, hg, hn0⟩ := hn 0 (bv d0) rfl
  obtain ⟨h, rfl, hh, hk0⟩ := hk 0 (enc s0) rfl
  clear hn hk
  simp only [ty, pl, funV, isFun, appV, isApp, letV, isLet, opV, isOp, selV, isSel, q0] at a1 a2 a3 a4 a5
  simp only [enc, q0, p0]
  rw [p0] at hk0
  clear q0 p0
  go_enter Tryz.func82, Tryz.ntmps82
  go_wp2_with fail
  go_region
  all_goals go_wp2_with fail
  all_goals go_ret
  all_goals exact ⟨rfl, by first | exact (Below.refl _ w).alloc (Nat.le_refl _) _ | exact ((Below.refl _ w).alloc (Nat.le_refl _) _).drew | exact ((Below.refl _ w).drew.alloc (Nat.le_refl _) _)⟩
set_option maxRecDepth 100000 in
set_option maxHeartbeats 4000000 in
theorem remade_fix (f c : UInt8) (b : Tm) (d0 d1 : UInt8) (s0 : Tm) (an ak : Option Addr) (cn ck : Nat) (hf : isNam f = true) (w : World) (hn : RowAt w an [bv d0, bv d1]) (hk : RowAt w ak [enc s0]) :
    Calls Tryz.prog 82 #[enc (.fix f c b), .slice an 2 cn, .slice ak 1 ck] w fun e w' => e = .returned (enc (.fix d0 d1 s0)) ∧ Below w.heap.size w w' := by
  have a1 := ta_fun (.fix f c b)
  have a2 := ta_app (.fix f c b)
  have a3 := ta_let (.fix f c b)
  have a4 := ta_op (.fix f c b)
  have a5 := ta_sel (.fix f c b)
  obtain ⟨n0, v0, q0⟩ := enc_gen b
  obtain ⟨m0, u0, p0⟩ := enc_gen s0
  obtain ⟨g, rfl, hg, hn0⟩ := hn 0 (bv d0) rfl
  obtain ⟨g', e1, _, hn1⟩ := hn 1 (bv d1) rfl
  obtain rfl : g = g' := by simpa using e1
  obtain ⟨h, rfl, hh, hk0⟩ := hk 0 (enc s0) rfl
  clear hn hk
  simp only [ty, pl, funV, isFun, appV, isApp, letV, isLet, opV, isOp, selV, isSel, q0] at a1 a2 a3 a4 a5
  simp only [enc, q0, p0]
  rw [p0] at hk0
  have b1 : ((f.toNat : Int) == 0) = false := by
    simp only [isNam, Bool.and_eq_true, decide_eq_true_eq] at hf
    simp; omega
  clear hf
  clear q0 p0
  go_enter Tryz.func82, Tryz.ntmps82
  go_wp2_with fail
  go_region
  all_goals go_wp2_with fail
  all_goals go_ret
  all_goals exact ⟨rfl, by first | exact (Below.refl _ w).alloc (Nat.le_refl _) _ | exact ((Below.refl _ w).alloc (Nat.le_refl _) _).drew | exact ((Below.refl _ w).drew.alloc (Nat.le_refl _) _)⟩
set_option maxRecDepth 100000 in
set_option maxHeartbeats 4000000 in
theorem remade_app (f a : Tm) (d9 : UInt8) (s0 s1 : Tm) (an ak : Option Addr) (cn ck : Nat) (w : World) (hn : RowAt w an []) (hk : RowAt w ak [enc s0, enc s1]) :
    Calls Tryz.prog 82 #[enc (.app f a), .slice an 0 cn, .slice ak 2 ck] w fun e w' => e = .returned (enc (.app s0 s1)) ∧ Below w.heap.size w w' := by
  have a1 := ta_fun (.app f a)
  have a2 := ta_app (.app f a)
  have a3 := ta_let (.app f a)
  have a4 := ta_op (.app f a)
  have a5 := ta_sel (.app f a)
  obtain ⟨n0, v0, q0⟩ := enc_gen f
  obtain ⟨n1, v1, q1⟩ := enc_gen a
  obtain ⟨m0, u0, p0⟩ := enc_gen s0
  obtain ⟨m1, u1, p1⟩ := enc_gen s1
  obtain ⟨h, rfl, hh, hk0⟩ := hk 0 (enc s0) rfl
  obtain ⟨h', e1, _, hk1⟩ := hk 1 (enc s1) rfl
  obtain rfl : h = h' := by simpa using e1
  clear hn hk
  simp only [ty, pl, funV, isFun, appV, isApp, letV, isLet, opV, isOp, selV, isSel, q0, q1] at a1 a2 a3 a4 a5
  simp only [enc, q0, q1, p0, p1]
  rw [p0] at hk0
  rw [p1] at hk1
  clear q0 q1 p0 p1
  go_enter Tryz.func82, Tryz.ntmps82
  go_wp2_with fail
  go_region
  all_goals go_wp2_with fail
  all_goals go_ret
  all_goals exact ⟨rfl, by first | exact (Below.refl _ w).alloc (Nat.le_refl _) _ | exact ((Below.refl _ w).alloc (Nat.le_refl _) _).drew | exact ((Below.refl _ w).drew.alloc (Nat.le_refl _) _)⟩
set_option maxRecDepth 100000 in
set_option maxHeartbeats 4000000 in
theorem remade_bind (c : UInt8) (v b : Tm) (d0 : UInt8) (s0 s1 : Tm) (an ak : Option Addr) (cn ck : Nat) (w : World) (hn : RowAt w an [bv d0]) (hk : RowAt w ak [enc s0, enc s1]) :
    Calls Tryz.prog 82 #[enc (.bind c v b), .slice an 1 cn, .slice ak 2 ck] w fun e w' => e = .returned (enc (.bind d0 s0 s1)) ∧ Below w.heap.size w w' := by
  have a1 := ta_fun (.bind c v b)
  have a2 := ta_app (.bind c v b)
  have a3 := ta_let (.bind c v b)
  have a4 := ta_op (.bind c v b)
  have a5 := ta_sel (.bind c v b)
  obtain ⟨n0, v0, q0⟩ := enc_gen v
  obtain ⟨n1, v1, q1⟩ := enc_gen b
  obtain ⟨m0, u0, p0⟩ := enc_gen s0
  obtain ⟨m1, u1, p1⟩ := enc_gen s1
  obtain ⟨g, rfl, hg, hn0⟩ := hn 0 (bv d0) rfl
  obtain ⟨h, rfl, hh, hk0⟩ := hk 0 (enc s0) rfl
  obtain ⟨h', e1, _, hk1⟩ := hk 1 (enc s1) rfl
  obtain rfl : h = h' := by simpa using e1
  clear hn hk
  simp only [ty, pl, funV, isFun, appV, isApp, letV, isLet, opV, isOp, selV, isSel, q0, q1] at a1 a2 a3 a4 a5
  simp only [enc, q0, q1, p0, p1]
  rw [p0] at hk0
  rw [p1] at hk1
  clear q0 q1 p0 p1
  go_enter Tryz.func82, Tryz.ntmps82
  go_wp2_with fail
  go_region
  all_goals go_wp2_with fail
  all_goals go_ret
  all_goals exact ⟨rfl, by first | exact (Below.refl _ w).alloc (Nat.le_refl _) _ | exact ((Below.refl _ w).alloc (Nat.le_refl _) _).drew | exact ((Below.refl _ w).drew.alloc (Nat.le_refl _) _)⟩
set_option maxRecDepth 100000 in
set_option maxHeartbeats 4000000 in
theorem remade_op (o : UInt8) (l r : Tm) (d9 : UInt8) (s0 s1 : Tm) (an ak : Option Addr) (cn ck : Nat) (w : World) (hn : RowAt w an []) (hk : RowAt w ak [enc s0, enc s1]) :
    Calls Tryz.prog 82 #[enc (.op o l r), .slice an 0 cn, .slice ak 2 ck] w fun e w' => e = .returned (enc (.op o s0 s1)) ∧ Below w.heap.size w w' := by
  have a1 := ta_fun (.op o l r)
  have a2 := ta_app (.op o l r)
  have a3 := ta_let (.op o l r)
  have a4 := ta_op (.op o l r)
  have a5 := ta_sel (.op o l r)
  obtain ⟨n0, v0, q0⟩ := enc_gen l
  obtain ⟨n1, v1, q1⟩ := enc_gen r
  obtain ⟨m0, u0, p0⟩ := enc_gen s0
  obtain ⟨m1, u1, p1⟩ := enc_gen s1
  obtain ⟨h, rfl, hh, hk0⟩ := hk 0 (enc s0) rfl
  obtain ⟨h', e1, _, hk1⟩ := hk 1 (enc s1) rfl
  obtain rfl : h = h' := by simpa using e1
  clear hn hk
  simp only [ty, pl, funV, isFun, appV, isApp, letV, isLet, opV, isOp, selV, isSel, q0, q1] at a1 a2 a3 a4 a5
  simp only [enc, q0, q1, p0, p1]
  rw [p0] at hk0
  rw [p1] at hk1
  clear q0 q1 p0 p1
  go_enter Tryz.func82, Tryz.ntmps82
  go_wp2_with fail
  go_region
  all_goals go_wp2_with fail
  all_goals go_ret
  all_goals exact ⟨rfl, by first | exact (Below.refl _ w).alloc (Nat.le_refl _) _ | exact ((Below.refl _ w).alloc (Nat.le_refl _) _).drew | exact ((Below.refl _ w).drew.alloc (Nat.le_refl _) _)⟩
set_option maxRecDepth 100000 in
set_option maxHeartbeats 4000000 in
theorem remade_sel (x y z : Tm) (d9 : UInt8) (s0 s1 s2 : Tm) (an ak : Option Addr) (cn ck : Nat) (w : World) (hn : RowAt w an []) (hk : RowAt w ak [enc s0, enc s1, enc s2]) :
    Calls Tryz.prog 82 #[enc (.sel x y z), .slice an 0 cn, .slice ak 3 ck] w fun e w' => e = .returned (enc (.sel s0 s1 s2)) ∧ Below w.heap.size w w' := by
  have a1 := ta_fun (.sel x y z)
  have a2 := ta_app (.sel x y z)
  have a3 := ta_let (.sel x y z)
  have a4 := ta_op (.sel x y z)
  have a5 := ta_sel (.sel x y z)
  obtain ⟨n0, v0, q0⟩ := enc_gen x
  obtain ⟨n1, v1, q1⟩ := enc_gen y
  obtain ⟨n2, v2, q2⟩ := enc_gen z
  obtain ⟨m0, u0, p0⟩ := enc_gen s0
  obtain ⟨m1, u1, p1⟩ := enc_gen s1
  obtain ⟨m2, u2, p2⟩ := enc_gen s2
  obtain ⟨h, rfl, hh, hk0⟩ := hk 0 (enc s0) rfl
  obtain ⟨h', e1, _, hk1⟩ := hk 1 (enc s1) rfl
  obtain rfl : h = h' := by simpa using e1
  obtain ⟨h', e2, _, hk2⟩ := hk 2 (enc s2) rfl
  obtain rfl : h = h' := by simpa using e2
  clear hn hk
  simp only [ty, pl, funV, isFun, appV, isApp, letV, isLet, opV, isOp, selV, isSel, q0, q1, q2] at a1 a2 a3 a4 a5
  simp only [enc, q0, q1, q2, p0, p1, p2]
  rw [p0] at hk0
  rw [p1] at hk1
  rw [p2] at hk2
  clear q0 q1 q2 p0 p1 p2
  go_enter Tryz.func82, Tryz.ntmps82
  go_wp2_with fail
  go_region
  all_goals go_wp2_with fail
  all_goals go_ret
  all_goals exact ⟨rfl, by first | exact (Below.refl _ w).alloc (Nat.le_refl _) _ | exact ((Below.refl _ w).alloc (Nat.le_refl _) _).drew | exact ((Below.refl _ w).drew.alloc (Nat.le_refl _) _)⟩
set_option maxHeartbeats 2000000 in
theorem remade_leaf (t : Tm) (h : t.kids = []) (a b : Value) (hb : ∃ x l c, b = .slice x l c) (ha : ∃ x l c, a = .slice x l c) (w : World) :
    Calls Tryz.prog 82 #[enc t, a, b] w fun e w' => e = .returned (enc t) ∧ Below w.heap.size w w' := by
  obtain ⟨_, _, _, rfl⟩ := ha
  obtain ⟨_, _, _, rfl⟩ := hb
  have a1 := ta_fun t
  have a2 := ta_app t
  have a3 := ta_let t
  have a4 := ta_op t
  have a5 := ta_sel t
  have h1 : isFun t = false ∧ isApp t = false ∧ isLet t = false ∧ isOp t = false ∧ isSel t = false ∧ funV t = .agg #[.int .u8 0, .int .u8 0, .nilIface] ∧ appV t = .agg #[.nilIface, .nilIface] ∧ letV t = .agg #[.int .u8 0, .nilIface, .nilIface] ∧ opV t = .agg #[.int .u8 0, .nilIface, .nilIface] ∧ selV t = .agg #[.nilIface, .nilIface, .nilIface] := by
    cases t <;> simp [Tm.kids] at h <;> exact ⟨rfl, rfl, rfl, rfl, rfl, rfl, rfl, rfl, rfl, rfl⟩
  obtain ⟨h1, h2, h3, h4, h5, e1, e2, e3, e4, e5⟩ := h1
  rw [h1, e1] at a1
  rw [h2, e2] at a2
  rw [h3, e3] at a3
  rw [h4, e4] at a4
  rw [h5, e5] at a5
  rw [enc_ty t]
  clear h h1 h2 h3 h4 h5 e1 e2 e3 e4 e5
  go_enter Tryz.func82, Tryz.ntmps82
  go_wp2_with fail
  go_ret
  exact ⟨rfl, Below.refl _ w⟩
/-- What a part becomes that gets as many names and kids. -/
theorem remade_c (t : Tm) (hg : t.good) (ns : Text) (ks : List Tm) (hn : ns.length = (bindsOf t).length) (hk : ks.length = t.kids.length) (an ak : Option Addr) (cn ck : Nat) (w : World) (h1 : RowAt w an (ns.map bv)) (h2 : RowAt w ak (ks.map enc)) :
    Calls Tryz.prog 82 #[enc t, .slice an ns.length cn, .slice ak ks.length ck] w fun e w' => e = .returned (enc (reTm t ns ks)) ∧ Below w.heap.size w w' := by
  cases t with
  | num n => exact remade_leaf (.num n) rfl _ _ ⟨_, _, _, rfl⟩ ⟨_, _, _, rfl⟩ w
  | var c => exact remade_leaf (.var c) rfl _ _ ⟨_, _, _, rfl⟩ ⟨_, _, _, rfl⟩ w
  | fn c b =>
    match ns, ks, hn, hk with
    | [d0], [s0], _, _ => exact remade_fn c b d0 s0 an ak cn ck w h1 h2
  | fix f c b =>
    match ns, ks, hn, hk with
    | [d0, d1], [s0], _, _ => exact remade_fix f c b d0 d1 s0 an ak cn ck hg.1 w h1 h2
  | app f a =>
    match ns, ks, hn, hk with
    | [], [s0, s1], _, _ => exact remade_app f a 0 s0 s1 an ak cn ck w h1 h2
  | bind c v b =>
    match ns, ks, hn, hk with
    | [d0], [s0, s1], _, _ => exact remade_bind c v b d0 s0 s1 an ak cn ck w h1 h2
  | op o l r =>
    match ns, ks, hn, hk with
    | [], [s0, s1], _, _ => exact remade_op o l r 0 s0 s1 an ak cn ck w h1 h2
  | sel x y z =>
    match ns, ks, hn, hk with
    | [], [s0, s1, s2], _, _ => exact remade_sel x y z 0 s0 s1 s2 an ak cn ck w h1 h2
end Go.Proofs.YtojbffiffcfblaaGreat
