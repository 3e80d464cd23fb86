import Derived.Test.YtefmmgccdpfnaaaGreatDoorStP
import Derived.Test.YtefmmgccdpfnaaaGreatDoorMPv
import Derived.Test.YtefmmgccdpfnaaaGreatDoorCal
import Derived.Test.YtefmmgccdpfnaaaGreatDoorStN
import Derived.Test.YtefmmgccdpfnaaaGreatDoorMPe
import Derived.Test.YtefmmgccdpfnaaaGreatDoorMPt
/- The program's rules of putting: what each makes of a part. Written by genStQ.py. -/
namespace Go.Proofs.YtefmmgccdpfnaaaGreatDoor
open Go.RowKit
open Ff
set_option linter.unusedVariables false
attribute [local go_sem] Oper.semAt_some

/-- A rule does not fit. -/
def RuleNo (w : World) (e : Ending) (w' : World) : Prop := ∃ X, (X = .nilIface ∨ ∃ n v, X = .iface n v) ∧ e = .returned (.tuple #[X, .bool false]) ∧ Below w.heap.size w w'
/-- A rule fits, and makes something. -/
def RuleYes (r : Tm) (w : World) (e : Ending) (w' : World) : Prop := e = .returned (.tuple #[enc r, .bool true]) ∧ Below w.heap.size w w'
/-- Nothing stands free. -/
abbrev Closed (t : Tm) : Prop := ∀ x, cntF t x = 0
/-- A closed term is put. -/
theorem put_yes (x : UInt8) (u t : Tm) (w : World) (hn : t.depth ≤ 4000) (hg : t.good) (hu : u.good) (hpu : (parts u).length ≤ 4000) (hdu : u.depth ≤ 4000) (hc : Closed u) :
    Calls Tryz.prog 123 #[enc t, bv x, enc u] w fun e w' => e = .returned (.tuple #[enc (subS t.depth x u t).1, .bool true]) ∧ Below w.heap.size w w' := by
  have hz := (free_nil hu).2 hc
  refine (put_c x u t w hn hg hu hpu hdu (.inr hz)).mono fun e w' h => ?_
  obtain ⟨⟨_, h1⟩ | ⟨h1, _⟩, h2⟩ := h
  · exact ⟨h1, h2⟩
  · rw [subS_closed _ _ _ _ hz] at h1; cases h1
theorem cells3 {w : World} {b : Nat} {z0 z1 z2 : Value} {t : TypeId} (h : w.heap[b]? = some (.cells #[z0, z1, z2] t (0, 0))) : w.cell? ⟨b, 0, none⟩ = some z0 ∧ w.cell? ⟨b, 1, none⟩ = some z1 ∧ w.cell? ⟨b, 2, none⟩ = some z2 := by
  refine ⟨?_, ?_, ?_⟩ <;> simp [World.cell?, h]

theorem no_num (t : Tm) (h : isNum t = false) (w : World) : (Instr.typeAssert (.iface (ty t) (pl t)) 44 111 true).run Tryz.prog w = .ok (.tuple #[.agg #[.int .i64 0], .bool false]) w := by
  have a := ta_num t w
  rw [h] at a
  have e : numV t = .agg #[.int .i64 0] := by cases t <;> first | rfl | cases h
  rw [e] at a
  exact a

theorem no_fun (t : Tm) (h : isFun t = false) (w : World) : (Instr.typeAssert (.iface (ty t) (pl t)) 44 134 true).run Tryz.prog w = .ok (.tuple #[.agg #[.int .u8 0, .int .u8 0, .nilIface], .bool false]) w := by
  have a := ta_fun t w
  rw [h] at a
  have e : funV t = .agg #[.int .u8 0, .int .u8 0, .nilIface] := by cases t <;> first | rfl | cases h
  rw [e] at a
  exact a

theorem no_app (t : Tm) (h : isApp t = false) (w : World) : (Instr.typeAssert (.iface (ty t) (pl t)) 44 136 true).run Tryz.prog w = .ok (.tuple #[.agg #[.nilIface, .nilIface], .bool false]) w := by
  have a := ta_app t w
  rw [h] at a
  have e : appV t = .agg #[.nilIface, .nilIface] := by cases t <;> first | rfl | cases h
  rw [e] at a
  exact a

theorem no_let (t : Tm) (h : isLet t = false) (w : World) : (Instr.typeAssert (.iface (ty t) (pl t)) 44 140 true).run Tryz.prog w = .ok (.tuple #[.agg #[.int .u8 0, .nilIface, .nilIface], .bool false]) w := by
  have a := ta_let t w
  rw [h] at a
  have e : letV t = .agg #[.int .u8 0, .nilIface, .nilIface] := by cases t <;> first | rfl | cases h
  rw [e] at a
  exact a

theorem no_op (t : Tm) (h : isOp t = false) (w : World) : (Instr.typeAssert (.iface (ty t) (pl t)) 44 138 true).run Tryz.prog w = .ok (.tuple #[.agg #[.int .u8 0, .nilIface, .nilIface], .bool false]) w := by
  have a := ta_op t w
  rw [h] at a
  have e : opV t = .agg #[.int .u8 0, .nilIface, .nilIface] := by cases t <;> first | rfl | cases h
  rw [e] at a
  exact a

theorem no_sel (t : Tm) (h : isSel t = false) (w : World) : (Instr.typeAssert (.iface (ty t) (pl t)) 44 142 true).run Tryz.prog w = .ok (.tuple #[.agg #[.nilIface, .nilIface, .nilIface], .bool false]) w := by
  have a := ta_sel t w
  rw [h] at a
  have e : selV t = .agg #[.nilIface, .nilIface, .nilIface] := by cases t <;> first | rfl | cases h
  rw [e] at a
  exact a

set_option maxRecDepth 100000 in
set_option maxHeartbeats 2000000 in
theorem putLet_no (t : Tm) (w : World) (h : isLet t = false) :
    Calls Tryz.prog 107 #[enc t] w (RuleNo w) := by
  have a1 := no_let t h
  rw [enc_ty t]
  go_enter Tryz.func107, Tryz.ntmps107
  go_wp2_with fail
  go_ret2
  exact ⟨_, .inl rfl, rfl, (Below.refl _ w).alloc (Nat.le_refl _) _⟩

set_option maxRecDepth 100000 in
set_option maxHeartbeats 2000000 in
theorem putLet_yes (c : UInt8) (v b : Tm) (w : World) (hb : b.depth ≤ 4000) (gb : b.good) (gv : v.good) (pv : (parts v).length ≤ 4000) (dv : v.depth ≤ 4000) (cv : Closed v) :
    Calls Tryz.prog 107 #[enc (.bind c v b)] w (RuleYes (subS b.depth c v b).1 w) := by
  have a1 := ta_let (.bind c v b)
  have KP := fun W => put_yes c v b W hb gb gv pv dv cv
  obtain ⟨n0, v0, q0⟩ := enc_gen v
  obtain ⟨n1, v1, q1⟩ := enc_gen b
  obtain ⟨n2, v2, q2⟩ := enc_gen (subS b.depth c v b).1
  simp only [ty, pl, letV, isLet, q0, q1] at a1
  unfold RuleYes
  rw [q2]
  simp only [q0, q1, q2] at KP
  simp only [enc, q0, q1]
  clear q0 q1 q2 cv
  go_enter Tryz.func107, Tryz.ntmps107
  go_wp2_with (go_at_call 123; refine (KP _).mono ?_; clear KP; rintro e w2 ⟨rfl, hb2⟩)
  go_ret2
  exact ⟨rfl, ((Below.refl _ w).alloc (Nat.le_refl _) _).trans (hb2.mono (by simp))⟩

set_option maxRecDepth 100000 in
set_option maxHeartbeats 2000000 in
theorem calledIn_no (t : Tm) (w : World) (h : isApp t = false) :
    Calls Tryz.prog 124 #[enc t] w fun e w' => e = .returned (.tuple #[.agg #[.int .u8 0, .int .u8 0, .nilIface], .nilIface, .bool false]) ∧ Below w.heap.size w w' := by
  have a1 := no_app t h
  rw [enc_ty t]
  go_enter Tryz.func124, Tryz.ntmps124
  go_wp2_with fail
  refine bodyPost_ret (v := .tuple #[.agg #[.int .u8 0, .int .u8 0, .nilIface], .nilIface, .bool false]) (by simp [results, Tryz.results124, go_sem]) rfl ?_
  exact ⟨rfl, by first | exact below_two w _ _ | exact ((below_two w _ _).setCell (p := ⟨w.heap.size, 0, none⟩) (Nat.le_refl _) _)⟩

set_option maxRecDepth 100000 in
set_option maxHeartbeats 2000000 in
theorem calledIn_nofun (f a : Tm) (w : World) (h : isFun f = false) :
    Calls Tryz.prog 124 #[enc (.app f a)] w fun e w' => e = .returned (.tuple #[.agg #[.int .u8 0, .int .u8 0, .nilIface], enc a, .bool false]) ∧ Below w.heap.size w w' := by
  have a1 := ta_app (.app f a)
  have a2 := no_fun f h
  obtain ⟨n0, v0, q0⟩ := enc_gen f
  obtain ⟨n1, v1, q1⟩ := enc_gen a
  rw [← enc_ty f] at a2
  simp only [ty, pl, appV, isApp, q0, q1] at a1
  rw [q1]
  simp only [q0] at a2
  simp only [enc, q0, q1]
  clear q0 q1
  go_enter Tryz.func124, Tryz.ntmps124
  go_wp2_with fail
  have z0 := alloc_here w (.cells #[.int .u8 0, .int .u8 0, .nilIface] 134)
  go_region
  all_goals go_wp2_with fail
  all_goals refine bodyPost_ret (v := .tuple #[.agg #[.int .u8 0, .int .u8 0, .nilIface], .iface n1 v1, .bool false]) (by simp [results, Tryz.results124, go_sem]) rfl ?_
  all_goals exact ⟨rfl, by first | exact below_three w _ _ _ | exact (below_three w _ _ _).drew⟩

set_option maxRecDepth 100000 in
set_option maxHeartbeats 2000000 in
theorem calledIn_fn (c : UInt8) (b a : Tm) (w : World) :
    Calls Tryz.prog 124 #[enc (.app (.fn c b) a)] w fun e w' => e = .returned (.tuple #[.agg #[.int .u8 0, bv c, enc b], enc a, .bool true]) ∧ Below w.heap.size w w' := by
  have a1 := ta_app (.app (.fn c b) a)
  have a2 := ta_fun (.fn c b)
  obtain ⟨n0, v0, q0⟩ := enc_gen b
  obtain ⟨n1, v1, q1⟩ := enc_gen a
  simp only [ty, pl, appV, isApp, funV, isFun, enc, q0, q1] at a1 a2
  rw [q1, q0]
  simp only [enc, q0, q1]
  clear q0 q1
  go_enter Tryz.func124, Tryz.ntmps124
  go_wp2_with fail
  have z0 := alloc_here w (.cells #[.int .u8 0, .int .u8 0, .nilIface] 134)
  go_region
  all_goals go_wp2_with fail
  all_goals refine bodyPost_ret (v := .tuple #[.agg #[.int .u8 0, bv c, .iface n0 v0], .iface n1 v1, .bool true]) (by simp [results, Tryz.results124, go_sem]) rfl ?_
  all_goals exact ⟨rfl, by first | exact below_three w _ _ _ | exact (below_three w _ _ _).drew⟩

set_option maxRecDepth 100000 in
set_option maxHeartbeats 2000000 in
theorem calledIn_fix (f c : UInt8) (b a : Tm) (w : World) :
    Calls Tryz.prog 124 #[enc (.app (.fix f c b) a)] w fun e w' => e = .returned (.tuple #[.agg #[bv f, bv c, enc b], enc a, .bool true]) ∧ Below w.heap.size w w' := by
  have a1 := ta_app (.app (.fix f c b) a)
  have a2 := ta_fun (.fix f c b)
  obtain ⟨n0, v0, q0⟩ := enc_gen b
  obtain ⟨n1, v1, q1⟩ := enc_gen a
  simp only [ty, pl, appV, isApp, funV, isFun, enc, q0, q1] at a1 a2
  rw [q1, q0]
  simp only [enc, q0, q1]
  clear q0 q1
  go_enter Tryz.func124, Tryz.ntmps124
  go_wp2_with fail
  have z0 := alloc_here w (.cells #[.int .u8 0, .int .u8 0, .nilIface] 134)
  go_region
  all_goals go_wp2_with fail
  all_goals refine bodyPost_ret (v := .tuple #[.agg #[bv f, bv c, .iface n0 v0], .iface n1 v1, .bool true]) (by simp [results, Tryz.results124, go_sem]) rfl ?_
  all_goals exact ⟨rfl, by first | exact below_three w _ _ _ | exact (below_three w _ _ _).drew⟩

theorem nam_ne {f : UInt8} (hf : isNam f = true) : ((f.toNat : Int) != 0) = true ∧ ((f.toNat : Int) == 0) = false := by
  simp only [isNam, Bool.and_eq_true, decide_eq_true_eq] at hf
  constructor
  · rw [bne_iff_ne]; omega
  · rw [beq_eq_false_iff_ne]; omega

set_option maxRecDepth 100000 in
set_option maxHeartbeats 2000000 in
theorem putArg_no1 (t : Tm) (w : World) (h : isApp t = false) :
    Calls Tryz.prog 108 #[enc t] w (RuleNo w) := by
  have KC := fun W => calledIn_no t W h
  rw [enc_ty t] at *
  go_enter Tryz.func108, Tryz.ntmps108
  go_wp2_with (go_at_call 124; refine (KC _).mono ?_; clear KC; rintro e w2 ⟨rfl, hb2⟩)
  go_ret2
  exact ⟨_, .inl rfl, rfl, hb2.alloc hb2.size _⟩

set_option maxRecDepth 100000 in
set_option maxHeartbeats 2000000 in
theorem putArg_no2 (f a : Tm) (w : World) (h : isFun f = false) :
    Calls Tryz.prog 108 #[enc (.app f a)] w (RuleNo w) := by
  have KC := fun W => calledIn_nofun f a W h
  obtain ⟨n1, v1, q1⟩ := enc_gen a
  rw [enc_ty (.app f a)] at *
  simp only [q1] at KC
  clear q1
  go_enter Tryz.func108, Tryz.ntmps108
  go_wp2_with (go_at_call 124; refine (KC _).mono ?_; clear KC; rintro e w2 ⟨rfl, hb2⟩)
  go_ret2
  exact ⟨_, .inl rfl, rfl, hb2.alloc hb2.size _⟩

set_option maxRecDepth 100000 in
set_option maxHeartbeats 2000000 in
theorem putArg_no3 (f c : UInt8) (b a : Tm) (w : World) (hf : isNam f = true) :
    Calls Tryz.prog 108 #[enc (.app (.fix f c b) a)] w (RuleNo w) := by
  obtain ⟨hq1, hq2⟩ := nam_ne hf
  have KC := fun W => calledIn_fix f c b a W
  obtain ⟨n0, v0, q0⟩ := enc_gen b
  obtain ⟨n1, v1, q1⟩ := enc_gen a
  rw [enc_ty (.app (.fix f c b) a)] at *
  simp only [q0, q1] at KC
  clear q0 q1
  go_enter Tryz.func108, Tryz.ntmps108
  go_wp2_with (go_at_call 124; refine (KC _).mono ?_; clear KC; rintro e w2 ⟨rfl, hb2⟩)
  go_ret2
  exact ⟨_, .inl rfl, rfl, hb2.alloc hb2.size _⟩

set_option maxRecDepth 100000 in
set_option maxHeartbeats 2000000 in
theorem putSelf_no1 (t : Tm) (w : World) (h : isApp t = false) :
    Calls Tryz.prog 109 #[enc t] w (RuleNo w) := by
  have KC := fun W => calledIn_no t W h
  rw [enc_ty t] at *
  go_enter Tryz.func109, Tryz.ntmps109
  go_wp2_with (go_at_call 124; refine (KC _).mono ?_; clear KC; rintro e w2 ⟨rfl, hb2⟩)
  go_ret2
  exact ⟨_, .inl rfl, rfl, hb2.alloc hb2.size _⟩

set_option maxRecDepth 100000 in
set_option maxHeartbeats 2000000 in
theorem putSelf_no2 (f a : Tm) (w : World) (h : isFun f = false) :
    Calls Tryz.prog 109 #[enc (.app f a)] w (RuleNo w) := by
  have KC := fun W => calledIn_nofun f a W h
  obtain ⟨n1, v1, q1⟩ := enc_gen a
  rw [enc_ty (.app f a)] at *
  simp only [q1] at KC
  clear q1
  go_enter Tryz.func109, Tryz.ntmps109
  go_wp2_with (go_at_call 124; refine (KC _).mono ?_; clear KC; rintro e w2 ⟨rfl, hb2⟩)
  go_ret2
  exact ⟨_, .inl rfl, rfl, hb2.alloc hb2.size _⟩

set_option maxRecDepth 100000 in
set_option maxHeartbeats 2000000 in
theorem putSelf_no3 (c : UInt8) (b a : Tm) (w : World) :
    Calls Tryz.prog 109 #[enc (.app (.fn c b) a)] w (RuleNo w) := by
  have KC := fun W => calledIn_fn c b a W
  obtain ⟨n0, v0, q0⟩ := enc_gen b
  obtain ⟨n1, v1, q1⟩ := enc_gen a
  rw [enc_ty (.app (.fn c b) a)] at *
  simp only [q0, q1] at KC
  clear q0 q1
  go_enter Tryz.func109, Tryz.ntmps109
  go_wp2_with (go_at_call 124; refine (KC _).mono ?_; clear KC; rintro e w2 ⟨rfl, hb2⟩)
  go_ret2
  exact ⟨_, .inl rfl, rfl, hb2.alloc hb2.size _⟩

set_option maxRecDepth 100000 in
set_option maxHeartbeats 2000000 in
theorem putArg_yes (c : UInt8) (b a : Tm) (w : World) (hb : b.depth ≤ 4000) (gb : b.good) (ga : a.good) (pa : (parts a).length ≤ 4000) (da : a.depth ≤ 4000) (ca : Closed a) :
    Calls Tryz.prog 108 #[enc (.app (.fn c b) a)] w (RuleYes (subS b.depth c a b).1 w) := by
  have KC := fun W => calledIn_fn c b a W
  have KP := fun W => put_yes c a b W hb gb ga pa da ca
  obtain ⟨n0, v0, q0⟩ := enc_gen b
  obtain ⟨n1, v1, q1⟩ := enc_gen a
  obtain ⟨n2, v2, q2⟩ := enc_gen (subS b.depth c a b).1
  unfold RuleYes
  rw [q2]
  simp only [q0, q1, q2] at KP
  rw [enc_ty (.app (.fn c b) a)] at *
  simp only [q0, q1] at KC
  clear q0 q1 q2 ca
  go_enter Tryz.func108, Tryz.ntmps108
  go_wp2_with (first | (go_at_call 124; refine (KC _).mono ?_; clear KC; rintro e w2 ⟨rfl, hb2⟩) | (go_at_call 123; refine (KP _).mono ?_; clear KP; rintro e w3 ⟨rfl, hb3⟩))
  go_ret2
  exact ⟨rfl, (hb2.alloc hb2.size _).trans (hb3.mono (by have := hb2.size; simp; omega))⟩

set_option maxRecDepth 100000 in
set_option maxHeartbeats 2000000 in
theorem putSelf_yes (f c : UInt8) (b a r1 r : Tm) (w : World) (hf : isNam f = true) (hr1 : r1 = (subS b.depth f (.fix f c b) b).1) (hr : r = (subS r1.depth c a r1).1) (gt : (Tm.fix f c b).good) (hb : b.depth ≤ 1500) (pb : (parts b).length ≤ 1500) (ga : a.good) (pa : (parts a).length ≤ 4000) (da : a.depth ≤ 4000) (ca : Closed a) (cb : Closed (.fix f c b)) :
    Calls Tryz.prog 109 #[enc (.app (.fix f c b) a)] w (RuleYes r w) := by
  obtain ⟨hq1, hq2⟩ := nam_ne hf
  have G := subS_grown gt b.depth f b
  rw [← hr1] at G
  have g2 := G.deep
  simp only [Tm.depth] at g2
  have KC := fun W => calledIn_fix f c b a W
  have KP1 := fun W => put_yes f (.fix f c b) b W (by omega) gt.2.2.2 gt (by simp only [parts, List.length_cons]; omega) (by simp only [Tm.depth]; omega) cb
  have KP2 := fun W => put_yes c a r1 W (by omega) (G.good gt.2.2.2) ga pa da ca
  rw [← hr1] at KP1
  rw [← hr] at KP2
  obtain ⟨n0, v0, q0⟩ := enc_gen b
  obtain ⟨n1, v1, q1⟩ := enc_gen a
  obtain ⟨n2, v2, q2⟩ := enc_gen r1
  obtain ⟨n3, v3, q3⟩ := enc_gen r
  unfold RuleYes
  rw [q3]
  have qf : enc (.fix f c b) = .iface 134 (.agg #[bv f, bv c, .iface n0 v0]) := by simp only [enc, q0]
  simp only [q0, q2, qf] at KP1
  simp only [q1, q2, q3] at KP2
  rw [enc_ty (.app (.fix f c b) a)] at *
  simp only [q0, q1] at KC
  clear q0 q1 q2 q3 qf ca cb hr1 hr G
  go_enter Tryz.func109, Tryz.ntmps109
  go_wp2_with (go_at_call 124; refine (KC _).mono ?_; clear KC; rintro e w2 ⟨rfl, hb2⟩)
  go_wp2_with (go_at_call 123; refine (KP1 _).mono ?_; clear KP1; rintro e w3 ⟨rfl, hb3⟩; have hz3 : w2.heap.size + 1 ≤ w3.heap.size := (by have := hb3.size; simpa using this); obtain ⟨c0, c1, c2⟩ := cells3 ((hb3.block w2.heap.size (by simp)).trans (alloc_here w2 (.cells #[bv f, bv c, .iface n0 v0] 134))))
  go_wp2_with (go_at_call 123; refine (KP2 _).mono ?_; clear KP2; rintro e w4 ⟨rfl, hb4⟩)
  go_ret2
  exact ⟨rfl, ((hb2.alloc hb2.size _).trans (hb3.mono (by have := hb2.size; simp; omega))).trans (hb4.mono (by have := hb2.size; omega))⟩

theorem below_four (w : World) (o1 o2 o3 o4 : Obj) : Below w.heap.size w ((((w.alloc o1).alloc o2).alloc o3).alloc o4) := (below_three w o1 o2 o3).alloc (by simp; omega) o4

set_option maxRecDepth 100000 in
set_option maxHeartbeats 2000000 in
theorem askedIn_no (t : Tm) (w : World) (h : isSel t = false) :
    Calls Tryz.prog 125 #[enc t] w fun e w' => e = .returned (.tuple #[.agg #[.nilIface, .nilIface, .nilIface], .agg #[.int .i64 0], .bool false]) ∧ Below w.heap.size w w' := by
  have a1 := no_sel t h
  rw [enc_ty t]
  go_enter Tryz.func125, Tryz.ntmps125
  go_wp2_with fail
  refine bodyPost_ret (v := .tuple #[.agg #[.nilIface, .nilIface, .nilIface], .agg #[.int .i64 0], .bool false]) (by simp [results, Tryz.results125, go_sem]) rfl ?_
  exact ⟨rfl, below_three w _ _ _⟩

set_option maxRecDepth 100000 in
set_option maxHeartbeats 2000000 in
theorem askedIn_nonum (x y z : Tm) (w : World) (h : isNum x = false) :
    Calls Tryz.prog 125 #[enc (.sel x y z)] w fun e w' => e = .returned (.tuple #[.agg #[enc x, enc y, enc z], .agg #[.int .i64 0], .bool false]) ∧ Below w.heap.size w w' := by
  have a1 := ta_sel (.sel x y z)
  have a2 := no_num x h
  obtain ⟨n0, v0, q0⟩ := enc_gen x
  obtain ⟨n1, v1, q1⟩ := enc_gen y
  obtain ⟨n2, v2, q2⟩ := enc_gen z
  rw [← enc_ty x] at a2
  simp only [ty, pl, selV, isSel, q0, q1, q2] at a1
  simp only [q0] at a2
  simp only [enc, q0, q1, q2]
  clear q0 q1 q2
  go_enter Tryz.func125, Tryz.ntmps125
  go_wp2_with fail
  go_region
  all_goals go_wp2_with fail
  all_goals refine bodyPost_ret (v := .tuple #[.agg #[.iface n0 v0, .iface n1 v1, .iface n2 v2], .agg #[.int .i64 0], .bool false]) (by simp [results, Tryz.results125, go_sem]) rfl ?_
  all_goals exact ⟨rfl, by first | exact below_four w _ _ _ _ | exact (below_four w _ _ _ _).drew⟩

set_option maxRecDepth 100000 in
set_option maxHeartbeats 2000000 in
theorem askedIn_num (k : Nat) (y z : Tm) (w : World) :
    Calls Tryz.prog 125 #[enc (.sel (.num k) y z)] w fun e w' => e = .returned (.tuple #[.agg #[enc (.num k), enc y, enc z], .agg #[.int .i64 (k : Int)], .bool true]) ∧ Below w.heap.size w w' := by
  have a1 := ta_sel (.sel (.num k) y z)
  have a2 := ta_num (.num k)
  obtain ⟨n1, v1, q1⟩ := enc_gen y
  obtain ⟨n2, v2, q2⟩ := enc_gen z
  simp only [ty, pl, selV, isSel, numV, isNum, enc, q1, q2] at a1 a2
  simp only [enc, q1, q2]
  clear q1 q2
  go_enter Tryz.func125, Tryz.ntmps125
  go_wp2_with fail
  go_region
  all_goals go_wp2_with fail
  all_goals refine bodyPost_ret (v := .tuple #[.agg #[.iface 111 (.agg #[.int .i64 (k : Int)]), .iface n1 v1, .iface n2 v2], .agg #[.int .i64 (k : Int)], .bool true]) (by simp [results, Tryz.results125, go_sem]) rfl ?_
  all_goals exact ⟨rfl, by first | exact below_four w _ _ _ _ | exact (below_four w _ _ _ _).drew⟩

set_option maxRecDepth 100000 in
set_option maxHeartbeats 2000000 in
theorem ifZero_no1 (t : Tm) (w : World) (h : isSel t = false) :
    Calls Tryz.prog 110 #[enc t] w (RuleNo w) := by
  have KC := fun W => askedIn_no t W h
  rw [enc_ty t] at *
  go_enter Tryz.func110, Tryz.ntmps110
  go_wp2_with (go_at_call 125; refine (KC _).mono ?_; clear KC; rintro e w2 ⟨rfl, hb2⟩)
  go_region
  all_goals go_wp2_with fail
  all_goals go_ret2
  all_goals exact ⟨_, .inl rfl, rfl, by first | exact (hb2.alloc hb2.size _).alloc (by have := hb2.size; simp; omega) _ | exact ((hb2.alloc hb2.size _).alloc (by have := hb2.size; simp; omega) _).drew⟩

set_option maxRecDepth 100000 in
set_option maxHeartbeats 2000000 in
theorem ifZero_no2 (x y z : Tm) (w : World) (h : isNum x = false) :
    Calls Tryz.prog 110 #[enc (.sel x y z)] w (RuleNo w) := by
  have KC := fun W => askedIn_nonum x y z W h
  obtain ⟨n0, v0, q0⟩ := enc_gen x
  obtain ⟨n1, v1, q1⟩ := enc_gen y
  obtain ⟨n2, v2, q2⟩ := enc_gen z
  rw [enc_ty (.sel x y z)] at *
  simp only [q0, q1, q2] at KC
  clear q0 q1 q2
  go_enter Tryz.func110, Tryz.ntmps110
  go_wp2_with (go_at_call 125; refine (KC _).mono ?_; clear KC; rintro e w2 ⟨rfl, hb2⟩)
  go_region
  all_goals go_wp2_with fail
  all_goals go_ret2
  all_goals exact ⟨_, .inr ⟨_, _, rfl⟩, rfl, by first | exact (hb2.alloc hb2.size _).alloc (by have := hb2.size; simp; omega) _ | exact ((hb2.alloc hb2.size _).alloc (by have := hb2.size; simp; omega) _).drew⟩

set_option maxRecDepth 100000 in
set_option maxHeartbeats 2000000 in
theorem ifZero_no3 (k : Nat) (y z : Tm) (w : World) (hk : k ≠ 0) :
    Calls Tryz.prog 110 #[enc (.sel (.num k) y z)] w (RuleNo w) := by
  have hq : ((k : Int) == 0) = false := by rw [beq_eq_false_iff_ne]; omega
  have KC := fun W => askedIn_num k y z W
  have e9 : enc (.num k) = .iface 111 (.agg #[.int .i64 (k : Int)]) := rfl
  obtain ⟨n1, v1, q1⟩ := enc_gen y
  obtain ⟨n2, v2, q2⟩ := enc_gen z
  rw [enc_ty (.sel (.num k) y z)] at *
  simp only [e9, q1, q2] at KC
  clear e9 q1 q2 hk
  go_enter Tryz.func110, Tryz.ntmps110
  go_wp2_with (go_at_call 125; refine (KC _).mono ?_; clear KC; rintro e w2 ⟨rfl, hb2⟩)
  go_region
  all_goals go_wp2_with fail
  all_goals go_ret2
  all_goals exact ⟨_, .inr ⟨_, _, rfl⟩, rfl, by first | exact (hb2.alloc hb2.size _).alloc (by have := hb2.size; simp; omega) _ | exact ((hb2.alloc hb2.size _).alloc (by have := hb2.size; simp; omega) _).drew⟩

set_option maxRecDepth 100000 in
set_option maxHeartbeats 2000000 in
theorem ifZero_yes (k : Nat) (y z : Tm) (w : World) (hk : k = 0) :
    Calls Tryz.prog 110 #[enc (.sel (.num k) y z)] w (RuleYes y w) := by
  have hq : ((k : Int) == 0) = true := by simp; omega
  have KC := fun W => askedIn_num k y z W
  have e9 : enc (.num k) = .iface 111 (.agg #[.int .i64 (k : Int)]) := rfl
  obtain ⟨n1, v1, q1⟩ := enc_gen y
  obtain ⟨n2, v2, q2⟩ := enc_gen z
  unfold RuleYes
  rw [q1]
  rw [enc_ty (.sel (.num k) y z)] at *
  simp only [e9, q1, q2] at KC
  clear e9 q1 q2 hk
  go_enter Tryz.func110, Tryz.ntmps110
  go_wp2_with (go_at_call 125; refine (KC _).mono ?_; clear KC; rintro e w2 ⟨rfl, hb2⟩)
  go_region
  all_goals go_wp2_with fail
  all_goals go_ret2
  all_goals exact ⟨rfl, by first | exact (hb2.alloc hb2.size _).alloc (by have := hb2.size; simp; omega) _ | exact ((hb2.alloc hb2.size _).alloc (by have := hb2.size; simp; omega) _).drew⟩

set_option maxRecDepth 100000 in
set_option maxHeartbeats 2000000 in
theorem ifOther_no1 (t : Tm) (w : World) (h : isSel t = false) :
    Calls Tryz.prog 111 #[enc t] w (RuleNo w) := by
  have KC := fun W => askedIn_no t W h
  rw [enc_ty t] at *
  go_enter Tryz.func111, Tryz.ntmps111
  go_wp2_with (go_at_call 125; refine (KC _).mono ?_; clear KC; rintro e w2 ⟨rfl, hb2⟩)
  go_region
  all_goals go_wp2_with fail
  all_goals go_ret2
  all_goals exact ⟨_, .inl rfl, rfl, by first | exact (hb2.alloc hb2.size _).alloc (by have := hb2.size; simp; omega) _ | exact ((hb2.alloc hb2.size _).alloc (by have := hb2.size; simp; omega) _).drew⟩

set_option maxRecDepth 100000 in
set_option maxHeartbeats 2000000 in
theorem ifOther_no2 (x y z : Tm) (w : World) (h : isNum x = false) :
    Calls Tryz.prog 111 #[enc (.sel x y z)] w (RuleNo w) := by
  have KC := fun W => askedIn_nonum x y z W h
  obtain ⟨n0, v0, q0⟩ := enc_gen x
  obtain ⟨n1, v1, q1⟩ := enc_gen y
  obtain ⟨n2, v2, q2⟩ := enc_gen z
  rw [enc_ty (.sel x y z)] at *
  simp only [q0, q1, q2] at KC
  clear q0 q1 q2
  go_enter Tryz.func111, Tryz.ntmps111
  go_wp2_with (go_at_call 125; refine (KC _).mono ?_; clear KC; rintro e w2 ⟨rfl, hb2⟩)
  go_region
  all_goals go_wp2_with fail
  all_goals go_ret2
  all_goals exact ⟨_, .inr ⟨_, _, rfl⟩, rfl, by first | exact (hb2.alloc hb2.size _).alloc (by have := hb2.size; simp; omega) _ | exact ((hb2.alloc hb2.size _).alloc (by have := hb2.size; simp; omega) _).drew⟩

set_option maxRecDepth 100000 in
set_option maxHeartbeats 2000000 in
theorem ifOther_no3 (k : Nat) (y z : Tm) (w : World) (hk : k = 0) :
    Calls Tryz.prog 111 #[enc (.sel (.num k) y z)] w (RuleNo w) := by
  have hq : ((k : Int) != 0) = false := by simp; omega
  have KC := fun W => askedIn_num k y z W
  have e9 : enc (.num k) = .iface 111 (.agg #[.int .i64 (k : Int)]) := rfl
  obtain ⟨n1, v1, q1⟩ := enc_gen y
  obtain ⟨n2, v2, q2⟩ := enc_gen z
  rw [enc_ty (.sel (.num k) y z)] at *
  simp only [e9, q1, q2] at KC
  clear e9 q1 q2 hk
  go_enter Tryz.func111, Tryz.ntmps111
  go_wp2_with (go_at_call 125; refine (KC _).mono ?_; clear KC; rintro e w2 ⟨rfl, hb2⟩)
  go_region
  all_goals go_wp2_with fail
  all_goals go_ret2
  all_goals exact ⟨_, .inr ⟨_, _, rfl⟩, rfl, by first | exact (hb2.alloc hb2.size _).alloc (by have := hb2.size; simp; omega) _ | exact ((hb2.alloc hb2.size _).alloc (by have := hb2.size; simp; omega) _).drew⟩

set_option maxRecDepth 100000 in
set_option maxHeartbeats 2000000 in
theorem ifOther_yes (k : Nat) (y z : Tm) (w : World) (hk : k ≠ 0) :
    Calls Tryz.prog 111 #[enc (.sel (.num k) y z)] w (RuleYes z w) := by
  have hq : ((k : Int) != 0) = true := by rw [bne_iff_ne]; omega
  have KC := fun W => askedIn_num k y z W
  have e9 : enc (.num k) = .iface 111 (.agg #[.int .i64 (k : Int)]) := rfl
  obtain ⟨n1, v1, q1⟩ := enc_gen y
  obtain ⟨n2, v2, q2⟩ := enc_gen z
  unfold RuleYes
  rw [q2]
  rw [enc_ty (.sel (.num k) y z)] at *
  simp only [e9, q1, q2] at KC
  clear e9 q1 q2 hk
  go_enter Tryz.func111, Tryz.ntmps111
  go_wp2_with (go_at_call 125; refine (KC _).mono ?_; clear KC; rintro e w2 ⟨rfl, hb2⟩)
  go_region
  all_goals go_wp2_with fail
  all_goals go_ret2
  all_goals exact ⟨rfl, by first | exact (hb2.alloc hb2.size _).alloc (by have := hb2.size; simp; omega) _ | exact ((hb2.alloc hb2.size _).alloc (by have := hb2.size; simp; omega) _).drew⟩

set_option maxRecDepth 100000 in
set_option maxHeartbeats 2000000 in
theorem calc_no1 (t : Tm) (w : World) (h : isOp t = false) :
    Calls Tryz.prog 112 #[enc t] w (RuleNo w) := by
  have a1 := no_op t h
  rw [enc_ty t]
  go_enter Tryz.func112, Tryz.ntmps112
  go_wp2_with fail
  go_ret2
  exact ⟨_, .inl rfl, rfl, (Below.refl _ w).alloc (Nat.le_refl _) _⟩

set_option maxRecDepth 100000 in
set_option maxHeartbeats 2000000 in
theorem calc_no2 (o : UInt8) (l r : Tm) (w : World) (h : (isNum l && isNum r) = false) :
    Calls Tryz.prog 112 #[enc (.op o l r)] w (RuleNo w) := by
  have a1 := ta_op (.op o l r)
  have a2 := ta_num l
  have a3 := ta_num r
  obtain ⟨n0, v0, q0⟩ := enc_gen l
  obtain ⟨n1, v1, q1⟩ := enc_gen r
  have z2 : ∃ k, numV l = .agg #[.int .i64 k] := by cases l <;> exact ⟨_, rfl⟩
  have z3 : ∃ k, numV r = .agg #[.int .i64 k] := by cases r <;> exact ⟨_, rfl⟩
  obtain ⟨k2, z2⟩ := z2
  obtain ⟨k3, z3⟩ := z3
  rw [← enc_ty l, z2, q0] at a2
  rw [← enc_ty r, z3, q1] at a3
  simp only [ty, pl, opV, isOp, q0, q1] at a1
  simp only [enc, q0, q1]
  clear q0 q1 z2 z3
  cases h1 : isNum l <;> cases h2 : isNum r <;> rw [h1] at a2 <;> rw [h2] at a3 <;> rw [h1, h2] at h <;> clear h1 h2
  rotate_left 3
  · cases h
  all_goals
    clear h
    go_enter Tryz.func112, Tryz.ntmps112
    go_wp2_with fail
    go_ret2
    exact ⟨_, .inl rfl, rfl, below_three w _ _ _⟩

set_option maxRecDepth 100000 in
set_option maxHeartbeats 2000000 in
theorem calc_yes (o : UInt8) (a b : Nat) (w : World) (ho : o.toNat = 43 ∨ o.toNat = 45 ∨ o.toNat = 42) (ha : a ≤ 99) (hb : b ≤ 99) :
    Calls Tryz.prog 112 #[enc (.op o (.num a) (.num b))] w (RuleYes (.num (calN o a b)) w) := by
  have a1 := ta_op (.op o (.num a) (.num b))
  have a2 := ta_num (.num a)
  have a3 := ta_num (.num b)
  have KC := fun W => calculate_c o a b ho ha hb W
  simp only [ty, pl, opV, isOp, numV, isNum, enc] at a1 a2 a3
  unfold RuleYes
  simp only [enc]
  go_enter Tryz.func112, Tryz.ntmps112
  go_wp2_with (go_at_call 126; refine (KC _).mono ?_; clear KC; rintro e w2 ⟨rfl, rfl⟩)
  go_ret2
  exact ⟨rfl, below_three w _ _ _⟩

end Go.Proofs.YtefmmgccdpfnaaaGreatDoor

/- Which rule fits a part, and the program's reduced. Written by genStS.py. -/
namespace Go.Proofs.YtefmmgccdpfnaaaGreatDoor
open Go.RowKit
open Ff
set_option linter.unusedVariables false
attribute [local go_sem] Oper.semAt_some

/-- What a part becomes by the rule that fits it, and the rule's name. -/
def ruleT : Tm → Option (Tm × Text)
  | .bind c v b => some ((subS b.depth c v b).1, [108, 101, 116])
  | .app (.fn c b) a => some ((subS b.depth c a b).1, [99, 97, 108, 108])
  | .app (.fix f c b) a => some ((subS (subS b.depth f (.fix f c b) b).1.depth c a (subS b.depth f (.fix f c b) b).1).1, [115, 101, 108, 102])
  | .sel (.num k) y z => if k = 0 then some (y, [122, 101, 114, 111]) else some (z, [111, 116, 104, 101, 114])
  | .op o (.num a) (.num b) => some (.num (calN o a b), [110, 117, 109, 98, 101, 114])
  | _ => none
/-- The rules as the program has them. -/
def rulesV : Value := .agg #[.string ⟨#[108, 101, 116]⟩, .func (.func 107) #[] #[], .string ⟨#[99, 97, 108, 108]⟩, .func (.func 108) #[] #[], .string ⟨#[115, 101, 108, 102]⟩, .func (.func 109) #[] #[], .string ⟨#[122, 101, 114, 111]⟩, .func (.func 110) #[] #[], .string ⟨#[111, 116, 104, 101, 114]⟩, .func (.func 111) #[] #[], .string ⟨#[110, 117, 109, 98, 101, 114]⟩, .func (.func 112) #[] #[]]
set_option maxRecDepth 100000 in
set_option maxHeartbeats 1000000 in
theorem rules_c (w : World) : Calls Tryz.prog 80 #[] w fun e w' => e = .returned rulesV ∧ Below w.heap.size w w' := by
  go_enter Tryz.func80, Tryz.ntmps80
  go_wp2_with fail
  refine bodyPost_ret (v := rulesV) (by simp [results, Tryz.results80, go_sem, rulesV]) rfl ?_
  exact ⟨rfl, by first | exact (Below.refl _ w).alloc (Nat.le_refl _) _⟩
/-- What reducing comes to. -/
def RedP (o : Option (Tm × Text)) (w : World) (e : Ending) (w' : World) : Prop := (match o with
  | some r => e = .returned (.tuple #[enc r.1, .string ⟨r.2.toArray⟩, .bool true])
  | none => e = .returned (.tuple #[.nilIface, .string ⟨#[]⟩, .bool false])) ∧ Below w.heap.size w w'

theorem rule_ix0 (w : World) : (Instr.index 118 (.agg #[.string ⟨#[108, 101, 116]⟩, .func (.func 107) #[] #[], .string ⟨#[99, 97, 108, 108]⟩, .func (.func 108) #[] #[], .string ⟨#[115, 101, 108, 102]⟩, .func (.func 109) #[] #[], .string ⟨#[122, 101, 114, 111]⟩, .func (.func 110) #[] #[], .string ⟨#[111, 116, 104, 101, 114]⟩, .func (.func 111) #[] #[], .string ⟨#[110, 117, 109, 98, 101, 114]⟩, .func (.func 112) #[] #[]]) (.int .i64 0)).run Tryz.prog w = .ok (.agg #[.string ⟨#[108, 101, 116]⟩, .func (.func 107) #[] #[]]) w := by kernel_rfl
theorem rule_ix1 (w : World) : (Instr.index 118 (.agg #[.string ⟨#[108, 101, 116]⟩, .func (.func 107) #[] #[], .string ⟨#[99, 97, 108, 108]⟩, .func (.func 108) #[] #[], .string ⟨#[115, 101, 108, 102]⟩, .func (.func 109) #[] #[], .string ⟨#[122, 101, 114, 111]⟩, .func (.func 110) #[] #[], .string ⟨#[111, 116, 104, 101, 114]⟩, .func (.func 111) #[] #[], .string ⟨#[110, 117, 109, 98, 101, 114]⟩, .func (.func 112) #[] #[]]) (.int .i64 1)).run Tryz.prog w = .ok (.agg #[.string ⟨#[99, 97, 108, 108]⟩, .func (.func 108) #[] #[]]) w := by kernel_rfl
theorem rule_ix2 (w : World) : (Instr.index 118 (.agg #[.string ⟨#[108, 101, 116]⟩, .func (.func 107) #[] #[], .string ⟨#[99, 97, 108, 108]⟩, .func (.func 108) #[] #[], .string ⟨#[115, 101, 108, 102]⟩, .func (.func 109) #[] #[], .string ⟨#[122, 101, 114, 111]⟩, .func (.func 110) #[] #[], .string ⟨#[111, 116, 104, 101, 114]⟩, .func (.func 111) #[] #[], .string ⟨#[110, 117, 109, 98, 101, 114]⟩, .func (.func 112) #[] #[]]) (.int .i64 2)).run Tryz.prog w = .ok (.agg #[.string ⟨#[115, 101, 108, 102]⟩, .func (.func 109) #[] #[]]) w := by kernel_rfl
theorem rule_ix3 (w : World) : (Instr.index 118 (.agg #[.string ⟨#[108, 101, 116]⟩, .func (.func 107) #[] #[], .string ⟨#[99, 97, 108, 108]⟩, .func (.func 108) #[] #[], .string ⟨#[115, 101, 108, 102]⟩, .func (.func 109) #[] #[], .string ⟨#[122, 101, 114, 111]⟩, .func (.func 110) #[] #[], .string ⟨#[111, 116, 104, 101, 114]⟩, .func (.func 111) #[] #[], .string ⟨#[110, 117, 109, 98, 101, 114]⟩, .func (.func 112) #[] #[]]) (.int .i64 3)).run Tryz.prog w = .ok (.agg #[.string ⟨#[122, 101, 114, 111]⟩, .func (.func 110) #[] #[]]) w := by kernel_rfl
theorem rule_ix4 (w : World) : (Instr.index 118 (.agg #[.string ⟨#[108, 101, 116]⟩, .func (.func 107) #[] #[], .string ⟨#[99, 97, 108, 108]⟩, .func (.func 108) #[] #[], .string ⟨#[115, 101, 108, 102]⟩, .func (.func 109) #[] #[], .string ⟨#[122, 101, 114, 111]⟩, .func (.func 110) #[] #[], .string ⟨#[111, 116, 104, 101, 114]⟩, .func (.func 111) #[] #[], .string ⟨#[110, 117, 109, 98, 101, 114]⟩, .func (.func 112) #[] #[]]) (.int .i64 4)).run Tryz.prog w = .ok (.agg #[.string ⟨#[111, 116, 104, 101, 114]⟩, .func (.func 111) #[] #[]]) w := by kernel_rfl
theorem rule_ix5 (w : World) : (Instr.index 118 (.agg #[.string ⟨#[108, 101, 116]⟩, .func (.func 107) #[] #[], .string ⟨#[99, 97, 108, 108]⟩, .func (.func 108) #[] #[], .string ⟨#[115, 101, 108, 102]⟩, .func (.func 109) #[] #[], .string ⟨#[122, 101, 114, 111]⟩, .func (.func 110) #[] #[], .string ⟨#[111, 116, 104, 101, 114]⟩, .func (.func 111) #[] #[], .string ⟨#[110, 117, 109, 98, 101, 114]⟩, .func (.func 112) #[] #[]]) (.int .i64 5)).run Tryz.prog w = .ok (.agg #[.string ⟨#[110, 117, 109, 98, 101, 114]⟩, .func (.func 112) #[] #[]]) w := by kernel_rfl

/-- The box of a rule, behind the rule's call. -/
theorem rule_box {wp wn : World} {s : ByteArray} {f : Value} {t : TypeId} (h : Below (wp.alloc (.cells #[.string s, f] t)).heap.size (wp.alloc (.cells #[.string s, f] t)) wn) : wn.cell? ⟨wp.heap.size, 0, none⟩ = some (.string s) ∧ wn.cell? ⟨wp.heap.size, 1, none⟩ = some f := by
  have k := (h.block wp.heap.size (by simp)).trans (World.alloc_heap_new wp (.cells #[.string s, f] t))
  constructor <;> simp [World.cell?, k]

set_option maxRecDepth 100000 in
set_option maxHeartbeats 4000000 in
theorem reduced_bind (c : UInt8) (v b : Tm) (w : World) (hb : b.depth ≤ 4000) (gb : b.good) (gv : v.good) (pv : (parts v).length ≤ 4000) (dv : v.depth ≤ 4000) (cv : Closed v) :
    Calls Tryz.prog 58 #[enc (.bind c v b)] w (RedP (some ((subS b.depth c v b).1, [108, 101, 116])) w) := by
  have KR := fun W => rules_c W
  have K0 := fun W => putLet_yes c v b W hb gb gv pv dv cv
  unfold RedP
  simp only
  unfold RuleYes at K0
  obtain ⟨rn, rv, hr⟩ := enc_gen ((subS b.depth c v b).1)
  rw [hr]
  simp only [hr] at K0
  clear hr
  generalize hq : enc (.bind c v b) = Q at *
  obtain ⟨qn, qv, rfl⟩ : ∃ n v, Q = .iface n v := by rw [← hq]; exact enc_gen _
  clear hq
  have x0 := fun W => rule_ix0 W
  go_enter Tryz.func58, Tryz.ntmps58
  go_wp2_with (go_at_call 80; refine (KR _).mono ?_; clear KR; rintro e w1 ⟨rfl, HB⟩; unfold rulesV)
  refine wp_loop_rounds 1 ?_
  rw [rounds_succ]
  go_wp2_with (go_at_call 107; refine (K0 _).mono ?_; clear K0; rintro e wn ⟨rfl, hb⟩; (obtain ⟨k0, k1⟩ := rule_box hb); replace HB := (HB.alloc HB.size _).trans (hb.mono (HB.alloc HB.size _).size); clear hb)
  go_region
  all_goals go_wp2_with fail
  all_goals refine bodyPost_ret (v := .tuple #[.iface rn rv, .string ⟨#[108, 101, 116]⟩, .bool true]) (by simp [results, Tryz.results58, go_sem]) rfl ?_
  all_goals exact ⟨rfl, by first | exact HB | exact HB.drew⟩

set_option maxRecDepth 100000 in
set_option maxHeartbeats 4000000 in
theorem reduced_fn (c : UInt8) (b a : Tm) (w : World) (hb : b.depth ≤ 4000) (gb : b.good) (ga : a.good) (pa : (parts a).length ≤ 4000) (da : a.depth ≤ 4000) (ca : Closed a) :
    Calls Tryz.prog 58 #[enc (.app (.fn c b) a)] w (RedP (some ((subS b.depth c a b).1, [99, 97, 108, 108])) w) := by
  have KR := fun W => rules_c W
  have K0 := fun W => putLet_no (.app (.fn c b) a) W rfl
  have K1 := fun W => putArg_yes c b a W hb gb ga pa da ca
  unfold RedP
  simp only
  unfold RuleYes at K1
  obtain ⟨rn, rv, hr⟩ := enc_gen ((subS b.depth c a b).1)
  rw [hr]
  simp only [hr] at K1
  clear hr
  generalize hq : enc (.app (.fn c b) a) = Q at *
  obtain ⟨qn, qv, rfl⟩ : ∃ n v, Q = .iface n v := by rw [← hq]; exact enc_gen _
  clear hq
  have x0 := fun W => rule_ix0 W
  have x1 := fun W => rule_ix1 W
  go_enter Tryz.func58, Tryz.ntmps58
  go_wp2_with (go_at_call 80; refine (KR _).mono ?_; clear KR; rintro e w1 ⟨rfl, HB⟩; unfold rulesV)
  refine wp_loop_rounds 2 ?_
  rw [rounds_succ]
  go_wp2_with (go_at_call 107; refine (K0 _).mono ?_; clear K0; rintro e wn ⟨X, _, rfl, hb⟩; replace HB := (HB.alloc HB.size _).trans (hb.mono (HB.alloc HB.size _).size); clear hb)
  rw [rounds_succ]
  go_wp2_with (go_at_call 108; refine (K1 _).mono ?_; clear K1; rintro e wn ⟨rfl, hb⟩; (obtain ⟨k0, k1⟩ := rule_box hb); replace HB := (HB.alloc HB.size _).trans (hb.mono (HB.alloc HB.size _).size); clear hb)
  go_region
  all_goals go_wp2_with fail
  all_goals refine bodyPost_ret (v := .tuple #[.iface rn rv, .string ⟨#[99, 97, 108, 108]⟩, .bool true]) (by simp [results, Tryz.results58, go_sem]) rfl ?_
  all_goals exact ⟨rfl, by first | exact HB | exact HB.drew⟩

set_option maxRecDepth 100000 in
set_option maxHeartbeats 4000000 in
theorem reduced_fix (f c : UInt8) (b a r1 r : Tm) (w : World) (hf : isNam f = true) (hr1 : r1 = (subS b.depth f (.fix f c b) b).1) (hr : r = (subS r1.depth c a r1).1) (gt : (Tm.fix f c b).good) (hb : b.depth ≤ 1500) (pb : (parts b).length ≤ 1500) (ga : a.good) (pa : (parts a).length ≤ 4000) (da : a.depth ≤ 4000) (ca : Closed a) (cb : Closed (.fix f c b)) :
    Calls Tryz.prog 58 #[enc (.app (.fix f c b) a)] w (RedP (some (r, [115, 101, 108, 102])) w) := by
  have KR := fun W => rules_c W
  have K0 := fun W => putLet_no (.app (.fix f c b) a) W rfl
  have K1 := fun W => putArg_no3 f c b a W hf
  have K2 := fun W => putSelf_yes f c b a r1 r W hf hr1 hr gt hb pb ga pa da ca cb
  unfold RedP
  simp only
  unfold RuleYes at K2
  obtain ⟨rn, rv, hr⟩ := enc_gen (r)
  rw [hr]
  simp only [hr] at K2
  clear hr
  generalize hq : enc (.app (.fix f c b) a) = Q at *
  obtain ⟨qn, qv, rfl⟩ : ∃ n v, Q = .iface n v := by rw [← hq]; exact enc_gen _
  clear hq
  have x0 := fun W => rule_ix0 W
  have x1 := fun W => rule_ix1 W
  have x2 := fun W => rule_ix2 W
  go_enter Tryz.func58, Tryz.ntmps58
  go_wp2_with (go_at_call 80; refine (KR _).mono ?_; clear KR; rintro e w1 ⟨rfl, HB⟩; unfold rulesV)
  refine wp_loop_rounds 3 ?_
  rw [rounds_succ]
  go_wp2_with (go_at_call 107; refine (K0 _).mono ?_; clear K0; rintro e wn ⟨X, _, rfl, hb⟩; replace HB := (HB.alloc HB.size _).trans (hb.mono (HB.alloc HB.size _).size); clear hb)
  rw [rounds_succ]
  go_wp2_with (go_at_call 108; refine (K1 _).mono ?_; clear K1; rintro e wn ⟨X, _, rfl, hb⟩; replace HB := (HB.alloc HB.size _).trans (hb.mono (HB.alloc HB.size _).size); clear hb)
  rw [rounds_succ]
  go_wp2_with (go_at_call 109; refine (K2 _).mono ?_; clear K2; rintro e wn ⟨rfl, hb⟩; (obtain ⟨k0, k1⟩ := rule_box hb); replace HB := (HB.alloc HB.size _).trans (hb.mono (HB.alloc HB.size _).size); clear hb)
  go_region
  all_goals go_wp2_with fail
  all_goals refine bodyPost_ret (v := .tuple #[.iface rn rv, .string ⟨#[115, 101, 108, 102]⟩, .bool true]) (by simp [results, Tryz.results58, go_sem]) rfl ?_
  all_goals exact ⟨rfl, by first | exact HB | exact HB.drew⟩

set_option maxRecDepth 100000 in
set_option maxHeartbeats 4000000 in
theorem reduced_stuckApp (f a : Tm) (w : World) (h : isFun f = false) :
    Calls Tryz.prog 58 #[enc (.app f a)] w (RedP (none) w) := by
  have KR := fun W => rules_c W
  have K0 := fun W => putLet_no (.app f a) W rfl
  have K1 := fun W => putArg_no2 f a W h
  have K2 := fun W => putSelf_no2 f a W h
  have K3 := fun W => ifZero_no1 (.app f a) W rfl
  have K4 := fun W => ifOther_no1 (.app f a) W rfl
  have K5 := fun W => calc_no1 (.app f a) W rfl
  unfold RedP
  simp only
  generalize hq : enc (.app f a) = Q at *
  obtain ⟨qn, qv, rfl⟩ : ∃ n v, Q = .iface n v := by rw [← hq]; exact enc_gen _
  clear hq
  have x0 := fun W => rule_ix0 W
  have x1 := fun W => rule_ix1 W
  have x2 := fun W => rule_ix2 W
  have x3 := fun W => rule_ix3 W
  have x4 := fun W => rule_ix4 W
  have x5 := fun W => rule_ix5 W
  go_enter Tryz.func58, Tryz.ntmps58
  go_wp2_with (go_at_call 80; refine (KR _).mono ?_; clear KR; rintro e w1 ⟨rfl, HB⟩; unfold rulesV)
  refine wp_loop_rounds 7 ?_
  rw [rounds_succ]
  go_wp2_with (go_at_call 107; refine (K0 _).mono ?_; clear K0; rintro e wn ⟨X, _, rfl, hb⟩; replace HB := (HB.alloc HB.size _).trans (hb.mono (HB.alloc HB.size _).size); clear hb)
  rw [rounds_succ]
  go_wp2_with (go_at_call 108; refine (K1 _).mono ?_; clear K1; rintro e wn ⟨X, _, rfl, hb⟩; replace HB := (HB.alloc HB.size _).trans (hb.mono (HB.alloc HB.size _).size); clear hb)
  rw [rounds_succ]
  go_wp2_with (go_at_call 109; refine (K2 _).mono ?_; clear K2; rintro e wn ⟨X, _, rfl, hb⟩; replace HB := (HB.alloc HB.size _).trans (hb.mono (HB.alloc HB.size _).size); clear hb)
  rw [rounds_succ]
  go_wp2_with (go_at_call 110; refine (K3 _).mono ?_; clear K3; rintro e wn ⟨X, _, rfl, hb⟩; replace HB := (HB.alloc HB.size _).trans (hb.mono (HB.alloc HB.size _).size); clear hb)
  rw [rounds_succ]
  go_wp2_with (go_at_call 111; refine (K4 _).mono ?_; clear K4; rintro e wn ⟨X, _, rfl, hb⟩; replace HB := (HB.alloc HB.size _).trans (hb.mono (HB.alloc HB.size _).size); clear hb)
  rw [rounds_succ]
  go_wp2_with (go_at_call 112; refine (K5 _).mono ?_; clear K5; rintro e wn ⟨X, _, rfl, hb⟩; replace HB := (HB.alloc HB.size _).trans (hb.mono (HB.alloc HB.size _).size); clear hb)
  rw [rounds_succ]
  go_wp2_with fail
  refine bodyPost_ret (v := .tuple #[.nilIface, .string ⟨#[]⟩, .bool false]) (by simp [results, Tryz.results58, go_sem]) rfl ?_
  exact ⟨rfl, HB⟩

set_option maxRecDepth 100000 in
set_option maxHeartbeats 4000000 in
theorem reduced_zero (k : Nat) (y z : Tm) (w : World) (hk : k = 0) :
    Calls Tryz.prog 58 #[enc (.sel (.num k) y z)] w (RedP (some (y, [122, 101, 114, 111])) w) := by
  have KR := fun W => rules_c W
  have K0 := fun W => putLet_no (.sel (.num k) y z) W rfl
  have K1 := fun W => putArg_no1 (.sel (.num k) y z) W rfl
  have K2 := fun W => putSelf_no1 (.sel (.num k) y z) W rfl
  have K3 := fun W => ifZero_yes k y z W hk
  unfold RedP
  simp only
  unfold RuleYes at K3
  obtain ⟨rn, rv, hr⟩ := enc_gen (y)
  rw [hr]
  simp only [hr] at K3
  clear hr
  generalize hq : enc (.sel (.num k) y z) = Q at *
  obtain ⟨qn, qv, rfl⟩ : ∃ n v, Q = .iface n v := by rw [← hq]; exact enc_gen _
  clear hq
  have x0 := fun W => rule_ix0 W
  have x1 := fun W => rule_ix1 W
  have x2 := fun W => rule_ix2 W
  have x3 := fun W => rule_ix3 W
  go_enter Tryz.func58, Tryz.ntmps58
  go_wp2_with (go_at_call 80; refine (KR _).mono ?_; clear KR; rintro e w1 ⟨rfl, HB⟩; unfold rulesV)
  refine wp_loop_rounds 4 ?_
  rw [rounds_succ]
  go_wp2_with (go_at_call 107; refine (K0 _).mono ?_; clear K0; rintro e wn ⟨X, _, rfl, hb⟩; replace HB := (HB.alloc HB.size _).trans (hb.mono (HB.alloc HB.size _).size); clear hb)
  rw [rounds_succ]
  go_wp2_with (go_at_call 108; refine (K1 _).mono ?_; clear K1; rintro e wn ⟨X, _, rfl, hb⟩; replace HB := (HB.alloc HB.size _).trans (hb.mono (HB.alloc HB.size _).size); clear hb)
  rw [rounds_succ]
  go_wp2_with (go_at_call 109; refine (K2 _).mono ?_; clear K2; rintro e wn ⟨X, _, rfl, hb⟩; replace HB := (HB.alloc HB.size _).trans (hb.mono (HB.alloc HB.size _).size); clear hb)
  rw [rounds_succ]
  go_wp2_with (go_at_call 110; refine (K3 _).mono ?_; clear K3; rintro e wn ⟨rfl, hb⟩; (obtain ⟨k0, k1⟩ := rule_box hb); replace HB := (HB.alloc HB.size _).trans (hb.mono (HB.alloc HB.size _).size); clear hb)
  go_region
  all_goals go_wp2_with fail
  all_goals refine bodyPost_ret (v := .tuple #[.iface rn rv, .string ⟨#[122, 101, 114, 111]⟩, .bool true]) (by simp [results, Tryz.results58, go_sem]) rfl ?_
  all_goals exact ⟨rfl, by first | exact HB | exact HB.drew⟩

set_option maxRecDepth 100000 in
set_option maxHeartbeats 4000000 in
theorem reduced_other (k : Nat) (y z : Tm) (w : World) (hk : k ≠ 0) :
    Calls Tryz.prog 58 #[enc (.sel (.num k) y z)] w (RedP (some (z, [111, 116, 104, 101, 114])) w) := by
  have KR := fun W => rules_c W
  have K0 := fun W => putLet_no (.sel (.num k) y z) W rfl
  have K1 := fun W => putArg_no1 (.sel (.num k) y z) W rfl
  have K2 := fun W => putSelf_no1 (.sel (.num k) y z) W rfl
  have K3 := fun W => ifZero_no3 k y z W hk
  have K4 := fun W => ifOther_yes k y z W hk
  unfold RedP
  simp only
  unfold RuleYes at K4
  obtain ⟨rn, rv, hr⟩ := enc_gen (z)
  rw [hr]
  simp only [hr] at K4
  clear hr
  generalize hq : enc (.sel (.num k) y z) = Q at *
  obtain ⟨qn, qv, rfl⟩ : ∃ n v, Q = .iface n v := by rw [← hq]; exact enc_gen _
  clear hq
  have x0 := fun W => rule_ix0 W
  have x1 := fun W => rule_ix1 W
  have x2 := fun W => rule_ix2 W
  have x3 := fun W => rule_ix3 W
  have x4 := fun W => rule_ix4 W
  go_enter Tryz.func58, Tryz.ntmps58
  go_wp2_with (go_at_call 80; refine (KR _).mono ?_; clear KR; rintro e w1 ⟨rfl, HB⟩; unfold rulesV)
  refine wp_loop_rounds 5 ?_
  rw [rounds_succ]
  go_wp2_with (go_at_call 107; refine (K0 _).mono ?_; clear K0; rintro e wn ⟨X, _, rfl, hb⟩; replace HB := (HB.alloc HB.size _).trans (hb.mono (HB.alloc HB.size _).size); clear hb)
  rw [rounds_succ]
  go_wp2_with (go_at_call 108; refine (K1 _).mono ?_; clear K1; rintro e wn ⟨X, _, rfl, hb⟩; replace HB := (HB.alloc HB.size _).trans (hb.mono (HB.alloc HB.size _).size); clear hb)
  rw [rounds_succ]
  go_wp2_with (go_at_call 109; refine (K2 _).mono ?_; clear K2; rintro e wn ⟨X, _, rfl, hb⟩; replace HB := (HB.alloc HB.size _).trans (hb.mono (HB.alloc HB.size _).size); clear hb)
  rw [rounds_succ]
  go_wp2_with (go_at_call 110; refine (K3 _).mono ?_; clear K3; rintro e wn ⟨X, _, rfl, hb⟩; replace HB := (HB.alloc HB.size _).trans (hb.mono (HB.alloc HB.size _).size); clear hb)
  rw [rounds_succ]
  go_wp2_with (go_at_call 111; refine (K4 _).mono ?_; clear K4; rintro e wn ⟨rfl, hb⟩; (obtain ⟨k0, k1⟩ := rule_box hb); replace HB := (HB.alloc HB.size _).trans (hb.mono (HB.alloc HB.size _).size); clear hb)
  go_region
  all_goals go_wp2_with fail
  all_goals refine bodyPost_ret (v := .tuple #[.iface rn rv, .string ⟨#[111, 116, 104, 101, 114]⟩, .bool true]) (by simp [results, Tryz.results58, go_sem]) rfl ?_
  all_goals exact ⟨rfl, by first | exact HB | exact HB.drew⟩

set_option maxRecDepth 100000 in
set_option maxHeartbeats 4000000 in
theorem reduced_stuckSel (x y z : Tm) (w : World) (h : isNum x = false) :
    Calls Tryz.prog 58 #[enc (.sel x y z)] w (RedP (none) w) := by
  have KR := fun W => rules_c W
  have K0 := fun W => putLet_no (.sel x y z) W rfl
  have K1 := fun W => putArg_no1 (.sel x y z) W rfl
  have K2 := fun W => putSelf_no1 (.sel x y z) W rfl
  have K3 := fun W => ifZero_no2 x y z W h
  have K4 := fun W => ifOther_no2 x y z W h
  have K5 := fun W => calc_no1 (.sel x y z) W rfl
  unfold RedP
  simp only
  generalize hq : enc (.sel x y z) = Q at *
  obtain ⟨qn, qv, rfl⟩ : ∃ n v, Q = .iface n v := by rw [← hq]; exact enc_gen _
  clear hq
  have x0 := fun W => rule_ix0 W
  have x1 := fun W => rule_ix1 W
  have x2 := fun W => rule_ix2 W
  have x3 := fun W => rule_ix3 W
  have x4 := fun W => rule_ix4 W
  have x5 := fun W => rule_ix5 W
  go_enter Tryz.func58, Tryz.ntmps58
  go_wp2_with (go_at_call 80; refine (KR _).mono ?_; clear KR; rintro e w1 ⟨rfl, HB⟩; unfold rulesV)
  refine wp_loop_rounds 7 ?_
  rw [rounds_succ]
  go_wp2_with (go_at_call 107; refine (K0 _).mono ?_; clear K0; rintro e wn ⟨X, _, rfl, hb⟩; replace HB := (HB.alloc HB.size _).trans (hb.mono (HB.alloc HB.size _).size); clear hb)
  rw [rounds_succ]
  go_wp2_with (go_at_call 108; refine (K1 _).mono ?_; clear K1; rintro e wn ⟨X, _, rfl, hb⟩; replace HB := (HB.alloc HB.size _).trans (hb.mono (HB.alloc HB.size _).size); clear hb)
  rw [rounds_succ]
  go_wp2_with (go_at_call 109; refine (K2 _).mono ?_; clear K2; rintro e wn ⟨X, _, rfl, hb⟩; replace HB := (HB.alloc HB.size _).trans (hb.mono (HB.alloc HB.size _).size); clear hb)
  rw [rounds_succ]
  go_wp2_with (go_at_call 110; refine (K3 _).mono ?_; clear K3; rintro e wn ⟨X, _, rfl, hb⟩; replace HB := (HB.alloc HB.size _).trans (hb.mono (HB.alloc HB.size _).size); clear hb)
  rw [rounds_succ]
  go_wp2_with (go_at_call 111; refine (K4 _).mono ?_; clear K4; rintro e wn ⟨X, _, rfl, hb⟩; replace HB := (HB.alloc HB.size _).trans (hb.mono (HB.alloc HB.size _).size); clear hb)
  rw [rounds_succ]
  go_wp2_with (go_at_call 112; refine (K5 _).mono ?_; clear K5; rintro e wn ⟨X, _, rfl, hb⟩; replace HB := (HB.alloc HB.size _).trans (hb.mono (HB.alloc HB.size _).size); clear hb)
  rw [rounds_succ]
  go_wp2_with fail
  refine bodyPost_ret (v := .tuple #[.nilIface, .string ⟨#[]⟩, .bool false]) (by simp [results, Tryz.results58, go_sem]) rfl ?_
  exact ⟨rfl, HB⟩

set_option maxRecDepth 100000 in
set_option maxHeartbeats 4000000 in
theorem reduced_number (o : UInt8) (a b : Nat) (w : World) (ho : o.toNat = 43 ∨ o.toNat = 45 ∨ o.toNat = 42) (ha : a ≤ 99) (hb : b ≤ 99) :
    Calls Tryz.prog 58 #[enc (.op o (.num a) (.num b))] w (RedP (some (.num (calN o a b), [110, 117, 109, 98, 101, 114])) w) := by
  have KR := fun W => rules_c W
  have K0 := fun W => putLet_no (.op o (.num a) (.num b)) W rfl
  have K1 := fun W => putArg_no1 (.op o (.num a) (.num b)) W rfl
  have K2 := fun W => putSelf_no1 (.op o (.num a) (.num b)) W rfl
  have K3 := fun W => ifZero_no1 (.op o (.num a) (.num b)) W rfl
  have K4 := fun W => ifOther_no1 (.op o (.num a) (.num b)) W rfl
  have K5 := fun W => calc_yes o a b W ho ha hb
  unfold RedP
  simp only
  unfold RuleYes at K5
  obtain ⟨rn, rv, hr⟩ := enc_gen (.num (calN o a b))
  rw [hr]
  simp only [hr] at K5
  clear hr
  generalize hq : enc (.op o (.num a) (.num b)) = Q at *
  obtain ⟨qn, qv, rfl⟩ : ∃ n v, Q = .iface n v := by rw [← hq]; exact enc_gen _
  clear hq
  have x0 := fun W => rule_ix0 W
  have x1 := fun W => rule_ix1 W
  have x2 := fun W => rule_ix2 W
  have x3 := fun W => rule_ix3 W
  have x4 := fun W => rule_ix4 W
  have x5 := fun W => rule_ix5 W
  go_enter Tryz.func58, Tryz.ntmps58
  go_wp2_with (go_at_call 80; refine (KR _).mono ?_; clear KR; rintro e w1 ⟨rfl, HB⟩; unfold rulesV)
  refine wp_loop_rounds 6 ?_
  rw [rounds_succ]
  go_wp2_with (go_at_call 107; refine (K0 _).mono ?_; clear K0; rintro e wn ⟨X, _, rfl, hb⟩; replace HB := (HB.alloc HB.size _).trans (hb.mono (HB.alloc HB.size _).size); clear hb)
  rw [rounds_succ]
  go_wp2_with (go_at_call 108; refine (K1 _).mono ?_; clear K1; rintro e wn ⟨X, _, rfl, hb⟩; replace HB := (HB.alloc HB.size _).trans (hb.mono (HB.alloc HB.size _).size); clear hb)
  rw [rounds_succ]
  go_wp2_with (go_at_call 109; refine (K2 _).mono ?_; clear K2; rintro e wn ⟨X, _, rfl, hb⟩; replace HB := (HB.alloc HB.size _).trans (hb.mono (HB.alloc HB.size _).size); clear hb)
  rw [rounds_succ]
  go_wp2_with (go_at_call 110; refine (K3 _).mono ?_; clear K3; rintro e wn ⟨X, _, rfl, hb⟩; replace HB := (HB.alloc HB.size _).trans (hb.mono (HB.alloc HB.size _).size); clear hb)
  rw [rounds_succ]
  go_wp2_with (go_at_call 111; refine (K4 _).mono ?_; clear K4; rintro e wn ⟨X, _, rfl, hb⟩; replace HB := (HB.alloc HB.size _).trans (hb.mono (HB.alloc HB.size _).size); clear hb)
  rw [rounds_succ]
  go_wp2_with (go_at_call 112; refine (K5 _).mono ?_; clear K5; rintro e wn ⟨rfl, hb⟩; (obtain ⟨k0, k1⟩ := rule_box hb); replace HB := (HB.alloc HB.size _).trans (hb.mono (HB.alloc HB.size _).size); clear hb)
  go_region
  all_goals go_wp2_with fail
  all_goals refine bodyPost_ret (v := .tuple #[.iface rn rv, .string ⟨#[110, 117, 109, 98, 101, 114]⟩, .bool true]) (by simp [results, Tryz.results58, go_sem]) rfl ?_
  all_goals exact ⟨rfl, by first | exact HB | exact HB.drew⟩

set_option maxRecDepth 100000 in
set_option maxHeartbeats 4000000 in
theorem reduced_stuckOp (o : UInt8) (l r : Tm) (w : World) (h : (isNum l && isNum r) = false) :
    Calls Tryz.prog 58 #[enc (.op o l r)] w (RedP (none) w) := by
  have KR := fun W => rules_c W
  have K0 := fun W => putLet_no (.op o l r) W rfl
  have K1 := fun W => putArg_no1 (.op o l r) W rfl
  have K2 := fun W => putSelf_no1 (.op o l r) W rfl
  have K3 := fun W => ifZero_no1 (.op o l r) W rfl
  have K4 := fun W => ifOther_no1 (.op o l r) W rfl
  have K5 := fun W => calc_no2 o l r W h
  unfold RedP
  simp only
  generalize hq : enc (.op o l r) = Q at *
  obtain ⟨qn, qv, rfl⟩ : ∃ n v, Q = .iface n v := by rw [← hq]; exact enc_gen _
  clear hq
  have x0 := fun W => rule_ix0 W
  have x1 := fun W => rule_ix1 W
  have x2 := fun W => rule_ix2 W
  have x3 := fun W => rule_ix3 W
  have x4 := fun W => rule_ix4 W
  have x5 := fun W => rule_ix5 W
  go_enter Tryz.func58, Tryz.ntmps58
  go_wp2_with (go_at_call 80; refine (KR _).mono ?_; clear KR; rintro e w1 ⟨rfl, HB⟩; unfold rulesV)
  refine wp_loop_rounds 7 ?_
  rw [rounds_succ]
  go_wp2_with (go_at_call 107; refine (K0 _).mono ?_; clear K0; rintro e wn ⟨X, _, rfl, hb⟩; replace HB := (HB.alloc HB.size _).trans (hb.mono (HB.alloc HB.size _).size); clear hb)
  rw [rounds_succ]
  go_wp2_with (go_at_call 108; refine (K1 _).mono ?_; clear K1; rintro e wn ⟨X, _, rfl, hb⟩; replace HB := (HB.alloc HB.size _).trans (hb.mono (HB.alloc HB.size _).size); clear hb)
  rw [rounds_succ]
  go_wp2_with (go_at_call 109; refine (K2 _).mono ?_; clear K2; rintro e wn ⟨X, _, rfl, hb⟩; replace HB := (HB.alloc HB.size _).trans (hb.mono (HB.alloc HB.size _).size); clear hb)
  rw [rounds_succ]
  go_wp2_with (go_at_call 110; refine (K3 _).mono ?_; clear K3; rintro e wn ⟨X, _, rfl, hb⟩; replace HB := (HB.alloc HB.size _).trans (hb.mono (HB.alloc HB.size _).size); clear hb)
  rw [rounds_succ]
  go_wp2_with (go_at_call 111; refine (K4 _).mono ?_; clear K4; rintro e wn ⟨X, _, rfl, hb⟩; replace HB := (HB.alloc HB.size _).trans (hb.mono (HB.alloc HB.size _).size); clear hb)
  rw [rounds_succ]
  go_wp2_with (go_at_call 112; refine (K5 _).mono ?_; clear K5; rintro e wn ⟨X, _, rfl, hb⟩; replace HB := (HB.alloc HB.size _).trans (hb.mono (HB.alloc HB.size _).size); clear hb)
  rw [rounds_succ]
  go_wp2_with fail
  refine bodyPost_ret (v := .tuple #[.nilIface, .string ⟨#[]⟩, .bool false]) (by simp [results, Tryz.results58, go_sem]) rfl ?_
  exact ⟨rfl, HB⟩

end Go.Proofs.YtefmmgccdpfnaaaGreatDoor
