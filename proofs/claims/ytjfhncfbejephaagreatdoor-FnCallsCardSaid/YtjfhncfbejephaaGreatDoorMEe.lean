import Derived.Test.YtjfhncfbejephaaGreatDoorProg
import Derived.WalkKit
import Derived.LaidEql
import Derived.Stop.Asserts
import Derived.RowKitTokens
import Derived.Test.YtjfhncfbejephaaGreatDoorMEd
import Derived.Recover
/- errors.As at the target of a variable of type overrun: an overrun is one, a fault is none. After the kit's worked example for a target that is a pointer type. -/
namespace Go.Proofs.YtjfhncfbejephaaGreatDoor
open Go.RowKit Go.Extern.Stop Go.Stop Go.Extern
set_option linter.unusedVariables false

/-! Closed facts on the model's entries, at this program's types. -/
theorem As.valueOfP (t : Addr) (w : World) : (ReflectliteValue.unpack (.iface 132 (.pointer (some t)))).run Tryz.prog w
    = .ok (.agg #[.pointer (some ⟨4, 132, none⟩), .pointer (some ⟨w.heap.size, 0, none⟩), .int .u64 150]) (w.alloc (.cells #[.pointer (some t)] 132)) := by kernel_rfl
theorem As.typeP (a : Addr) (w : World) : (ReflectliteValue.methodAny (ReflectliteValue.valueError "reflectlite.Value.Type" 0) (fun t _ _ _ => ReflectliteType.toType t) #[.agg #[.pointer (some ⟨4, 132, none⟩), .pointer (some a), .int .u64 150]]).run Tryz.prog w
    = .ok (.iface 196 (.agg #[.pointer (some ⟨4, 132, none⟩)])) w := by kernel_rfl
theorem As.methodKind (h : Value) (w : World) : (Go.method 359 196 (.agg #[h]) "Kind").run Tryz.prog w = .ok (120, h) w := by kernel_rfl
theorem As.kindP (w : World) : ((ReflectliteType.abiMethod fun t => (fun a : Nat => Value.int IntKind.u8 (a : Int)) <$> Rtype.kind t) #[.pointer (some ⟨4, 132, none⟩)]).run Tryz.prog w = .ok (.int .u8 22) w := by kernel_rfl
theorem As.kindT (w : World) : ((ReflectliteType.abiMethod fun t => (fun a : Nat => Value.int IntKind.u8 (a : Int)) <$> Rtype.kind t) #[.pointer (some ⟨4, 127, none⟩)]).run Tryz.prog w = .ok (.int .u8 25) w := by kernel_rfl
theorem rlm (z : Sem Value) (f : TypeId → Addr → Nat → Nat → Sem Value) (v : Value) :
    ReflectliteValue.method z f #[v] = (do match ← ReflectliteValue.parts v with | none => z | some (t, a, fl) => f t a fl (fl % 32)) := rfl
theorem As.partsP (a : Addr) (w : World) : (ReflectliteValue.parts (.agg #[.pointer (some ⟨4, 132, none⟩), .pointer (some a), .int .u64 150])).run Tryz.prog w = .ok (some (132, a, 150)) w := by kernel_rfl
theorem As.isNilP (a p : Addr) (W : World) (ha : W.cell? a = some (.pointer (some p))) :
    (ReflectliteValue.method (ReflectliteValue.valueError "reflectlite.Value.IsNil" 0) ReflectliteValue.isNil #[.agg #[.pointer (some ⟨4, 132, none⟩), .pointer (some a), .int .u64 150]]).run Tryz.prog W = .ok (.bool false) W := by
  rw [rlm]
  simp only [Sem.run_bind, As.partsP, Result.andThen]
  simp [ReflectliteValue.isNil, loadVar, isAgg, underlying, Tryz.underlying132, ha, Result.andThen]
theorem As.methodElem (h : Value) (w : World) : (Go.method 359 196 (.agg #[h]) "Elem").run Tryz.prog w = .ok (163, .agg #[h]) w := by kernel_rfl
theorem As.methodImplements (h : Value) (w : World) : (Go.method 359 196 (.agg #[h]) "Implements").run Tryz.prog w = .ok (164, .agg #[h]) w := by kernel_rfl
theorem As.methodAssignableTo (h : Value) (w : World) : (Go.method 359 196 (.agg #[h]) "AssignableTo").run Tryz.prog w = .ok (161, .agg #[h]) w := by kernel_rfl
theorem As.elemP (w : World) : (ReflectliteType.method ReflectliteType.elem #[.agg #[.pointer (some ⟨4, 132, none⟩)]]).run Tryz.prog w = .ok (.iface 196 (.agg #[.pointer (some ⟨4, 127, none⟩)])) w := by kernel_rfl
theorem As.implementsT (w : World) : (ReflectliteType.relation "Implements" ReflectliteType.implements_ #[.agg #[.pointer (some ⟨4, 127, none⟩)], .iface 196 (.agg #[.pointer (some ⟨4, 129, none⟩)])]).run Tryz.prog w = .ok (.bool true) w := by kernel_rfl
theorem As.typeOfT (v : Value) (w : World) : (ReflectliteType.typeOf #[.iface 127 v]).run Tryz.prog w = .ok (.iface 196 (.agg #[.pointer (some ⟨4, 127, none⟩)])) w := by kernel_rfl
theorem As.typeOfF (v : Value) (w : World) : (ReflectliteType.typeOf #[.iface 184 v]).run Tryz.prog w = .ok (.iface 196 (.agg #[.pointer (some ⟨4, 184, none⟩)])) w := by kernel_rfl
theorem As.assignableT (w : World) : (ReflectliteType.relation "AssignableTo" ReflectliteType.assignableTo #[.agg #[.pointer (some ⟨4, 127, none⟩)], .iface 196 (.agg #[.pointer (some ⟨4, 127, none⟩)])]).run Tryz.prog w = .ok (.bool true) w := by kernel_rfl
theorem As.assignableF (w : World) : (ReflectliteType.relation "AssignableTo" ReflectliteType.assignableTo #[.agg #[.pointer (some ⟨4, 184, none⟩)], .iface 196 (.agg #[.pointer (some ⟨4, 127, none⟩)])]).run Tryz.prog w = .ok (.bool false) w := by kernel_rfl
theorem As.valueOfT (w : World) : (ReflectliteValue.unpack (.iface 127 (.agg #[]))).run Tryz.prog w
    = .ok (.agg #[.pointer (some ⟨4, 127, none⟩), .pointer (some ⟨w.heap.size, 0, none⟩), .int .u64 153]) (w.alloc (.cells #[] 127)) := by kernel_rfl
theorem As.elemOfP (w : World) : (Rtype.elem? 132).run Tryz.prog w = .ok (some 127) w := by kernel_rfl
theorem As.mkT (p : Addr) (w : World) : (ReflectliteValue.mk 127 p ReflectliteValue.flagAddr).run Tryz.prog w = .ok (.agg #[.pointer (some ⟨4, 127, none⟩), .pointer (some p), .int .u64 409]) w := by kernel_rfl
theorem As.elemVP (a p : Addr) (W : World) (ha : W.cell? a = some (.pointer (some p))) :
    (ReflectliteValue.method (ReflectliteValue.valueError "reflectlite.Value.Elem" 0) ReflectliteValue.elem #[.agg #[.pointer (some ⟨4, 132, none⟩), .pointer (some a), .int .u64 150]]).run Tryz.prog W
      = .ok (.agg #[.pointer (some ⟨4, 127, none⟩), .pointer (some p), .int .u64 409]) W := by
  rw [rlm]
  simp only [Sem.run_bind, As.partsP, Result.andThen]
  simp [ReflectliteValue.elem, loadVar, isAgg, underlying, Tryz.underlying132, ha, Result.andThen, As.elemOfP, As.mkT]
theorem As.setT (p b : Addr) (W : World) : (ReflectliteValue.set #[.agg #[.pointer (some ⟨4, 127, none⟩), .pointer (some p), .int .u64 409], .agg #[.pointer (some ⟨4, 127, none⟩), .pointer (some b), .int .u64 153]]).run Tryz.prog W
      = .ok (.tuple #[]) W := by kernel_rfl
theorem As.noAs (v : Value) (xT : TypeId) (w : World) : (Instr.typeAssert (.iface 184 v) xT 201 true).run Tryz.prog w = .ok (.tuple #[.nilIface, .bool false]) w := run_typeAssert_lacksB Tryz.underlying201 (by kernel_rfl) (by kernel_rfl) v xT w
theorem As.noUnwrap (v : Value) (xT : TypeId) (w : World) : (Instr.typeAssert (.iface 184 v) xT 204 true).run Tryz.prog w = .ok (.tuple #[.nilIface, .bool false]) w := run_typeAssert_lacksB Tryz.underlying204 (by kernel_rfl) (by kernel_rfl) v xT w
theorem As.noUnwraps (v : Value) (xT : TypeId) (w : World) : (Instr.typeAssert (.iface 184 v) xT 206 true).run Tryz.prog w = .ok (.tuple #[.nilIface, .bool false]) w := run_typeAssert_lacksB Tryz.underlying206 (by kernel_rfl) (by kernel_rfl) v xT w
theorem As.isErr (u : TypeId) (hu : u = 184 ∨ u = 127) (v : Value) (xT : TypeId) (w : World) : (Instr.typeAssert (.iface u v) xT 129 true).run Tryz.prog w = .ok (.tuple #[.iface u v, .bool true]) w := by
  rcases hu with rfl | rfl
  · exact run_typeAssert_hasB Tryz.underlying129 (by kernel_rfl) v xT w
  · exact run_typeAssert_hasB Tryz.underlying129 (by kernel_rfl) v xT w
/-- The variable errors.errorType holds the handle of the type error. -/
abbrev ErrT (w : World) : Prop := w.cell? ⟨0, 0, none⟩ = some (.iface 196 (.agg #[.pointer (some ⟨4, 129, none⟩)]))
theorem ErrT.pos {w : World} (hg : ErrT w) : 0 < w.heap.size := by
  rcases Nat.eq_zero_or_pos w.heap.size with h0 | h
  · unfold ErrT at hg; simp [World.cell?, h0] at hg
  · exact h
set_option maxHeartbeats 4000000 in
theorem as_c (u : TypeId) (hu : u = 184 ∨ u = 127) (t : Addr) (w : World) (hg : ErrT w) :
    Calls Tryz.prog 55 #[.iface u (.agg #[]), .iface 132 (.pointer (some t))] w fun ev w' => ev = .returned (.bool (u == 127)) ∧ Below w.heap.size w w' := by
  have h6 := @run_callFunc_extern Tryz.prog 84 _ (fun args => ReflectliteValue.unpack (args.getD 0 (.tuple #[]))) Tryz.func84 (by kernel_rfl) (by kernel_rfl) (by kernel_rfl) (by kernel_rfl)
  have h7 := @run_callFunc_extern Tryz.prog 85 _ (ReflectliteValue.methodAny (ReflectliteValue.valueError "reflectlite.Value.Type" 0) (fun t _ _ _ => ReflectliteType.toType t)) Tryz.func85 (by kernel_rfl) (by kernel_rfl) (by kernel_rfl) (by kernel_rfl)
  have h8 := @run_callFunc_extern Tryz.prog 86 _ (ReflectliteValue.method (ReflectliteValue.valueError "reflectlite.Value.IsNil" 0) ReflectliteValue.isNil) Tryz.func86 (by kernel_rfl) (by kernel_rfl) (by kernel_rfl) (by kernel_rfl)
  have h27 := @run_callFunc_extern Tryz.prog 120 _ (ReflectliteType.abiMethod fun t => do pure (.int .u8 (← Rtype.kind t))) Tryz.func120 (by kernel_rfl) (by kernel_rfl) (by kernel_rfl) (by kernel_rfl)
  have h37 := @run_callFunc_extern Tryz.prog 163 _ (ReflectliteType.method ReflectliteType.elem) Tryz.func163 (by kernel_rfl) (by kernel_rfl) (by kernel_rfl) (by kernel_rfl)
  have h38 := @run_callFunc_extern Tryz.prog 164 _ (ReflectliteType.relation "Implements" ReflectliteType.implements_) Tryz.func164 (by kernel_rfl) (by kernel_rfl) (by kernel_rfl) (by kernel_rfl)
  have h10 := @run_callFunc_extern Tryz.prog 94 _ ReflectliteType.typeOf Tryz.func94 (by kernel_rfl) (by kernel_rfl) (by kernel_rfl) (by kernel_rfl)
  have h35 := @run_callFunc_extern Tryz.prog 161 _ (ReflectliteType.relation "AssignableTo" ReflectliteType.assignableTo) Tryz.func161 (by kernel_rfl) (by kernel_rfl) (by kernel_rfl) (by kernel_rfl)
  have h11 := @run_callFunc_extern Tryz.prog 95 _ (ReflectliteValue.method (ReflectliteValue.valueError "reflectlite.Value.Elem" 0) ReflectliteValue.elem) Tryz.func95 (by kernel_rfl) (by kernel_rfl) (by kernel_rfl) (by kernel_rfl)
  have h12 := @run_callFunc_extern Tryz.prog 96 _ ReflectliteValue.set Tryz.func96 (by kernel_rfl) (by kernel_rfl) (by kernel_rfl) (by kernel_rfl)
  have tO := As.typeOfT
  have tF := As.typeOfF
  have mA := As.methodAssignableTo
  have aT := As.assignableT
  have aF := As.assignableF
  have vT := As.valueOfT
  have f6 := As.valueOfP
  have f7 := As.typeP
  have mK := As.methodKind
  have mE := As.methodElem
  have mI := As.methodImplements
  have kP := As.kindP
  have kT := As.kindT
  have eP := As.elemP
  have iT := As.implementsT
  have n1 := As.noAs
  have n2 := As.noUnwrap
  have n3 := As.noUnwraps
  have st := As.setT
  have n8 := As.isNilP ⟨w.heap.size, 0, none⟩ t ((w.alloc (.cells #[.pointer (some t)] 132)).alloc (.cells #[.pointer (some ⟨4, 132, none⟩), .pointer (some ⟨w.heap.size, 0, none⟩), .int .u64 150] 167)) (by simp)
  have hlt := hg.pos
  have hg2 : ((w.alloc (.cells #[.pointer (some t)] 132)).alloc (.cells #[.pointer (some ⟨4, 132, none⟩), .pointer (some ⟨w.heap.size, 0, none⟩), .int .u64 150] 167)).cell? ⟨0, 0, none⟩ = some (.iface 196 (.agg #[.pointer (some ⟨4, 129, none⟩)])) := by
    rw [World.cell?_alloc_lt _ _ ⟨0, 0, none⟩ (by simp), World.cell?_alloc_lt _ _ ⟨0, 0, none⟩ hlt]; exact hg
  have el := As.elemVP ⟨w.heap.size, 0, none⟩ t (((w.alloc (.cells #[.pointer (some t)] 132)).alloc (.cells #[.pointer (some ⟨4, 132, none⟩), .pointer (some ⟨w.heap.size, 0, none⟩), .int .u64 150] 167)).alloc (.cells #[.pointer (some ⟨4, 132, none⟩), .pointer (some ⟨w.heap.size, 0, none⟩), .int .u64 150] 167)) (by rw [World.cell?_alloc_lt _ _ ⟨w.heap.size, 0, none⟩ (by simp; omega)]; simp)
  rcases hu with rfl | rfl
  · go_enter Tryz.func55, Tryz.ntmps55
    go_wp2
    refine wp_loop_rounds 1 ?_
    rw [rounds_succ]
    go_wp2
    go_ret
    exact ⟨rfl, (((Below.refl _ w).alloc (Nat.le_refl _) _).alloc (by simp) _).alloc (by simp; omega) _⟩
  · go_enter Tryz.func55, Tryz.ntmps55
    go_wp2
    refine wp_loop_rounds 1 ?_
    rw [rounds_succ]
    go_wp2
    go_ret
    exact ⟨rfl, ((((Below.refl _ w).alloc (Nat.le_refl _) _).alloc (by simp) _).alloc (by simp; omega) _).alloc (by simp; omega) _⟩
end Go.Proofs.YtjfhncfbejephaaGreatDoor

/- The program's run: what evaluates, with panics that are recovered. -/
namespace Go.Proofs.YtjfhncfbejephaaGreatDoor
open Go.RowKit Go.Shelf
open Ff
set_option linter.unusedVariables false
attribute [local irreducible] Calls
attribute [local go_sem] storeIF

set_option maxHeartbeats 2000000 in
theorem endOf_c (u : TypeId) (hu : u = 184 ∨ u = 127) (w : World) (hg : ErrT w) :
    Calls Tryz.prog 40 #[.iface u (.agg #[])] w fun e w' => e = .returned (.int .i64 (if u = 127 then 2 else 1)) ∧ Below w.heap.size w w' := by
  have ie := As.isErr u hu
  have hb := (Below.refl _ w).alloc (Nat.le_refl _) (.cells #[] 127)
  have hg2 : ErrT (w.alloc (.cells #[] 127)) := (World.cell?_alloc_lt _ _ ⟨0, 0, none⟩ hg.pos).trans hg
  have C := as_c u hu ⟨w.heap.size, 0, none⟩ _ hg2
  rcases hu with rfl | rfl
  · go_enter Tryz.func40, Tryz.ntmps40
    go_wp2_with fail
    refine C.mono ?_
    rintro e w' ⟨rfl, hb2⟩
    go_wp2_with fail
    go_ret
    exact ⟨rfl, hb.trans (hb2.mono hb.size)⟩
  · go_enter Tryz.func40, Tryz.ntmps40
    go_wp2_with fail
    refine C.mono ?_
    rintro e w' ⟨rfl, hb2⟩
    go_wp2_with fail
    go_ret
    exact ⟨rfl, hb.trans (hb2.mono hb.size)⟩
def isF : Vl → Bool
  | .num _ => false
  | .clo _ _ _ => true
def valN : Vl → Nat
  | .num n => n
  | .clo _ _ _ => 0
/-- A result. -/
abbrev rV (e : Int) (b : Bool) (v : Int) : Value := .agg #[.int .i64 e, .bool b, .int .i64 v]
set_option maxHeartbeats 2000000 in
theorem resultOf_c (r : Nat) (S : Nat → Prop) (v : Vl) (x : Value) (w : World) (h : RepV r S w v x) :
    Calls Tryz.prog 41 #[x] w fun e w' => e = .returned (rV 0 (isF v) (valN v : Nat)) ∧ Below w.heap.size w w' := by
  cases h with
  | num n =>
    go_enter Tryz.func41, Tryz.ntmps41
    go_wp2_with fail
    go_region
    all_goals go_wp2_with fail
    all_goals refine bodyPost_ret (v := rV 0 false (n : Nat)) (by simp [results, Tryz.results41, go_sem]) rfl ⟨rfl, ?_⟩
    all_goals exact (((Below.refl _ w).alloc (Nat.le_refl _) _).alloc (by simp) _).drew
  | clo i t e b br bp be bx pl ee e0 hb c1 hbr cr hbp cp hp hbe ce hbx cx hee he =>
    go_enter Tryz.func41, Tryz.ntmps41
    go_wp2_with fail
    go_region
    all_goals go_wp2_with fail
    all_goals refine bodyPost_ret (v := rV 0 true 0) (by simp [results, Tryz.results41, go_sem]) rfl ⟨rfl, ?_⟩
    all_goals exact (((Below.refl _ w).alloc (Nat.le_refl _) _).alloc (by simp) _).drew
theorem three_of {w : World} {b : Nat} {z0 z1 z2 : Value} {t : TypeId} (h : w.heap[b]? = some (.cells #[z0, z1, z2] t (0, 0))) : w.cell? ⟨b, 0, none⟩ = some z0 ∧ w.cell? ⟨b, 1, none⟩ = some z1 ∧ w.cell? ⟨b, 2, none⟩ = some z2 ∧ w.frozen? ⟨b, 0, none⟩ = false ∧ w.frozen? ⟨b, 1, none⟩ = false ∧ w.frozen? ⟨b, 2, none⟩ = false := by
  refine ⟨?_, ?_, ?_, ?_, ?_, ?_⟩ <;> simp [World.cell?, World.frozen?, h]
theorem set_three {w : World} {B : Nat} {z0 z1 z2 u0 u1 u2 : Value} (h0 : w.cell? ⟨B, 0, none⟩ = some z0) (h1 : w.cell? ⟨B, 1, none⟩ = some z1) (h2 : w.cell? ⟨B, 2, none⟩ = some z2) :
    (((w.setCell ⟨B, 0, none⟩ u0).setCell ⟨B, 1, none⟩ u1).setCell ⟨B, 2, none⟩ u2).cell? ⟨B, 0, none⟩ = some u0 ∧ (((w.setCell ⟨B, 0, none⟩ u0).setCell ⟨B, 1, none⟩ u1).setCell ⟨B, 2, none⟩ u2).cell? ⟨B, 1, none⟩ = some u1 ∧ (((w.setCell ⟨B, 0, none⟩ u0).setCell ⟨B, 1, none⟩ u1).setCell ⟨B, 2, none⟩ u2).cell? ⟨B, 2, none⟩ = some u2 := by
  refine ⟨?_, ?_, ?_⟩ <;> simp [go_sem, h0, h1, h2]
theorem run_catch (b : Nat) (u : TypeId) (hu : u = 184 ∨ u = 127) (w : World) (hg : ErrT w) (z0 z1 z2 : Value) (hz : w.heap[b]? = some (.cells #[z0, z1, z2] 74 (0, 0))) :
    CallsD Tryz.prog 39 #[ptr b] (.panicking ({ v := .iface u (.agg #[]), recovered := false } :: [])) w fun e u' w' =>
      e = .returned (.tuple #[]) ∧ u' = .panicking ({ v := .iface u (.agg #[]), recovered := true } :: []) ∧ ∃ w2, Below w.heap.size w w2 ∧ w' = ((w2.setCell ⟨b, 0, none⟩ (.int .i64 (if u = 127 then 2 else 1))).setCell ⟨b, 1, none⟩ (.bool false)).setCell ⟨b, 2, none⟩ (.int .i64 0) := by
  have C := endOf_c u hu w hg
  generalize (if u = 127 then (2 : Int) else 1) = m at C ⊢
  have hbl : b < w.heap.size := (Array.getElem?_eq_some_iff.1 hz).1
  refine callsD_of_wpS Tryz.func39 rfl fun c₀ cs hu => ?_
  apply wpS_seq
  apply wpS_region
  simp [wpOpsS, go_sem, recoverD, hu, Tryz.ntmps39, Exit.thenS]
  refine wpS_of_wp ?_
  simp only [Array.replicate_succ, Array.replicate_zero, List.push_toArray, List.append_toArray, List.nil_append, List.cons_append, List.setIfInBounds_toArray, List.set_cons_zero, List.set_cons_succ]
  go_wp2_with fail
  refine C.mono ?_
  rintro e w2 ⟨rfl, hb2⟩
  obtain ⟨t0, t1, t2, t3, t4, t5⟩ := three_of ((hb2.block b hbl).trans hz)
  go_wp2_with fail
  exact ⟨rfl, _, rfl, .tuple #[], results_none rfl _ _ _, rfl, rfl, w2, hb2, rfl⟩
theorem run_idle (p : Addr) (w : World) :
    CallsD Tryz.prog 39 #[.pointer (some p)] .returning w fun e u' w' => e = .returned (.tuple #[]) ∧ u' = .returning ∧ w' = w := by
  refine callsD_of_wpS Tryz.func39 rfl fun c₀ cs hu => ?_
  apply wpS_seq
  apply wpS_region
  simp [wpOpsS, go_sem, recoverD, hu, Tryz.ntmps39, Exit.thenS]
  refine wpS_of_wp ?_
  simp only [Array.replicate_succ, Array.replicate_zero, List.push_toArray, List.append_toArray, List.nil_append, List.cons_append, List.setIfInBounds_toArray, List.set_cons_zero, List.set_cons_succ]
  go_wp2_with fail
  cases c₀
  simp_all [bodyPostS, results, Tryz.results39]
def resO : Ou → Value
  | .ok v _ => rV 0 (isF v) (valN v : Nat)
  | .fault => rV 1 false 0
  | .long => rV 2 false 0
/-- What a run leaves. -/
def RunP (r : Nat) (cv : Rw) (w : World) (o : Ou) (e : Ending) (w' : World) : Prop := e = .returned (resO o) ∧ ∃ cv' s', RunAt NoX r cv' w' s' ∧ Kep r cv w cv' w' ∧ ∀ v s2, o = .ok v s2 → s' = s2
theorem set3 {r b : Nat} {cv cv' : Rw} {w w3 : World} {s0 s' : St} (hR : RunAt NoX r cv w s0) (hb : w.heap.size ≤ b) (hR3 : RunAt NoX r cv' w3 s') (K3 : Kep r cv w cv' w3) (hbo : ¬ cv'.own b) (u0 u1 u2 : Value) :
    RunAt NoX r cv' (((w3.setCell ⟨b, 0, none⟩ u0).setCell ⟨b, 1, none⟩ u1).setCell ⟨b, 2, none⟩ u2) s' ∧ Kep r cv w cv' (((w3.setCell ⟨b, 0, none⟩ u0).setCell ⟨b, 1, none⟩ u1).setCell ⟨b, 2, none⟩ u2) := by
  have hr := hR.lt
  have st : ∀ (W : World) (k : Nat) (u : Value), RunAt NoX r cv' W s' → RunAt NoX r cv' (W.setCell ⟨b, k, none⟩ u) s' := fun W k u h => h.setFar (by omega) hbo k u
  exact ⟨st _ _ _ (st _ _ _ (st _ _ _ hR3)), ((K3.setNew hb _ _).setNew hb _ _).setNew hb _ _⟩
set_option maxRecDepth 100000 in
set_option maxHeartbeats 4000000 in
theorem run_c (n : Nat) (t : Tm) (e : En) (s : St) (r : Nat) (cv : Rw) (ep : Value) (w : World) (hn : 1501 ≤ s.steps + n) (hB : StB s) (hok : TmOk t 0 e) (hR : RunAt NoX r cv w s) (hE : RepE r (Safe NoX r cv w) w e ep) (hg : ErrT w) (h0 : Safe NoX r cv w 0) (hd : t.depth ≤ 4000) :
    Calls Tryz.prog 26 #[ptr r, enc t, ep] w (RunP r cv w (ev n t 0 e s)) := by
  have hmf : ∀ (fn : Fn) (first cap : Array Value) (w : World), (Instr.makeFunc fn first cap).run Tryz.prog w = .ok (.func fn first cap) w := fun _ _ _ _ => rfl
  obtain ⟨n1, v1, e1⟩ := enc_gen t
  obtain ⟨qe, rfl⟩ := hE.form
  have zb := (Below.refl w.heap.size w).alloc (Nat.le_refl _) (.cells #[.int .i64 0, .bool false, .int .i64 0] 74)
  have zz : ∃ z0 z1 z2, (w.alloc (.cells #[.int .i64 0, .bool false, .int .i64 0] 74)).heap[w.heap.size]? = some (.cells #[z0, z1, z2] 74 (0, 0)) := ⟨_, _, _, World.alloc_heap_new w _⟩
  have zs : (w.alloc (.cells #[.int .i64 0, .bool false, .int .i64 0] 74)).heap.size = w.heap.size + 1 := by simp
  have C := place_c 4000 t 0 (w.alloc (.cells #[.int .i64 0, .bool false, .int .i64 0] 74)) hd (by omega) (by have := hok.place; omega) hok.good
  rw [e1] at C ⊢
  have HE1 := Lib.hid e1
  clear e1
  go_enter_defers Tryz.func26, Tryz.ntmps26
  go_wp2_with fail
  generalize w.alloc (.cells #[.int .i64 0, .bool false, .int .i64 0] 74) = W1 at zb zz zs C ⊢
  obtain ⟨z0, z1, z2, zz⟩ := zz
  refine C.mono ?_
  rintro e' w2 ⟨b, rfl, hp, -, hb2⟩
  have hs2 := hb2.size
  have K1 := Kep.below (r := r) (cv := cv) (zb.trans (hb2.mono (by omega)))
  have hR2 : RunAt (AndX NoX w.heap.size) r cv w2 s := (hR.below (zb.trans (hb2.mono (by omega)))).hide (by omega)
  have C2 := eval_c n (AndX NoX w.heap.size) t 0 e s r cv (ptr b) (.pointer qe) w2 hn hB hok hR2 (hp.keep (fun g hg => ⟨rfl, hg.2, by have := hR.lt; omega, fun e => by have := (hR.owns g e).2; omega, fun e => e.elim id (fun e => by omega)⟩)) (hE.keep (fun g hg => (K1.hide (Nat.le_refl _) g hg)))
  obtain ⟨o, hO⟩ : ∃ o, ev n t 0 e s = o := ⟨_, rfl⟩
  rw [hO] at C2
  have HO := Lib.hid hO
  clear hO
  have hz2 : w2.heap[w.heap.size]? = some (.cells #[z0, z1, z2] 74 (0, 0)) := (hb2.block _ (by omega)).trans zz
  have sf : Safe NoX r cv w2 w.heap.size := hR.new (Nat.le_refl _) (by omega)
  have hown : ∀ (cv2 : Rw) (w4 : World), Kep r cv w2 cv2 w4 → ¬ cv2.own w.heap.size := fun cv2 w4 hK e => by
    rcases hK.own _ e with h | h
    · have := (hR.owns _ h).2; omega
    · omega
  go_wp2_with fail
  rcases Ou.cases o with ⟨v, s3, rfl⟩ | ho
  · refine C2.mono ?_
    rintro e' w3 ⟨x, cv3, rfl, hv, hR3, hK3⟩
    have C3 := resultOf_c r _ v x w3 hv
    obtain ⟨a0, a1, rfl, ⟨m, rfl⟩, ⟨q, rfl⟩⟩ := hv.form
    go_wp2_with fail
    refine C3.mono ?_
    rintro e' w4 ⟨rfl, hb4⟩
    have hz4 := (hb4.block w.heap.size (by have := hK3.size; omega)).trans ((hK3.safe sf).1.trans hz2)
    obtain ⟨t0, t1, t2, t3, t4, t5⟩ := three_of hz4
    obtain ⟨j0, j1, j2⟩ := set_three (u0 := .int .i64 0) (u1 := .bool (isF v)) (u2 := .int .i64 (valN v : Nat)) t0 t1 t2
    go_wp2_with fail
    refine leaves_cons (f := 39) (args := #[ptr w.heap.size]) (by simp) (by simp [go_sem]) ?_
    refine (run_idle ⟨w.heap.size, 0, none⟩ _).mono ?_
    rintro e u' w'' ⟨rfl, rfl, rfl⟩
    obtain ⟨o1, o2⟩ := set3 hR (Nat.le_refl _) (hR3.bare.below hb4) ((K1.trans hK3).trans (Kep.below hb4)) (hown _ _ hK3) (.int .i64 0) (.bool (isF v)) (.int .i64 (valN v : Nat))
    refine ⟨rV 0 (isF v) (valN v : Nat), by simp [results, Tryz.results26, go_sem, j0, j1, j2], by rw [HO.out]; rfl, cv3, s3, o1, o2, fun v' s' h => ?_⟩
    rw [HO.out] at h
    injection h
  · refine C2.mono ?_
    intro e' w3 h
    obtain ⟨hc, cv3, s3, hR3, hK3, _⟩ := (evPost_bad ho _ _ _ _ _ _).1 h
    have hz3 := (hK3.safe sf).1.trans hz2
    have hg3 : ErrT w3 := (K1.trans hK3).cell h0 hg
    have key : ∀ u, (u = 184 ∨ u = 127) → panC o = [{ v := .iface u (.agg #[]), recovered := false }] → resO o = rV (if u = 127 then 2 else 1) false 0 := by
      rintro u (rfl | rfl) hp <;> cases o <;> simp_all [panC, faultC, longC, resO, Ou.bad]
    obtain ⟨u, hu, hp⟩ : ∃ u, (u = 184 ∨ u = 127) ∧ panC o = [{ v := .iface u (.agg #[]), recovered := false }] := by
      rcases panC_cases ho with h | h
      · exact ⟨_, .inl rfl, h⟩
      · exact ⟨_, .inr rfl, h⟩
    have hres := key u hu hp
    rw [hc, hp]
    refine leaves_cons (f := 39) (args := #[ptr w.heap.size]) (by simp) (by simp [go_sem]) ?_
    refine (run_catch w.heap.size u hu w3 hg3 z0 z1 z2 hz3).mono ?_
    rintro e u' w'' ⟨rfl, rfl, w4, hb4, rfl⟩
    obtain ⟨t0, t1, t2, t3, t4, t5⟩ := three_of ((hb4.block w.heap.size (by have := hK3.size; omega)).trans hz3)
    obtain ⟨j0, j1, j2⟩ := set_three (u0 := .int .i64 (if u = 127 then 2 else 1)) (u1 := .bool false) (u2 := .int .i64 0) t0 t1 t2
    obtain ⟨o1, o2⟩ := set3 hR (Nat.le_refl _) (hR3.bare.below hb4) ((K1.trans hK3).trans (Kep.below hb4)) (hown _ _ hK3) (.int .i64 (if u = 127 then 2 else 1)) (.bool false) (.int .i64 0)
    refine ⟨rV (if u = 127 then 2 else 1) false 0, by simp [results, Tryz.results26, go_sem, j0, j1, j2], by rw [HO.out, hres], cv3, s3, o1, o2, fun v' s' h => ?_⟩
    rw [← HO.out, h] at ho
    exact ho.elim
end Go.Proofs.YtjfhncfbejephaaGreatDoor
