/- The program's depth of a term: the parts right within a term, by the interface. -/
import Derived.Test.YtpiahmdgkmkhiaaRdA
import Derived.Outline
namespace Go.Proofs.Ytpiahmdgkmkhiaa
open Go.RowKit
open Ff

/-- The dynamic type, the value within, the method's function. -/
def ty : Tm → Nat
  | .num _ => 78 | .var _ => 68 | .fn _ _ => 75 | .fix _ _ _ => 75
  | .app _ _ => 92 | .bind _ _ _ => 88 | .op _ _ _ => 94 | .sel _ _ _ => 96
def pl : Tm → Value
  | .num n => .agg #[.int .i64 (n : Int)]
  | .var c => .agg #[.int .u8 (c.toNat : Int)]
  | .fn c b => .agg #[.int .u8 0, .int .u8 (c.toNat : Int), enc b]
  | .fix f c b => .agg #[.int .u8 (f.toNat : Int), .int .u8 (c.toNat : Int), enc b]
  | .app f a => .agg #[enc f, enc a]
  | .bind c v b => .agg #[.int .u8 (c.toNat : Int), enc v, enc b]
  | .op s l r => .agg #[.int .u8 (s.toNat : Int), enc l, enc r]
  | .sel a b c => .agg #[enc a, enc b, enc c]
theorem enc_ty (t : Tm) : enc t = .iface (ty t) (pl t) := by cases t <;> rfl
def kf : Tm → Nat
  | .num _ => 105 | .var _ => 101 | .fn _ _ => 103 | .fix _ _ _ => 103
  | .app _ _ => 123 | .bind _ _ _ => 121 | .op _ _ _ => 125 | .sel _ _ _ => 127

/-- A method called through the interface: the law. -/
theorem wpList_invoke {P : Program} {ops : Array Oper} {rest : List Oper} {o : Oper} {a : Act} {Q : Exit → Act → World → Prop} {w : World} (hgd : o.guard = none) (r : Operand) (m : String) (t : TypeId) (v : Value)
    (ho : o.op = .call { callee := .invoke r m, args := #[], argTypes := #[] }) (hr : a.eval r = .iface t v) (f : FuncId) (hm : (method (P.types.size + 100) t v m).run P w = .ok (f, v) w)
    (hf : (callFunc f #[v]).run P w = .ok (.enter f #[v]) w) (S : Value → World → Prop) (hC : Calls P f #[v] w fun e w' => ∃ x, e = .returned x ∧ S x w')
    (h : ∀ x w', S x w' → wpList P ops Q rest (a.put o.dst x) w') : wpList P ops Q (o :: rest) a w := by
  refine wpList_plain hgd fun K hK => ?_
  unfold Oper.wp execOp
  simp only [ho, resolve, invoke, callMethod, Sem.run_bind, Sem.run_pure, Result.andThen_ok, List.map_toArray, List.map_nil, hr]
  simp [hm, hf, Sem.run_bind, go_sem]
  refine hC.mono ?_
  rintro e w' ⟨x, rfl, hS⟩
  exact hK _ _ (h x w' hS)

/-- The slice v of the world w lists the values l; it lies in a block beyond B. -/
def SliceOf (B : Nat) (w : World) (v : Value) (l : List Value) : Prop :=
  (l = [] ∧ v = .slice none 0 0) ∨ (l ≠ [] ∧ ∃ g, v = .slice (some ⟨g, 0, none⟩) l.length l.length ∧ B ≤ g ∧ g < w.heap.size ∧ ∀ i x, l[i]? = some x → w.cell? ⟨g, i, none⟩ = some x)
theorem cell_new (w : World) (l : List Value) (t : TypeId) (i : Nat) : (w.alloc (.cells l.toArray t)).cell? ⟨w.heap.size, i, none⟩ = l[i]? := by
  show (match (w.heap.push _)[w.heap.size]? with | some (.cells c _ _) => if (none : Option Nat).isSome then none else c[i]? | _ => none) = _
  simp
theorem slice_new (w : World) (o : Obj) (l : List Value) (t : TypeId) (hl : l ≠ []) :
    SliceOf w.heap.size ((w.alloc o).alloc (.cells l.toArray t)) (.slice (some ⟨w.heap.size + 1, 0, none⟩) l.length l.length) l := by
  refine .inr ⟨hl, w.heap.size + 1, rfl, Nat.le_succ _, by simp, fun i x hx => ?_⟩
  have h := cell_new (w.alloc o) l t i
  simp only [World.size_alloc] at h
  rw [h, hx]
/-- What the call of 'kids' comes to. -/
def KidsPost (t : Tm) (w : World) (e : Ending) (w' : World) : Prop := ∃ v, e = .returned v ∧ SliceOf w.heap.size w' v (t.kids.map enc) ∧ Below w.heap.size w w'
theorem below_two (w : World) (o p : Obj) : Below w.heap.size w ((w.alloc o).alloc p) := ((Below.refl _ w).alloc (Nat.le_refl _) _).alloc (by simp) _

set_option maxHeartbeats 1000000 in
theorem kids_c (t : Tm) (w : World) : Calls Try.prog (kf t) #[pl t] w (KidsPost t w) := by
  cases t with
  | num n =>
    show Calls Try.prog 105 #[.agg #[.int .i64 (n : Int)]] w _
    go_enter Try.func105, Try.ntmps105
    go_wp2_with fail
    go_ret
    exact ⟨_, rfl, .inl ⟨rfl, rfl⟩, (Below.refl _ w).alloc (Nat.le_refl _) _⟩
  | var c =>
    show Calls Try.prog 101 #[.agg #[.int .u8 (c.toNat : Int)]] w _
    go_enter Try.func101, Try.ntmps101
    go_wp2_with fail
    go_ret
    exact ⟨_, rfl, .inl ⟨rfl, rfl⟩, (Below.refl _ w).alloc (Nat.le_refl _) _⟩
  | fn c b =>
    obtain ⟨n1, v1, e1⟩ := enc_gen b
    show Calls Try.prog 103 #[.agg #[.int .u8 0, .int .u8 (c.toNat : Int), enc b]] w _
    have H := Lib.hid e1
    rw [e1]
    clear e1
    go_enter Try.func103, Try.ntmps103
    go_wp2_with fail
    go_ret
    refine ⟨_, rfl, ?_, below_two _ _ _⟩
    simp only [Tm.kids, List.map_cons, List.map_nil, H.out]
    exact slice_new w _ _ _ (by simp)
  | fix f c b =>
    obtain ⟨n1, v1, e1⟩ := enc_gen b
    show Calls Try.prog 103 #[.agg #[.int .u8 (f.toNat : Int), .int .u8 (c.toNat : Int), enc b]] w _
    have H := Lib.hid e1
    rw [e1]
    clear e1
    go_enter Try.func103, Try.ntmps103
    go_wp2_with fail
    go_ret
    refine ⟨_, rfl, ?_, below_two _ _ _⟩
    simp only [Tm.kids, List.map_cons, List.map_nil, H.out]
    exact slice_new w _ _ _ (by simp)
  | app f a =>
    obtain ⟨n1, v1, e1⟩ := enc_gen f
    obtain ⟨n2, v2, e2⟩ := enc_gen a
    show Calls Try.prog 123 #[.agg #[enc f, enc a]] w _
    have H := Lib.hid e1
    have H2 := Lib.hid e2
    rw [e1, e2]
    clear e1 e2
    go_enter Try.func123, Try.ntmps123
    go_wp2_with fail
    go_ret
    refine ⟨_, rfl, ?_, below_two _ _ _⟩
    simp only [Tm.kids, List.map_cons, List.map_nil, H.out, H2.out]
    exact slice_new w _ _ _ (by simp)
  | bind c f a =>
    obtain ⟨n1, v1, e1⟩ := enc_gen f
    obtain ⟨n2, v2, e2⟩ := enc_gen a
    show Calls Try.prog 121 #[.agg #[.int .u8 (c.toNat : Int), enc f, enc a]] w _
    have H := Lib.hid e1
    have H2 := Lib.hid e2
    rw [e1, e2]
    clear e1 e2
    go_enter Try.func121, Try.ntmps121
    go_wp2_with fail
    go_ret
    refine ⟨_, rfl, ?_, below_two _ _ _⟩
    simp only [Tm.kids, List.map_cons, List.map_nil, H.out, H2.out]
    exact slice_new w _ _ _ (by simp)
  | op c f a =>
    obtain ⟨n1, v1, e1⟩ := enc_gen f
    obtain ⟨n2, v2, e2⟩ := enc_gen a
    show Calls Try.prog 125 #[.agg #[.int .u8 (c.toNat : Int), enc f, enc a]] w _
    have H := Lib.hid e1
    have H2 := Lib.hid e2
    rw [e1, e2]
    clear e1 e2
    go_enter Try.func125, Try.ntmps125
    go_wp2_with fail
    go_ret
    refine ⟨_, rfl, ?_, below_two _ _ _⟩
    simp only [Tm.kids, List.map_cons, List.map_nil, H.out, H2.out]
    exact slice_new w _ _ _ (by simp)
  | sel a b c =>
    obtain ⟨n1, v1, e1⟩ := enc_gen a
    obtain ⟨n2, v2, e2⟩ := enc_gen b
    obtain ⟨n3, v3, e3⟩ := enc_gen c
    show Calls Try.prog 127 #[.agg #[enc a, enc b, enc c]] w _
    have H := Lib.hid e1
    have H2 := Lib.hid e2
    have H3 := Lib.hid e3
    rw [e1, e2, e3]
    clear e1 e2 e3
    go_enter Try.func127, Try.ntmps127
    go_wp2_with fail
    go_ret
    refine ⟨_, rfl, ?_, below_two _ _ _⟩
    simp only [Tm.kids, List.map_cons, List.map_nil, H.out, H2.out, H3.out]
    exact slice_new w _ _ _ (by simp)

/-- The method's name, as the types' table has it. -/
def KidsName (m : String) : Prop := (((Try.prog.info? 78).bind fun i => (i.methods[0]?).map (·.name)).getD "") = m
theorem kids_m (t : Tm) (m : String) (hm : KidsName m) (w : World) : (method (Try.prog.types.size + 100) (ty t) (pl t) m).run Try.prog w = .ok (kf t, pl t) w := by
  unfold KidsName at hm
  subst hm
  cases t <;> kernel_rfl
theorem kids_f (t : Tm) (w : World) : (callFunc (kf t) #[pl t]).run Try.prog w = .ok (.enter (kf t) #[pl t]) w := by
  cases t <;> kernel_rfl
end Go.Proofs.Ytpiahmdgkmkhiaa
