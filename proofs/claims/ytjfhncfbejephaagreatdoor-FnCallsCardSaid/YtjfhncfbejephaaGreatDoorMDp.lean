import Derived.Test.YtjfhncfbejephaaGreatDoorMRd
import Derived.Outline
import Derived.Recover
/- The program's depth of a term: the parts right within a term, by the interface. -/
namespace Go.Proofs.YtjfhncfbejephaaGreatDoor
open Go.RowKit
open Ff

/-- The dynamic type, the value within, the method's function. -/
def ty : Tm → Nat
  | .num _ => 137 | .var _ => 122 | .fn _ _ => 140 | .fix _ _ _ => 140
  | .app _ _ => 143 | .bind _ _ _ => 146 | .op _ _ _ => 149 | .sel _ _ _ => 153
def pl : Tm → Value
  | .num n => .agg #[.int .i64 (n : Int)]
  | .var c => .agg #[.int .u8 (c.toNat : Int)]
  | .fn c b => .agg #[.int .u8 0, .int .u8 (c.toNat : Int), enc b]
  | .fix f c b => .agg #[.int .u8 (f.toNat : Int), .int .u8 (c.toNat : Int), enc b]
  | .app f a => .agg #[enc f, enc a]
  | .bind c v b => .agg #[.int .u8 (c.toNat : Int), enc v, enc b]
  | .op s l r => .agg #[.int .u8 (s.toNat : Int), enc l, enc r]
  | .sel a b c => .agg #[enc a, enc b, enc c]
theorem enc_ty (t : Tm) : enc t = .iface (ty t) (pl t) := by cases t <;> rfl
def kf : Tm → Nat
  | .num _ => 129 | .var _ => 126 | .fn _ _ => 145 | .fix _ _ _ => 145
  | .app _ _ => 147 | .bind _ _ _ => 149 | .op _ _ _ => 151 | .sel _ _ _ => 153

/-- A method called through the interface: the law. -/
theorem wpList_invoke {P : Program} {ops : Array Oper} {rest : List Oper} {o : Oper} {a : Act} {Q : Exit → Act → World → Prop} {w : World} (hgd : o.guard = none) (r : Operand) (m : String) (t : TypeId) (v : Value)
    (ho : o.op = .call { callee := .invoke r m, args := #[], argTypes := #[] }) (hr : a.eval r = .iface t v) (f : FuncId) (hm : (method (P.types.size + 100) t v m).run P w = .ok (f, v) w)
    (hf : (callFunc f #[v]).run P w = .ok (.enter f #[v]) w) (S : Value → World → Prop) (hC : Calls P f #[v] w fun e w' => ∃ x, e = .returned x ∧ S x w')
    (h : ∀ x w', S x w' → wpList P ops Q rest (a.put o.dst x) w') : wpList P ops Q (o :: rest) a w := by
  refine wpList_plain hgd fun K hK => ?_
  unfold Oper.wp execOp
  simp only [ho, resolve, invoke, callMethod, Sem.run_bind, Sem.run_pure, Result.andThen_ok, List.map_toArray, List.map_nil, hr]
  simp [hm, hf, Sem.run_bind, go_sem]
  refine hC.mono ?_
  rintro e w' ⟨x, rfl, hS⟩
  exact hK _ _ (h x w' hS)

/-- The slice v of the world w lists the values l; it lies in a block beyond B. -/
def SliceOf (B : Nat) (w : World) (v : Value) (l : List Value) : Prop :=
  (l = [] ∧ v = .slice none 0 0) ∨ (l ≠ [] ∧ ∃ g, v = .slice (some ⟨g, 0, none⟩) l.length l.length ∧ B ≤ g ∧ g < w.heap.size ∧ ∀ i x, l[i]? = some x → w.cell? ⟨g, i, none⟩ = some x)
theorem cell_new (w : World) (l : List Value) (t : TypeId) (i : Nat) : (w.alloc (.cells l.toArray t)).cell? ⟨w.heap.size, i, none⟩ = l[i]? := by
  show (match (w.heap.push _)[w.heap.size]? with | some (.cells c _ _) => if (none : Option Nat).isSome then none else c[i]? | _ => none) = _
  simp
theorem slice_new (w : World) (o : Obj) (l : List Value) (t : TypeId) (hl : l ≠ []) :
    SliceOf w.heap.size ((w.alloc o).alloc (.cells l.toArray t)) (.slice (some ⟨w.heap.size + 1, 0, none⟩) l.length l.length) l := by
  refine .inr ⟨hl, w.heap.size + 1, rfl, Nat.le_succ _, by simp, fun i x hx => ?_⟩
  have h := cell_new (w.alloc o) l t i
  simp only [World.size_alloc] at h
  rw [h, hx]
/-- What the call of 'kids' comes to. -/
def KidsPost (t : Tm) (w : World) (e : Ending) (w' : World) : Prop := ∃ v, e = .returned v ∧ SliceOf w.heap.size w' v (t.kids.map enc) ∧ Below w.heap.size w w'
theorem below_two (w : World) (o p : Obj) : Below w.heap.size w ((w.alloc o).alloc p) := ((Below.refl _ w).alloc (Nat.le_refl _) _).alloc (by simp) _

set_option maxHeartbeats 1000000 in
theorem kids_c (t : Tm) (w : World) : Calls Tryz.prog (kf t) #[pl t] w (KidsPost t w) := by
  cases t with
  | num n =>
    show Calls Tryz.prog 129 #[.agg #[.int .i64 (n : Int)]] w _
    go_enter Tryz.func129, Tryz.ntmps129
    go_wp2_with fail
    go_ret
    exact ⟨_, rfl, .inl ⟨rfl, rfl⟩, (Below.refl _ w).alloc (Nat.le_refl _) _⟩
  | var c =>
    show Calls Tryz.prog 126 #[.agg #[.int .u8 (c.toNat : Int)]] w _
    go_enter Tryz.func126, Tryz.ntmps126
    go_wp2_with fail
    go_ret
    exact ⟨_, rfl, .inl ⟨rfl, rfl⟩, (Below.refl _ w).alloc (Nat.le_refl _) _⟩
  | fn c b =>
    obtain ⟨n1, v1, e1⟩ := enc_gen b
    show Calls Tryz.prog 145 #[.agg #[.int .u8 0, .int .u8 (c.toNat : Int), enc b]] w _
    have H := Lib.hid e1
    rw [e1]
    clear e1
    go_enter Tryz.func145, Tryz.ntmps145
    go_wp2_with fail
    go_ret
    refine ⟨_, rfl, ?_, below_two _ _ _⟩
    simp only [Tm.kids, List.map_cons, List.map_nil, H.out]
    exact slice_new w _ _ _ (by simp)
  | fix f c b =>
    obtain ⟨n1, v1, e1⟩ := enc_gen b
    show Calls Tryz.prog 145 #[.agg #[.int .u8 (f.toNat : Int), .int .u8 (c.toNat : Int), enc b]] w _
    have H := Lib.hid e1
    rw [e1]
    clear e1
    go_enter Tryz.func145, Tryz.ntmps145
    go_wp2_with fail
    go_ret
    refine ⟨_, rfl, ?_, below_two _ _ _⟩
    simp only [Tm.kids, List.map_cons, List.map_nil, H.out]
    exact slice_new w _ _ _ (by simp)
  | app f a =>
    obtain ⟨n1, v1, e1⟩ := enc_gen f
    obtain ⟨n2, v2, e2⟩ := enc_gen a
    show Calls Tryz.prog 147 #[.agg #[enc f, enc a]] w _
    have H := Lib.hid e1
    have H2 := Lib.hid e2
    rw [e1, e2]
    clear e1 e2
    go_enter Tryz.func147, Tryz.ntmps147
    go_wp2_with fail
    go_ret
    refine ⟨_, rfl, ?_, below_two _ _ _⟩
    simp only [Tm.kids, List.map_cons, List.map_nil, H.out, H2.out]
    exact slice_new w _ _ _ (by simp)
  | bind c f a =>
    obtain ⟨n1, v1, e1⟩ := enc_gen f
    obtain ⟨n2, v2, e2⟩ := enc_gen a
    show Calls Tryz.prog 149 #[.agg #[.int .u8 (c.toNat : Int), enc f, enc a]] w _
    have H := Lib.hid e1
    have H2 := Lib.hid e2
    rw [e1, e2]
    clear e1 e2
    go_enter Tryz.func149, Tryz.ntmps149
    go_wp2_with fail
    go_ret
    refine ⟨_, rfl, ?_, below_two _ _ _⟩
    simp only [Tm.kids, List.map_cons, List.map_nil, H.out, H2.out]
    exact slice_new w _ _ _ (by simp)
  | op c f a =>
    obtain ⟨n1, v1, e1⟩ := enc_gen f
    obtain ⟨n2, v2, e2⟩ := enc_gen a
    show Calls Tryz.prog 151 #[.agg #[.int .u8 (c.toNat : Int), enc f, enc a]] w _
    have H := Lib.hid e1
    have H2 := Lib.hid e2
    rw [e1, e2]
    clear e1 e2
    go_enter Tryz.func151, Tryz.ntmps151
    go_wp2_with fail
    go_ret
    refine ⟨_, rfl, ?_, below_two _ _ _⟩
    simp only [Tm.kids, List.map_cons, List.map_nil, H.out, H2.out]
    exact slice_new w _ _ _ (by simp)
  | sel a b c =>
    obtain ⟨n1, v1, e1⟩ := enc_gen a
    obtain ⟨n2, v2, e2⟩ := enc_gen b
    obtain ⟨n3, v3, e3⟩ := enc_gen c
    show Calls Tryz.prog 153 #[.agg #[enc a, enc b, enc c]] w _
    have H := Lib.hid e1
    have H2 := Lib.hid e2
    have H3 := Lib.hid e3
    rw [e1, e2, e3]
    clear e1 e2 e3
    go_enter Tryz.func153, Tryz.ntmps153
    go_wp2_with fail
    go_ret
    refine ⟨_, rfl, ?_, below_two _ _ _⟩
    simp only [Tm.kids, List.map_cons, List.map_nil, H.out, H2.out, H3.out]
    exact slice_new w _ _ _ (by simp)

/-- The method's name, as the types' table has it. -/
def KidsName (m : String) : Prop := (((Tryz.prog.info? 137).bind fun i => (i.methods[0]?).map (·.name)).getD "") = m
theorem kids_m (t : Tm) (m : String) (hm : KidsName m) (w : World) : (method (Tryz.prog.types.size + 100) (ty t) (pl t) m).run Tryz.prog w = .ok (kf t, pl t) w := by
  unfold KidsName at hm
  subst hm
  cases t <;> kernel_rfl
theorem kids_f (t : Tm) (w : World) : (callFunc (kf t) #[pl t]).run Tryz.prog w = .ok (.enter (kf t) #[pl t]) w := by
  cases t <;> kernel_rfl
end Go.Proofs.YtjfhncfbejephaaGreatDoor

/- The program's depth of a term: the function itself. -/
namespace Go.Proofs.YtjfhncfbejephaaGreatDoor
open Go.RowKit
open Ff

/-- The greatest depth in a list of terms. -/
def md (l : List Tm) : Nat := l.foldl (fun m t => max m t.depth) 0
theorem md_take (l : List Tm) (k : Nat) (t : Tm) (h : l[k]? = some t) : md (l.take (k + 1)) = max (md (l.take k)) t.depth := by
  unfold md
  rw [List.take_add_one, h]
  simp [List.foldl_append]
theorem md_kids (t : Tm) : t.depth = md t.kids + 1 := by cases t <;> simp [Tm.depth, Tm.kids, md, Nat.max_assoc]
theorem kid_depth {t s : Tm} (h : s ∈ t.kids) : s.depth + 1 ≤ t.depth := by
  cases t with
  | num n => simp [Tm.kids] at h
  | var c => simp [Tm.kids] at h
  | fn c b => simp only [Tm.kids, List.mem_singleton] at h; subst h; simp [Tm.depth]
  | fix f c b => simp only [Tm.kids, List.mem_singleton] at h; subst h; simp [Tm.depth]
  | app f a => simp only [Tm.kids, List.mem_cons, List.not_mem_nil, or_false] at h; simp only [Tm.depth]; rcases h with h | h <;> subst h <;> omega
  | bind c f a => simp only [Tm.kids, List.mem_cons, List.not_mem_nil, or_false] at h; simp only [Tm.depth]; rcases h with h | h <;> subst h <;> omega
  | op c f a => simp only [Tm.kids, List.mem_cons, List.not_mem_nil, or_false] at h; simp only [Tm.depth]; rcases h with h | h <;> subst h <;> omega
  | sel a b c => simp only [Tm.kids, List.mem_cons, List.not_mem_nil, or_false] at h; simp only [Tm.depth]; rcases h with h | h | h <;> subst h <;> omega
/-- The slice v of the world w lists the values l. -/
theorem SliceOf.uni {B : Nat} {w : World} {v : Value} {l : List Value} (h : SliceOf B w v l) : ∃ a, v = .slice a l.length l.length ∧ ∀ i x, l[i]? = some x → ∃ g, a = some ⟨g, 0, none⟩ ∧ B ≤ g ∧ g < w.heap.size ∧ w.cell? ⟨g, i, none⟩ = some x := by
  rcases h with ⟨rfl, rfl⟩ | ⟨_, g, rfl, h1, h2, h3⟩
  · exact ⟨none, rfl, fun i x hx => by simp at hx⟩
  · exact ⟨_, rfl, fun i x hx => ⟨g, rfl, h1, h2, h3 i x hx⟩⟩

theorem max_int (a b : Nat) : Value.int .i64 (if a < b then (b : Int) else (a : Int)) = .int .i64 ((max a b : Nat) : Int) := by
  by_cases h : a < b
  · rw [if_pos h, Nat.max_eq_right (by omega)]
  · rw [if_neg h, Nat.max_eq_left (by omega)]
def DepthC (n : Nat) : Prop := ∀ t : Tm, t.depth ≤ n → n ≤ 4000 → ∀ w, Calls Tryz.prog 31 #[enc t] w fun e w' => e = .returned (.int .i64 (t.depth : Int)) ∧ Below w.heap.size w w'

set_option maxHeartbeats 1000000 in
theorem depth_step (n : Nat) (ih : DepthC n) : DepthC (n + 1) := by
  intro t ht hn w
  have hk : t.kids.length ≤ 3 := by cases t <;> simp [Tm.kids]
  rw [enc_ty t]
  have HD := Lib.hid (md_kids t)
  have hm1 : md t.kids + 1 ≤ 4000 := by have := HD.out; omega
  go_enter Tryz.func31, Tryz.ntmps31
  go_wp2_with (refine wpList_invoke rfl _ _ (ty t) (pl t) rfl rfl (kf t) (kids_m t _ (by unfold KidsName; kernel_rfl) _) (kids_f t _) (fun v w' => SliceOf w.heap.size w' v (t.kids.map enc) ∧ Below w.heap.size w w') (kids_c t _) ?_; rintro x w1 ⟨hs, hb⟩; obtain ⟨a, rfl, hcell⟩ := hs.uni; clear hs; have HC := Lib.hid hcell; clear hcell)
  obtain ⟨W1, hW1⟩ : ∃ W1, w1 = W1 := ⟨_, rfl⟩
  subst hW1
  go_loopw [3, 9] (fun d i wr => ∃ k : Nat, k ≤ t.kids.length ∧ i = .int .i64 k ∧ d = .int .i64 (md (t.kids.take k) : Nat) ∧ Below w1.heap.size w1 wr) (fun _ i _ => t.kids.length - (intOf i).toNat)
  case atStart => exact ⟨0, Nat.zero_le _, rfl, rfl, Below.refl _ _⟩
  case round =>
    obtain ⟨k, hkl, rfl, rfl, hB⟩ := hrel
    by_cases hlt : k < t.kids.length
    · obtain ⟨s, hs⟩ : ∃ s, t.kids[k]? = some s := ⟨_, List.getElem?_eq_getElem hlt⟩
      obtain ⟨g, rfl, hg1, hg2, hc⟩ := HC.out k (enc s) (by simp [hs])
      have hc2 := (hB.cell (p := ⟨g, k, none⟩) hg2).trans hc
      have C := ih s (by have := kid_depth (List.mem_of_getElem? hs); omega) (by omega) wr
      have HS := Lib.hid hs
      clear hs hc HC
      go_wp2_with (go_at_call 31; refine C.mono ?_; rintro e w2 ⟨rfl, hb2⟩)
      refine ⟨⟨k + 1, by omega, by go_num, ?_, hB.trans (hb2.mono hB.size)⟩, by simp [intOf]; omega⟩
      rw [md_take _ _ _ HS.out]
      exact max_int _ _
    · have hk2 : k = t.kids.length := by omega
      have ht : t.kids.take k = t.kids := List.take_of_length_le (by omega)
      rw [ht]
      have HT := Lib.hid hk2
      clear hk2 ht
      go_wp2_with fail
      go_ret
      rw [HD.out]
      exact ⟨by simp, hb.trans (hB.mono hb.size)⟩
theorem depth_c : ∀ n, DepthC n
  | 0 => fun t ht _ => absurd ht (by have := t.depth_pos; omega)
  | n + 1 => depth_step n (depth_c n)
end Go.Proofs.YtjfhncfbejephaaGreatDoor

/- The program's readTerm: what a text is as a term, or none. -/
namespace Go.Proofs.YtjfhncfbejephaaGreatDoor
open Go.RowKit
open Ff
set_option linter.unusedVariables false

theorem catch_panicking (p q : Addr) (x y : Value) (u : TypeId) (pv : Value) (older : List PanicEntry) (w : World) (hne : p ≠ q) (hp : w.cell? p = some x) (hpz : w.frozen? p = false) (hq : w.cell? q = some y) (hqz : w.frozen? q = false) :
    CallsD Tryz.prog 49 #[.pointer (some p), .pointer (some q)] (.panicking ({ v := .iface u pv, recovered := false } :: older)) w fun e u' w' =>
      e = .returned (.tuple #[]) ∧ u' = .panicking ({ v := .iface u pv, recovered := true } :: older) ∧ w' = (w.setCell p .nilIface).setCell q (.bool false) := by
  refine callsD_of_wpS Tryz.func49 rfl fun c₀ cs hu => ?_
  apply wpS_seq
  apply wpS_region
  simp [wpOpsS, go_sem, recoverD, hu, Tryz.ntmps49, Exit.thenS]
  refine wpS_cond (t := true) (by simp [Act.eval, Array.replicate]) ?_
  simp only [if_true]
  apply wpS_region
  have h2 : (w.setCell p .nilIface).cell? q = some y := by rw [World.cell?_setCell_other _ _ _ _ hne]; exact hq
  simp [wpOpsS, go_sem, hp, hpz, h2, hqz, bodyPostS, results, Tryz.results49]

theorem catch_idle (p q : Addr) (w : World) :
    CallsD Tryz.prog 49 #[.pointer (some p), .pointer (some q)] .returning w fun e u' w' => e = .returned (.tuple #[]) ∧ u' = .returning ∧ w' = w := by
  refine callsD_of_wpS Tryz.func49 rfl fun c₀ cs hu => ?_
  apply wpS_seq
  apply wpS_region
  simp [wpOpsS, go_sem, recoverD, hu, Tryz.ntmps49, Exit.thenS]
  refine wpS_cond (t := false) (by simp [Act.eval, Array.replicate]) ?_
  simp only [Bool.false_eq_true, if_false]
  refine wpS_of_wp (wp_skip ?_)
  cases c₀
  simp_all [bodyPostS, results, Tryz.results49]

theorem below_of_grown {a b : World} {g B : Nat} (h : a.grownBy b (some g)) (hB : B ≤ g) (hs : B ≤ a.heap.size) : Below B a b :=
  ⟨h.os, h.tape, h.output, h.size, fun k hk => h.block k (by omega) (fun e => by injection e; omega)⟩
theorem Rd0.lt {b : Nat} {s : Text} {w : World} (h : Rd0 b s w) : b < w.heap.size := by
  have := h.cell
  simp only [World.cell?] at this
  rcases Nat.lt_or_ge b w.heap.size with h1 | h1
  · exact h1
  · simp [Array.getElem?_eq_none h1] at this
theorem Rd0.alloc {b : Nat} {s : Text} {w : World} (h : Rd0 b s w) (o : Obj) : Rd0 b s (w.alloc o) :=
  have hb := Below.heap_alloc w o b h.lt
  ⟨(World.cell?_of_block (a := ⟨b, 0, none⟩) hb).trans h.cell, (World.frozen?_of_block (a := ⟨b, 0, none⟩) hb).trans h.free, (World.cell?_of_block (a := ⟨b, 1, none⟩) hb).trans h.oth⟩
/-- A store into a block that came behind. -/
theorem grown_new {w W : World} {row : Option Nat} (h : w.grownBy W row) {p : Addr} (hp : w.heap.size ≤ p.block) (v : Value) : w.grownBy (W.setCell p v) row :=
  ⟨h.os, h.tape, h.output, by simpa [World.setCell] using h.size, fun k hk hn => (Below.heap_setCell _ _ _ _ (by omega)).trans (h.block k hk hn)⟩
/-- The world in which the reader's text is read: two results. -/
def W2 (w : World) : World := (w.alloc (.cells #[.nilIface] 63)).alloc (.cells #[.bool false] 4)
theorem W2_grown (w : World) (row : Option Nat) : w.grownBy (W2 w) row := grownBy_trans (World.grownBy_alloc _ _ _) (World.grownBy_alloc _ _ _)
theorem two_cells {b : Nat} {w W : World} (hb : b < w.heap.size) (h : (W2 w).grownBy W (some b)) :
    W.cell? ⟨w.heap.size, 0, none⟩ = some .nilIface ∧ W.frozen? ⟨w.heap.size, 0, none⟩ = false ∧ W.cell? ⟨w.heap.size + 1, 0, none⟩ = some (.bool false) ∧ W.frozen? ⟨w.heap.size + 1, 0, none⟩ = false := by
  have k1 := h.block w.heap.size (by simp [W2]; omega) (by simp; omega)
  have k2 := h.block (w.heap.size + 1) (by simp [W2]) (by simp; omega)
  refine ⟨(World.cell?_of_block (a := ⟨w.heap.size, 0, none⟩) k1).trans ?_, (World.frozen?_of_block (a := ⟨w.heap.size, 0, none⟩) k1).trans ?_, (World.cell?_of_block (a := ⟨w.heap.size + 1, 0, none⟩) k2).trans ?_, (World.frozen?_of_block (a := ⟨w.heap.size + 1, 0, none⟩) k2).trans ?_⟩ <;> simp [W2, go_sem]

set_option maxHeartbeats 1000000 in
theorem whole_long (mo : Nat) (hmo : mo ≤ 3000) (b : Nat) (s : Text) (w : World) (hr : Rd0 b s w) (h : mo < s.length) (hl : s.length ≤ 9223372036854775807) :
    Calls Tryz.prog 30 #[.pointer (some ⟨b, 0, none⟩), .int .i64 (mo : Int)] w fun e w' => e = .returned (.tuple #[.nilIface, .bool false]) ∧ w.grownBy w' (some b) := by
  have hmf : ∀ (fn : Fn) (first cap : Array Value) (w : World), (Instr.makeFunc fn first cap).run Tryz.prog w = .ok (.func fn first cap) w := fun _ _ _ _ => rfl
  have c0 := ((hr.alloc (.cells #[.nilIface] 63)).alloc (.cells #[.bool false] 4)).cell
  have hlt := hr.lt
  go_enter_defers Tryz.func30, Tryz.ntmps30
  go_wp2_with fail
  exact ⟨.tuple #[.nilIface, .bool false], by simp [results, Tryz.results30, go_sem], rfl, W2_grown _ _⟩

set_option maxHeartbeats 1000000 in
theorem whole_none (mo : Nat) (hmo : mo ≤ 3000) (b : Nat) (s : Text) (w : World) (hr : Rd0 b s w) (h : s.length ≤ mo) (hp : parse (s.length + 1) s = none) :
    Calls Tryz.prog 30 #[.pointer (some ⟨b, 0, none⟩), .int .i64 (mo : Int)] w fun e w' => e = .returned (.tuple #[.nilIface, .bool false]) ∧ w.grownBy w' (some b) := by
  have hmf : ∀ (fn : Fn) (first cap : Array Value) (w : World), (Instr.makeFunc fn first cap).run Tryz.prog w = .ok (.func fn first cap) w := fun _ _ _ _ => rfl
  have R2 : Rd0 b s (W2 w) := (hr.alloc _).alloc _
  have c0 := ((hr.alloc (.cells #[.nilIface] 63)).alloc (.cells #[.bool false] 4)).cell
  have C := term_c (s.length + 1) b s (W2 w) R2 (by omega) (by omega)
  have hlt := hr.lt
  rw [hp] at C
  clear hp
  go_enter_defers Tryz.func30, Tryz.ntmps30
  go_wp2_with fail
  refine term_use C (fun x2 r2 w2 n2 v2 o2 h2 E2 => by simp at o2) (fun r1 w1 _ h1 => ?_)
  obtain ⟨c1, f1, c2, f2⟩ := two_cells hlt h1.rest
  refine leaves_cons (f := 49) (args := #[.pointer (some ⟨w.heap.size, 0, none⟩), .pointer (some ⟨w.heap.size + 1, 0, none⟩)]) (by simp) (by simp [go_sem]) ?_
  refine (catch_panicking ⟨w.heap.size, 0, none⟩ ⟨w.heap.size + 1, 0, none⟩ _ _ 163 _ [] _ (by simp) c1 f1 c2 f2).mono ?_
  rintro e u' w'' ⟨rfl, rfl, rfl⟩
  have hb := grown_new (grown_new (grownBy_trans (W2_grown w (some b)) h1.rest) (p := ⟨w.heap.size, 0, none⟩) (Nat.le_refl _) .nilIface) (p := ⟨w.heap.size + 1, 0, none⟩) (by simp) (.bool false)
  refine ⟨.tuple #[.nilIface, .bool false], ?_, rfl, hb⟩
  simp [results, Tryz.results30, go_sem, c1, c2]

set_option maxHeartbeats 1000000 in
theorem whole_rest (mo : Nat) (hmo : mo ≤ 3000) (b : Nat) (s : Text) (w : World) (hr : Rd0 b s w) (h : s.length ≤ mo) (t : Tm) (c : UInt8) (r : Text) (hp : parse (s.length + 1) s = some (t, c :: r)) :
    Calls Tryz.prog 30 #[.pointer (some ⟨b, 0, none⟩), .int .i64 (mo : Int)] w fun e w' => e = .returned (.tuple #[.nilIface, .bool false]) ∧ w.grownBy w' (some b) := by
  have hmf : ∀ (fn : Fn) (first cap : Array Value) (w : World), (Instr.makeFunc fn first cap).run Tryz.prog w = .ok (.func fn first cap) w := fun _ _ _ _ => rfl
  have R2 : Rd0 b s (W2 w) := (hr.alloc _).alloc _
  have c0 := ((hr.alloc (.cells #[.nilIface] 63)).alloc (.cells #[.bool false] 4)).cell
  have C := term_c (s.length + 1) b s (W2 w) R2 (by omega) (by omega)
  have hlt := hr.lt
  rw [hp] at C
  clear hp
  go_enter_defers Tryz.func30, Tryz.ntmps30
  go_wp2_with fail
  refine term_use C (fun x2 r2 w1 n2 v2 o2 h1 E2 => ?_) (fun r1 w1 o1 h1 => by simp at o1)
  simp only [Option.some.injEq, Prod.mk.injEq] at o2
  obtain ⟨rfl, rfl⟩ := o2
  obtain ⟨c1, f1, c2, f2⟩ := two_cells hlt h1.rest
  have c3 : (w1.setCell ⟨w.heap.size, 0, none⟩ (.iface n2 v2)).cell? ⟨b, 0, none⟩ = some (.string ⟨(c :: r).toArray⟩) := (World.cell?_setCell_other _ _ _ _ (by first | (simp; done) | (simp; omega))).trans h1.cell
  have hb := grownBy_trans (W2_grown w (some b)) h1.rest
  clear C c0
  go_wp2_with fail
  refine leaves_cons (f := 49) (args := #[.pointer (some ⟨w.heap.size, 0, none⟩), .pointer (some ⟨w.heap.size + 1, 0, none⟩)]) (by simp) (by simp [go_sem]) ?_
  refine (catch_idle ⟨w.heap.size, 0, none⟩ ⟨w.heap.size + 1, 0, none⟩ _).mono ?_
  rintro e u' w'' ⟨rfl, rfl, rfl⟩
  refine ⟨.tuple #[.nilIface, .bool false], ?_, rfl, grown_new (grown_new (grown_new hb (p := ⟨w.heap.size, 0, none⟩) (Nat.le_refl _) _) (p := ⟨w.heap.size, 0, none⟩) (Nat.le_refl _) _) (p := ⟨w.heap.size + 1, 0, none⟩) (by simp) _⟩
  simp [results, Tryz.results30, go_sem, c1, c2]

set_option maxHeartbeats 1000000 in
theorem whole_ok (mo : Nat) (hmo : mo ≤ 3000) (b : Nat) (s : Text) (w : World) (hr : Rd0 b s w) (h : s.length ≤ mo) (t : Tm) (hp : parse (s.length + 1) s = some (t, [])) :
    Calls Tryz.prog 30 #[.pointer (some ⟨b, 0, none⟩), .int .i64 (mo : Int)] w fun e w' => e = .returned (.tuple #[enc t, .bool true]) ∧ w.grownBy w' (some b) := by
  have hmf : ∀ (fn : Fn) (first cap : Array Value) (w : World), (Instr.makeFunc fn first cap).run Tryz.prog w = .ok (.func fn first cap) w := fun _ _ _ _ => rfl
  have R2 : Rd0 b s (W2 w) := (hr.alloc _).alloc _
  have c0 := ((hr.alloc (.cells #[.nilIface] 63)).alloc (.cells #[.bool false] 4)).cell
  have C := term_c (s.length + 1) b s (W2 w) R2 (by omega) (by omega)
  have hlt := hr.lt
  rw [hp] at C
  clear hp
  go_enter_defers Tryz.func30, Tryz.ntmps30
  go_wp2_with fail
  refine term_use C (fun x2 r2 w1 n2 v2 o2 h1 E2 => ?_) (fun r1 w1 o1 h1 => by simp at o1)
  simp only [Option.some.injEq, Prod.mk.injEq] at o2
  obtain ⟨rfl, rfl⟩ := o2
  obtain ⟨c1, f1, c2, f2⟩ := two_cells hlt h1.rest
  have c3 : (w1.setCell ⟨w.heap.size, 0, none⟩ (.iface n2 v2)).cell? ⟨b, 0, none⟩ = some (.string ⟨#[]⟩) := (World.cell?_setCell_other _ _ _ _ (by first | (simp; done) | (simp; omega))).trans h1.cell
  have hb := grownBy_trans (W2_grown w (some b)) h1.rest
  clear C c0
  go_wp2_with fail
  refine leaves_cons (f := 49) (args := #[.pointer (some ⟨w.heap.size, 0, none⟩), .pointer (some ⟨w.heap.size + 1, 0, none⟩)]) (by simp) (by simp [go_sem]) ?_
  refine (catch_idle ⟨w.heap.size, 0, none⟩ ⟨w.heap.size + 1, 0, none⟩ _).mono ?_
  rintro e u' w'' ⟨rfl, rfl, rfl⟩
  refine ⟨.tuple #[.iface n2 v2, .bool true], ?_, by rw [E2.out], grown_new (grown_new (grown_new hb (p := ⟨w.heap.size, 0, none⟩) (Nat.le_refl _) _) (p := ⟨w.heap.size, 0, none⟩) (Nat.le_refl _) _) (p := ⟨w.heap.size + 1, 0, none⟩) (by simp) _⟩
  simp [results, Tryz.results30, go_sem, c1, c2]

/-- What a text of at most so many bytes is as a term, however many parts lie within each other. -/
def readU (mo : Nat) (s : Text) : Option Tm := if s.length ≤ mo then (parse (s.length + 1) s).bind fun x => if x.2 = [] then some x.1 else none else none
/-- What a text is as a term. -/
def readT (s : Text) : Option Tm := if s.length ≤ 120 then (parse (s.length + 1) s).bind fun x => if x.2 = [] ∧ x.1.depth ≤ 24 then some x.1 else none else none
theorem readT_readU (s : Text) : readT s = (readU 120 s).bind fun t => if t.depth ≤ 24 then some t else none := by
  unfold readT readU
  split
  · rcases parse (s.length + 1) s with _ | ⟨t, r⟩
    · rfl
    · simp only [Option.bind_some]
      by_cases h1 : r = [] <;> by_cases h2 : t.depth ≤ 24 <;> simp [h1, h2]
  · rfl
def ReadPost (w : World) : Option Tm → Ending → World → Prop
  | some t, e, w' => e = .returned (.tuple #[enc t, .bool true]) ∧ Below w.heap.size w w'
  | none, e, w' => e = .returned (.tuple #[.nilIface, .bool false]) ∧ Below w.heap.size w w'
theorem parse_depth : ∀ (k : Nat) (s r : Text) (t : Tm), parse k s = some (t, r) → t.depth ≤ k := by
  intro k
  induction k with
  | zero => intro s r t h; simp [parse] at h
  | succ k ih =>
    intro s r t h
    simp only [parse, Option.bind_eq_some_iff, Prod.exists] at h
    obtain ⟨c, s1, h1, h⟩ := h
    unfold pBehind at h
    split at h
    · simp only [pLong, Option.bind_eq_some_iff, Prod.exists] at h
      obtain ⟨a, r1, ha, b, r2, hb, h⟩ := h
      split at h
      · simp only [Option.some.injEq, Prod.mk.injEq] at h; rw [← h.1]; simp [Tm.depth]
      · simp at h
    split at h
    · simp only [pFn, Option.bind_eq_some_iff, Prod.exists, Option.some.injEq, Prod.mk.injEq] at h
      obtain ⟨a, r1, ha, b, r2, hb, rfl, _⟩ := h
      have := ih _ _ _ hb; simp only [Tm.depth]; omega
    split at h
    · simp only [pFix, Option.bind_eq_some_iff, Prod.exists] at h
      obtain ⟨a, r1, ha, b, r2, hb, h⟩ := h
      split at h
      · simp at h
      · simp only [Option.bind_eq_some_iff, Prod.exists, Option.some.injEq, Prod.mk.injEq] at h
        obtain ⟨c, r3, hc, rfl, _⟩ := h
        have := ih _ _ _ hc; simp only [Tm.depth]; omega
    split at h
    · simp only [pApp, Option.bind_eq_some_iff, Prod.exists] at h
      obtain ⟨a, r1, ha, b, r2, hb, z, r3, hz, h⟩ := h
      have := ih _ _ _ ha; have := ih _ _ _ hb
      split at h
      · simp only [Option.some.injEq, Prod.mk.injEq] at h; rw [← h.1]; simp only [Tm.depth]; omega
      · simp at h
    split at h
    · simp only [pBind, Option.bind_eq_some_iff, Prod.exists, Option.some.injEq, Prod.mk.injEq] at h
      obtain ⟨a, r1, ha, b, r2, hb, c, r3, hc, rfl, _⟩ := h
      have := ih _ _ _ hb; have := ih _ _ _ hc; simp only [Tm.depth]; omega
    split at h
    · simp only [pOp, Option.bind_eq_some_iff, Prod.exists, Option.some.injEq, Prod.mk.injEq] at h
      obtain ⟨a, r1, ha, b, r2, hb, rfl, _⟩ := h
      have := ih _ _ _ ha; have := ih _ _ _ hb; simp only [Tm.depth]; omega
    split at h
    · simp only [pSel, Option.bind_eq_some_iff, Prod.exists, Option.some.injEq, Prod.mk.injEq] at h
      obtain ⟨a, r1, ha, b, r2, hb, c, r3, hc, rfl, _⟩ := h
      have := ih _ _ _ ha; have := ih _ _ _ hb; have := ih _ _ _ hc; simp only [Tm.depth]; omega
    split at h
    · simp only [Option.some.injEq, Prod.mk.injEq] at h; rw [← h.1]; simp [Tm.depth]
    split at h
    · simp only [Option.some.injEq, Prod.mk.injEq] at h; rw [← h.1]; simp [Tm.depth]
    · simp at h

theorem readU_depth {mo : Nat} {s : Text} {t : Tm} (h : readU mo s = some t) : t.depth ≤ mo + 1 := by
  unfold readU at h
  split at h
  · rcases hp : parse (s.length + 1) s with _ | ⟨t', r⟩
    · rw [hp] at h; simp at h
    · rw [hp] at h
      simp only [Option.bind_some] at h
      split at h
      · simp only [Option.some.injEq] at h
        subst h
        have := parse_depth _ _ _ _ hp
        omega
      · simp at h
  · simp at h
def WholePost (b : Nat) (w : World) : Option Tm → Ending → World → Prop
  | some t, e, w' => e = .returned (.tuple #[enc t, .bool true]) ∧ w.grownBy w' (some b)
  | none, e, w' => e = .returned (.tuple #[.nilIface, .bool false]) ∧ w.grownBy w' (some b)
theorem whole_c (mo : Nat) (hmo : mo ≤ 3000) (b : Nat) (s : Text) (w : World) (hr : Rd0 b s w) (hl : s.length ≤ 9223372036854775807) : Calls Tryz.prog 30 #[.pointer (some ⟨b, 0, none⟩), .int .i64 (mo : Int)] w (WholePost b w (readU mo s)) := by
  by_cases h : s.length ≤ mo
  · rcases hp : parse (s.length + 1) s with _ | ⟨t, r⟩
    · have e : readU mo s = none := by simp only [readU, if_pos h, hp, Option.bind_none]
      rw [e]
      exact whole_none mo hmo b s w hr h hp
    · cases r with
      | cons c r =>
        have e : readU mo s = none := by simp [readU, hp]
        rw [e]
        exact whole_rest mo hmo b s w hr h t c r hp
      | nil =>
        have e : readU mo s = some t := by simp [readU, hp, h]
        rw [e]
        exact whole_ok mo hmo b s w hr h t hp
  · have e : readU mo s = none := by simp only [readU, if_neg h]
    rw [e]
    exact whole_long mo hmo b s w hr (by omega) hl
/-- A reader that has just been made. -/
abbrev RdW (w : World) (s : Text) : World := w.alloc (.cells #[.string ⟨s.toArray⟩, .nilFunc] 88)
theorem RdW_rd (w : World) (s : Text) : Rd0 w.heap.size s (RdW w s) := ⟨by simp [go_sem], by simp [go_sem], by simp [go_sem]⟩
theorem upto_c (mo : Nat) (hmo : mo ≤ 3000) (s : Text) (w : World) (hl : s.length ≤ 9223372036854775807) : Calls Tryz.prog 30 #[.pointer (some ⟨w.heap.size, 0, none⟩), .int .i64 (mo : Int)] (RdW w s) (ReadPost w (readU mo s)) := by
  have C := whole_c mo hmo w.heap.size s (RdW w s) (RdW_rd w s) hl
  rcases hr : readU mo s with _ | t <;> rw [hr] at C <;> refine C.mono ?_ <;> rintro e w1 ⟨rfl, hb1⟩
  all_goals exact ⟨rfl, ((Below.refl _ w).alloc (Nat.le_refl _) _).trans (below_of_grown hb1 (Nat.le_refl _) (by simp))⟩

set_option maxHeartbeats 1000000 in
theorem read_c (s : Text) (w : World) (hl : s.length ≤ 9223372036854775807) : Calls Tryz.prog 20 #[.string ⟨s.toArray⟩] w (ReadPost w (readT s)) := by
  have C := upto_c 120 (by omega) s w hl
  rw [readT_readU]
  go_enter Tryz.func20, Tryz.ntmps20
  go_wp2_with fail
  refine C.mono ?_
  clear C
  rcases hr : readU 120 s with _ | t
  · have HR := Lib.hid hr
    clear hr
    rintro e w1 ⟨rfl, hb1⟩
    go_wp2_with fail
    go_ret2
    rw [HR.out]
    exact ⟨rfl, hb1⟩
  · have hd := readU_depth hr
    have HR := Lib.hid hr
    clear hr
    rintro e w1 ⟨rfl, hb1⟩
    obtain ⟨n2, v2, E2⟩ := enc_gen t
    have D := depth_c 4000 t (by omega) (Nat.le_refl _) w1
    rw [E2] at D ⊢
    by_cases hd2 : t.depth ≤ 24
    · have E := Lib.hid (show ((some t : Option Tm).bind fun t => if t.depth ≤ 24 then some t else none) = some t by simp [hd2])
      have EE := Lib.hid E2
      clear E2
      go_wp2_with (go_at_call 31; refine D.mono ?_; rintro e w2 ⟨rfl, hb2⟩)
      go_ret2
      rw [HR.out, E.out]
      exact ⟨by rw [EE.out]; rfl, hb1.trans (hb2.mono hb1.size)⟩
    · have E := Lib.hid (show ((some t : Option Tm).bind fun t => if t.depth ≤ 24 then some t else none) = none by simp [hd2])
      clear E2
      go_wp2_with (go_at_call 31; refine D.mono ?_; rintro e w2 ⟨rfl, hb2⟩)
      go_ret2
      rw [HR.out, E.out]
      exact ⟨rfl, hb1.trans (hb2.mono hb1.size)⟩
end Go.Proofs.YtjfhncfbejephaaGreatDoor
