/- The program's iterator over all parts of a term: yieldParts, partsOf. -/
import Derived.RangeFuncNested
import Derived.RangeFuncBound
import Derived.RangeFuncCalls
import Derived.RangeFuncLeaves
import Derived.Shelf.Abstract
import Derived.Shelf.RegionOpen
import Derived.WalkKit
import Derived.OwnWalkIn
import Derived.TacticsInMore
import Derived.LoopNIn
import Derived.LoopIn
import Derived.Test.YtpiahmdgkmkhiaaEach
namespace Go.Proofs.Ytpiahmdgkmkhiaa
open Go.RowKit Go.Shelf
open Ff
set_option linter.unusedVariables false
attribute [local go_sem] Oper.semAt_some

/-- A method called through the interface, within a fence. -/
theorem wpListIn_invoke {n : Nat} {P : Program} {ops : Array Oper} {rest : List Oper} {o : Oper} {a : Act} {Q : Exit → Act → World → Prop} {w : World} (hgd : o.guard = none) (r : Operand) (m : String) (t : TypeId) (v : Value)
    (ho : o.op = .call { callee := .invoke r m, args := #[], argTypes := #[] }) (hr : a.eval r = .iface t v) (f : FuncId) (hm : (method (P.types.size + 100) t v m).run P w = .ok (f, v) w)
    (hf : (callFunc f #[v]).run P w = .ok (.enter f #[v]) w) (S : Value → World → Prop) (hC : Calls P f #[v] w fun e w' => ∃ x, e = .returned x ∧ S x w')
    (h : ∀ x w', S x w' → wpListIn Fence.wide n P ops Q rest (a.put o.dst x) w') : wpListIn Fence.wide n P ops Q (o :: rest) a w := by
  refine wpListIn_plain hgd fun K hK => ?_
  have hrun : (execOp a.eval o).run P w = .ok (.enter f #[v]) w := by
    unfold execOp
    simp only [ho, resolve, invoke, callMethod, Sem.run_bind, Sem.run_pure, Result.andThen_ok, List.map_toArray, List.map_nil, hr]
    simp [hm, hf, Sem.run_bind, go_sem]
  unfold Oper.wpIn
  refine ⟨fun _ _ => trivial, ?_⟩
  have hs : o.semAt Fence.wide.round a.eval = execOp a.eval o := by simp [Oper.semAt, Fence.wide]
  rw [hs, hrun, Oper.uponIn_enter]
  refine ⟨fun h => (by cases h), ?_⟩
  refine callsIn_wide.2 (hC.mono ?_)
  rintro e w' ⟨x, rfl, hS⟩
  exact hK _ _ (h x w' hS)

/-- What lay in cells lies as it lay, but for the blocks that T tells. -/
def KeepT (T : World → Nat → Prop) (A B : World) : Prop :=
  A.heap.size ≤ B.heap.size ∧ (∀ (j : Nat) (o : Obj), A.heap[j]? = some o → o.isCells = true → ¬ T A j → B.heap[j]? = some o) ∧ ∀ j, T B j → T A j ∨ A.heap.size ≤ j
theorem KeepT.trans {T : World → Nat → Prop} {A B C : World} (h : KeepT T A B) (k : KeepT T B C) : KeepT T A C := by
  refine ⟨Nat.le_trans h.1 k.1, fun j o hj ho ht => k.2.1 j o (h.2.1 j o hj ho ht) ho (fun hb => ?_), fun j hj => ?_⟩
  · have hlt : j < A.heap.size := (Array.getElem?_eq_some_iff.1 hj).1
    rcases h.2.2 j hb with h1 | h1
    · exact ht h1
    · omega
  · rcases k.2.2 j hj with h1 | h1
    · exact h.2.2 j h1
    · exact .inr (Nat.le_trans h.1 h1)
theorem cells_of_cell {A : World} {p : Addr} {v : Value} (h : A.cell? p = some v) : ∃ o : Obj, A.heap[p.block]? = some o ∧ o.isCells = true := by
  unfold World.cell? at h
  split at h
  · rename_i hh; exact ⟨_, hh, rfl⟩
  · cases h
theorem KeepT.cell {T : World → Nat → Prop} {A B : World} {p : Addr} {v : Value} (h : KeepT T A B) (hp : A.cell? p = some v) (ht : ¬ T A p.block) : B.cell? p = some v := by
  obtain ⟨o, ho, hc⟩ := cells_of_cell hp
  rw [World.cell?_of_block (w := A) ((h.2.1 _ o ho hc ht).trans ho.symm)]
  exact hp
theorem grown_none {A B : World} (h : Below A.heap.size A B) : A.grownBy B none := ⟨h.os, h.tape, h.output, h.size, fun j hj _ => h.block j hj⟩
/-- What is asked of T: growth alone tells no block of it. -/
def Told (n₀ : Nat) (T : World → Nat → Prop) : Prop := (∀ A B, n₀ ≤ A.heap.size → Below A.heap.size A B → ∀ j, T B j → T A j) ∧ ∀ A, n₀ ≤ A.heap.size → ∀ j, T A j → j < A.heap.size
theorem KeepT.still {n₀ : Nat} {T : World → Nat → Prop} (hT : Told n₀ T) {A B : World} (hn : n₀ ≤ A.heap.size) (h : Below A.heap.size A B) : KeepT T A B :=
  ⟨h.size, fun j o hj _ _ => (h.block j (Array.getElem?_eq_some_iff.1 hj).1).trans hj, fun j hj => .inl (hT.1 A B hn h j hj)⟩
theorem parts_pos (t : Tm) : 1 ≤ (parts t).length := by rw [parts_kids]; simp

theorem YieldAt.any {F : Fence} (hd : F.depth = none) {m : Nat} (m' : Nat) {P : Program} {l : Nat} {args : Array Value} {W : World} {R : Ending → World → Prop} (h : YieldAt F m P l args W R) : YieldAt F m' P l args W R := by
  obtain ⟨fn, tmps, assign, body, hy, hR⟩ := h
  exact ⟨fn, tmps, assign, body, hy, ⟨hR.1, fun c cs _ => hR.2 c cs (fun d h => by rw [hd] at h; cases h)⟩⟩

/-- What a round does, whatever the depth. -/
def Yields (l n₀ N : Nat) (T : World → Nat → Prop) (J Jx : List Tm → World → Prop) : Prop :=
  ∀ m pre x W, J pre W → pre.length < N → YieldAt Fence.wide m Try.prog l #[enc x] W fun e W' =>
    (e = .returned (.bool true) ∧ J (pre ++ [x]) W' ∧ KeepT T W W') ∨ (e = .returned (.bool false) ∧ Jx (pre ++ [x]) W')
def YieldsC (l n₀ N : Nat) (T : World → Nat → Prop) (J Jx : List Tm → World → Prop) (d : Nat) : Prop :=
  ∀ (t : Tm) (n : Nat) (pre : List Tm) (W : World), t.depth ≤ d → n₀ ≤ W.heap.size → J pre W → pre.length + (parts t).length ≤ N →
    CallsIn Fence.wide n Try.prog 59 #[enc t, .func (.yield l) #[] #[]] W fun e W' =>
      (e = .returned (.bool true) ∧ J (pre ++ parts t) W' ∧ KeepT T W W') ∨ (e = .returned (.bool false) ∧ ∃ q, q <+: parts t ∧ Jx (pre ++ q) W')

set_option maxRecDepth 100000 in
set_option maxHeartbeats 2000000 in
theorem yields_step {l n₀ N B : Nat} {T : World → Nat → Prop} {J Jx : List Tm → World → Prop} (hT : Told n₀ T) (hJ : AbidesFrom B J) (hY : Yields l n₀ N T J Jx) (d : Nat) (ih : YieldsC l n₀ N T J Jx d) : YieldsC l n₀ N T J Jx (d + 1) := by
  intro t n pre W ht hn hj hN
  have hkl : t.kids.length ≤ 3 := by cases t <;> simp [Tm.kids]
  have hpos := parts_pos t
  obtain ⟨fn, tmps, assign, body, hy, hR⟩ := hY (n - 1) pre t W hj (by omega)
  rw [enc_ty t] at hy ⊢
  have HP := Lib.hid hpos
  have HNN := Lib.hid hN
  clear hpos hN
  refine callsIn_of_wp Try.func59 rfl trivial ?_ rfl
  simp only [Try.ntmps59, List.size_toArray, List.length_cons, List.length_nil, Nat.reduceAdd, Nat.reduceSub, Array.replicate_succ, Array.replicate_zero, List.push_toArray, List.append_toArray, List.nil_append, List.cons_append]
  gi_wp2
  refine ⟨fun h => (by cases h), ?_⟩
  refine hR.mono ?_
  clear hR hy
  rintro e W3 (⟨rfl, hJ3, hk3⟩ | ⟨rfl, hJx3⟩)
  · have hn3 : n₀ ≤ W3.heap.size := Nat.le_trans hn hk3.1
    gi_wp2_with (refine wpListIn_invoke rfl _ _ (ty t) (pl t) rfl rfl (kf t) (kids_m t _ (by unfold KidsName; kernel_rfl) _) (kids_f t _) (fun v w' => SliceOf W3.heap.size w' v (t.kids.map enc) ∧ Below W3.heap.size W3 w') (kids_c t _) ?_; rintro x w1 ⟨hs, hb⟩; obtain ⟨a, rfl, hcell⟩ := hs.uni; clear hs; have HC := Lib.hid hcell; clear hcell)
    have hj1 : J (pre ++ before t 0) w1 := hJ _ _ _ none (by simpa [before] using hJ3) (grown_none hb) (fun r e => by cases e)
    have hn1 : n₀ ≤ w1.heap.size := Nat.le_trans hn3 hb.size
    have hk1 := hk3.trans (KeepT.still hT hn3 hb)
    obtain ⟨W1, hW1⟩ : ∃ W1, w1 = W1 := ⟨_, rfl⟩
    subst hW1
    gi_loopw [14] (fun i wr => ∃ k : Nat, k ≤ t.kids.length ∧ i = .int .i64 k ∧ J (pre ++ before t k) wr ∧ KeepT T w1 wr) (fun i _ => t.kids.length - (intOf i).toNat)
    case atStart => exact ⟨0, Nat.zero_le _, rfl, hj1, KeepT.still hT hn1 (Below.refl _ _)⟩
    case round =>
      obtain ⟨k, hkl2, rfl, hjk, hK⟩ := hrel
      by_cases hlt : k < t.kids.length
      · obtain ⟨s, hs⟩ : ∃ s, t.kids[k]? = some s := ⟨_, List.getElem?_eq_getElem hlt⟩
        obtain ⟨g, rfl, hg1, hg2, hc⟩ := HC.out k (enc s) (by simp [hs])
        have hc2 := hK.cell (p := ⟨g, k, none⟩) hc (fun htg => by have := hT.2 W3 hn3 g (hT.1 _ _ hn3 hb g htg); omega)
        have hmem := List.mem_of_getElem? hs
        have hbs := before_succ t k s hs
        have hbl := before_le t (k + 1)
        have hle : (pre ++ before t k).length + (parts s).length ≤ N := by
          have := HNN.out
          rw [hbs, List.length_append] at hbl
          rw [List.length_append]
          omega
        have C := ih s (n - 1) (pre ++ before t k) wr (by have := kid_depth hmem; omega) (Nat.le_trans hn1 hK.1) hjk hle
        have HBS := Lib.hid hbs
        have HS := Lib.hid hs
        clear hs hc HC hbs hbl hmem hle
        gi_wp2_with (refine ⟨trivial, fun h => (by cases h), ?_⟩; gi_at_call 59; refine C.mono ?_; clear C; rintro e w2 (⟨rfl, hj2, hk2⟩ | ⟨rfl, q, hq, hx2⟩))
        · refine ⟨⟨k + 1, by omega, by go_num, by rw [HBS.out, ← List.append_assoc]; exact hj2, hK.trans hk2⟩, by simp [intOf]; omega⟩
        · go_ret
          refine .inr ⟨rfl, before t k ++ q, ?_, by rw [← List.append_assoc]; exact hx2⟩
          have e := before_succ t k s HS.out
          obtain ⟨r, hr⟩ := hq
          have hall : ∃ z, parts t = before t (k + 1) ++ z := ⟨(t.kids.drop (k + 1)).flatMap parts, by
            rw [parts_kids]; unfold before; rw [List.cons_append, ← List.flatMap_append, List.take_append_drop]⟩
          obtain ⟨z, hz⟩ := hall
          exact ⟨r ++ z, by rw [hz, e, ← hr]; simp [List.append_assoc]⟩
      · have hk2 : k = t.kids.length := by omega
        subst hk2
        rw [before_all] at hjk
        gi_wp2
        go_ret
        exact .inl ⟨rfl, hjk, hk1.trans hK⟩
  · gi_wp2
    go_ret
    exact .inr ⟨rfl, [t], ⟨t.kids.flatMap parts, by rw [parts_kids]; rfl⟩, hJx3⟩
theorem yields_c {l n₀ N B : Nat} {T : World → Nat → Prop} {J Jx : List Tm → World → Prop} (hT : Told n₀ T) (hJ : AbidesFrom B J) (hY : Yields l n₀ N T J Jx) : ∀ d, YieldsC l n₀ N T J Jx d
  | 0 => fun t _ _ _ ht => absurd ht (by have := t.depth_pos; omega)
  | d + 1 => yields_step hT hJ hY d (yields_c hT hJ hY d)

set_option maxHeartbeats 1000000 in
/-- What partsOf returns: the function value gives all parts, each ahead of its kids. -/
theorem parts_stops (n Bt n₀ : Nat) (T : World → Nat → Prop) (hT : Told n₀ T) (t : Tm) (w : World) (hBt : Bt < w.heap.size) (hn₀ : n₀ ≤ w.heap.size) (hc : w.cell? ⟨Bt, 0, none⟩ = some (enc t)) :
    SeqStopsK Fence.wide n Try.prog 58 #[.pointer (some ⟨Bt, 0, none⟩)] (fun x : Tm => #[enc x]) (KeepT T) (fun ys => ys = parts t) (fun pre => pre <+: parts t) (parts t).length w := by
  intro l J Jx W hW hJ hJx hY h0
  have hp := yields_c hT hJ (l := l) (N := (parts t).length) (Jx := Jx) (fun m pre x W1 h1 h2 => YieldAt.any rfl m (hY pre x W1 h1 h2)) t.depth t (n - 1) [] W (Nat.le_refl _) (Nat.le_trans hn₀ hW.size) h0 (by simp)
  have hc2 := (hW.cell (p := ⟨Bt, 0, none⟩) hBt).trans hc
  rw [enc_ty t] at hc2 hp
  show CallsIn Fence.wide n Try.prog 58 #[.func (.yield l) #[] #[], .pointer (some ⟨Bt, 0, none⟩)] W _
  refine callsIn_of_wp Try.func58 rfl trivial ?_ rfl
  simp only [Try.ntmps58, List.size_toArray, List.length_cons, List.length_nil, Nat.reduceAdd, Nat.reduceSub, Array.replicate_succ, Array.replicate_zero, List.push_toArray, List.append_toArray, List.nil_append, List.cons_append]
  gi_wp2_with (refine ⟨trivial, fun h => (by cases h), ?_⟩; gi_at_call 59; refine hp.mono ?_; clear hp; rintro e W1 (⟨rfl, hJ1, _⟩ | ⟨rfl, q, hq, hx⟩))
  · go_end0
    exact ⟨⟨_, rfl⟩, .inl ⟨_, rfl, by simpa using hJ1⟩⟩
  · go_end0
    exact ⟨⟨_, rfl⟩, .inr ⟨q, hq, by simpa using hx⟩⟩

set_option maxHeartbeats 1000000 in
theorem partsOf_c (n : Nat) (t : Tm) (w : World) :
    CallsIn Fence.wide n Try.prog 39 #[enc t] w fun e w' => e = .returned (.func (.func 58) #[] #[.pointer (some ⟨w.heap.size, 0, none⟩)]) ∧ w' = w.alloc (.cells #[enc t] 39) := by
  rw [enc_ty t]
  refine callsIn_of_wp Try.func39 rfl trivial ?_ rfl
  simp only [Try.ntmps39, List.size_toArray, List.length_cons, List.length_nil, Nat.reduceAdd, Nat.reduceSub, Array.replicate_succ, Array.replicate_zero, List.push_toArray, List.append_toArray, List.nil_append, List.cons_append]
  gi_wp2
  go_ret
  exact ⟨rfl, rfl⟩
end Go.Proofs.Ytpiahmdgkmkhiaa
