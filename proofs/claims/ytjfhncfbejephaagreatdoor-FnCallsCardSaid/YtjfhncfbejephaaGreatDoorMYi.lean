import Derived.Test.YtjfhncfbejephaaGreatDoorMSc
import Derived.Maps.AppendAt
import Derived.RangeFuncNested
import Derived.RangeFuncBound
import Derived.RangeFuncCalls
import Derived.RangeFuncLeaves
import Derived.Shelf.Abstract
import Derived.Shelf.RegionOpen
import Derived.WalkKit
import Derived.OwnWalkIn
import Derived.TacticsInMore
import Derived.LoopNIn
import Derived.LoopIn
/- The model's l1Each: all parts of a term, each ahead of those within it. -/
namespace Go.Proofs.YtjfhncfbejephaaGreatDoor
open Go.RowKit
open Ff
set_option linter.unusedVariables false

/-- All parts, each ahead of those within it. -/
def parts : Tm → List Tm
  | .num n => [.num n]
  | .var c => [.var c]
  | .fn c b => .fn c b :: parts b
  | .fix f c b => .fix f c b :: parts b
  | .app f a => .app f a :: (parts f ++ parts a)
  | .bind c v b => .bind c v b :: (parts v ++ parts b)
  | .op s l r => .op s l r :: (parts l ++ parts r)
  | .sel a b c => .sel a b c :: (parts a ++ (parts b ++ parts c))
theorem parts_kids (t : Tm) : parts t = t :: t.kids.flatMap parts := by cases t <;> simp [parts, Tm.kids]
/-- The parts of the first k kids, behind the term itself. -/
def before (t : Tm) (k : Nat) : List Tm := t :: (t.kids.take k).flatMap parts
theorem before_succ (t : Tm) (k : Nat) (s : Tm) (h : t.kids[k]? = some s) : before t (k + 1) = before t k ++ parts s := by
  unfold before
  rw [List.take_add_one, h]
  simp
theorem before_all (t : Tm) : before t t.kids.length = parts t := by rw [parts_kids]; simp [before]
theorem before_le (t : Tm) (k : Nat) : (before t k).length ≤ (parts t).length := by
  have e : parts t = before t k ++ (t.kids.drop k).flatMap parts := by
    rw [parts_kids]
    unfold before
    rw [List.cons_append, ← List.flatMap_append, List.take_append_drop]
  rw [e]
  simp
/-- What the call comes to: a row of the call's own, each part of which stands for a part of the term. -/
def EachPost (t : Tm) (B : Nat) (w : World) (e : Ending) (w' : World) : Prop :=
  ∃ v xs, e = .returned v ∧ Below w.heap.size w w' ∧ w'.ownsRow w.heap.size 78 4 v (parts t).length xs ∧ v ≠ .slice none 0 0 ∧
    ∀ i p, (parts t)[i]? = some p → Rep (fun g => g < B) w' p (four (fun j => (xs[j]?).getD undef) i)
theorem parts_kid_le {t s : Tm} (h : s ∈ t.kids) : (parts s).length ≤ (parts t).length := by
  rw [parts_kids t]
  obtain ⟨a, b, e⟩ := List.append_of_mem h
  rw [e]
  simp
  omega
/-- The cells of terms are one cell each. -/
theorem cells_one {xs : List Value} {l : List Tm} (hl : xs.length = l.length * 4) (h : ∀ i p, l[i]? = some p → Junk (four (fun j => (xs[j]?).getD undef) i)) : ∀ u ∈ xs, u.oneCell' = true := by
  intro u hu
  obtain ⟨j, hj, rfl⟩ := List.getElem_of_mem hu
  have hi : j / 4 < l.length := by omega
  obtain ⟨k, n, st, a, ll, c, e⟩ := h (j / 4) _ (List.getElem?_eq_getElem hi)
  simp only [four, Value.agg.injEq, Array.mk.injEq, List.cons.injEq, and_true] at e
  obtain ⟨e0, e1, e2, e3⟩ := e
  have hx : xs[j]? = some xs[j] := List.getElem?_eq_getElem hj
  have h4 : j = 4 * (j / 4) ∨ j = 4 * (j / 4) + 1 ∨ j = 4 * (j / 4) + 2 ∨ j = 4 * (j / 4) + 3 := by omega
  have key : ∀ v : Value, (xs[j]?).getD undef = v → xs[j] = v := fun v hv => by rw [hx] at hv; exact hv
  rcases h4 with h4 | h4 | h4 | h4
  · rw [← h4] at e0; rw [key _ e0]; rfl
  · rw [← h4] at e1; rw [key _ e1]; rfl
  · rw [← h4] at e2; rw [key _ e2]; rfl
  · rw [← h4] at e3; rw [key _ e3]; rfl
theorem own_shape {W : World} {base : Nat} {e : TypeId} {size : Nat} {v : Value} {n : Nat} {xs : List Value} (h : W.ownsRow base e size v n xs) (hv : v ≠ .slice none 0 0) : ∃ g cap, v = .slice (some ⟨g, 0, none⟩) n cap := by
  obtain ⟨_, ⟨h1, _⟩ | ⟨g, cap, cur, h1, _⟩⟩ := h
  · exact absurd h1 hv
  · exact ⟨g, cap, h1⟩
/-- What holds at a round's head. -/
def EachAt (t : Tm) (B : Nat) (w : World) (k : Nat) (v : Value) (wr : World) : Prop :=
  ∃ xs : List Value, Below w.heap.size w wr ∧ wr.ownsRow w.heap.size 78 4 v (before t k).length xs ∧ v ≠ .slice none 0 0 ∧ ∀ i p, (before t k)[i]? = some p → Rep (fun g => g < B) wr p (four (fun j => (xs[j]?).getD undef) i)
theorem each_start {t : Tm} {B g cap : Nat} {w : World} (h : Rep (fun g => g < B) w t (tmHead t g cap)) (hB : B ≤ w.heap.size) (o : Obj) :
    EachAt t B w 0 (.slice (some ⟨w.heap.size + 1, 0, none⟩) 1 1) ((w.alloc o).alloc (.cells #[.int .u8 (kindOf t : Int), .int .i64 (numOf t : Int), .string ⟨(namesOf t).toArray⟩, .slice (some ⟨g, 0, none⟩) t.kids.length cap] 78)) := by
  have hb := below_two w o (.cells #[.int .u8 (kindOf t : Int), .int .i64 (numOf t : Int), .string ⟨(namesOf t).toArray⟩, .slice (some ⟨g, 0, none⟩) t.kids.length cap] 78)
  have ho := World.ownsRow_lit (base := w.heap.size) (e := 78) (size := 4) (w.alloc o) #[.int .u8 (kindOf t : Int), .int .i64 (numOf t : Int), .string ⟨(namesOf t).toArray⟩, .slice (some ⟨g, 0, none⟩) t.kids.length cap] 1 (by simp) (by simp [maxLen]) (by simp)
  simp only [World.size_alloc] at ho
  refine ⟨_, hb, ho, by simp, fun i p hi => ?_⟩
  have h0 : i = 0 ∧ p = t := by
    cases i with
    | zero => simp [before] at hi; exact ⟨rfl, hi.symm⟩
    | succ i => simp [before] at hi
  obtain ⟨rfl, rfl⟩ := h0
  exact h.keep (fun g' hg' => hb.block g' (by omega)) (fun g' hg' => hg')
theorem each_round {t s : Tm} {B k : Nat} {w wr w2 w3 : World} {v' : Value} {xs xs2 : List Value} (hs : t.kids[k]? = some s) (hB : B ≤ w.heap.size) (hbr : Below w.heap.size w wr) (hrep : ∀ i p, (before t k)[i]? = some p → Rep (fun g => g < B) wr p (four (fun j => (xs[j]?).getD undef) i)) (hlen : xs.length = (before t k).length * 4)
    (hb2 : Below w.heap.size w w2) (hrep2 : ∀ i p, (parts s)[i]? = some p → Rep (fun g => g < B) w2 p (four (fun j => (xs2[j]?).getD undef) i))
    (hown' : w3.ownsRow w.heap.size 78 4 v' ((before t k).length + (parts s).length) (xs ++ xs2)) (hb3 : Below w.heap.size w w3) (hv' : v' ≠ .slice none 0 0) : EachAt t B w (k + 1) v' w3 := by
  have e := before_succ t k s hs
  refine ⟨_, hb3, by rw [e, List.length_append]; exact hown', hv', fun i p hi => ?_⟩
  rw [e] at hi
  by_cases hlt : i < (before t k).length
  · rw [List.getElem?_append_left hlt] at hi
    have e4 : four (fun j => ((xs ++ xs2)[j]?).getD undef) i = four (fun j => (xs[j]?).getD undef) i := by
      unfold four
      simp only [List.getElem?_append_left (show 4 * i < xs.length by omega), List.getElem?_append_left (show 4 * i + 1 < xs.length by omega), List.getElem?_append_left (show 4 * i + 2 < xs.length by omega), List.getElem?_append_left (show 4 * i + 3 < xs.length by omega)]
    rw [e4]
    exact (hrep i p hi).keep (fun g' hg' => (hb3.block g' (by omega)).trans (hbr.block g' (by omega)).symm) (fun g' hg' => hg')
  · obtain ⟨d, rfl⟩ : ∃ d, i = (before t k).length + d := ⟨i - (before t k).length, by omega⟩
    rw [List.getElem?_append_right (by omega)] at hi
    simp only [Nat.add_sub_cancel_left] at hi
    have e4 : four (fun j => ((xs ++ xs2)[j]?).getD undef) ((before t k).length + d) = four (fun j => (xs2[j]?).getD undef) d := by
      unfold four
      have q : ∀ r, 4 * ((before t k).length + d) + r = xs.length + (4 * d + r) := by intro r; omega
      have q0 := q 0
      simp only [Nat.add_zero] at q0
      simp only [q0, Nat.add_assoc, List.getElem?_append_right (Nat.le_add_right _ _), Nat.add_sub_cancel_left]
    rw [e4]
    exact (hrep2 d p hi).keep (fun g' hg' => (hb3.block g' (by omega)).trans (hb2.block g' (by omega)).symm) (fun g' hg' => hg')

end Go.Proofs.YtjfhncfbejephaaGreatDoor

/- The program's iterator over all parts of a term: yieldParts, partsOf. -/
namespace Go.Proofs.YtjfhncfbejephaaGreatDoor
open Go.RowKit Go.Shelf
open Ff
set_option linter.unusedVariables false
attribute [local go_sem] Oper.semAt_some

/-- A method called through the interface, within a fence. -/
theorem wpListIn_invoke {n : Nat} {P : Program} {ops : Array Oper} {rest : List Oper} {o : Oper} {a : Act} {Q : Exit → Act → World → Prop} {w : World} (hgd : o.guard = none) (r : Operand) (m : String) (t : TypeId) (v : Value)
    (ho : o.op = .call { callee := .invoke r m, args := #[], argTypes := #[] }) (hr : a.eval r = .iface t v) (f : FuncId) (hm : (method (P.types.size + 100) t v m).run P w = .ok (f, v) w)
    (hf : (callFunc f #[v]).run P w = .ok (.enter f #[v]) w) (S : Value → World → Prop) (hC : Calls P f #[v] w fun e w' => ∃ x, e = .returned x ∧ S x w')
    (h : ∀ x w', S x w' → wpListIn Fence.wide n P ops Q rest (a.put o.dst x) w') : wpListIn Fence.wide n P ops Q (o :: rest) a w := by
  refine wpListIn_plain hgd fun K hK => ?_
  have hrun : (execOp a.eval o).run P w = .ok (.enter f #[v]) w := by
    unfold execOp
    simp only [ho, resolve, invoke, callMethod, Sem.run_bind, Sem.run_pure, Result.andThen_ok, List.map_toArray, List.map_nil, hr]
    simp [hm, hf, Sem.run_bind, go_sem]
  unfold Oper.wpIn
  refine ⟨fun _ _ => trivial, ?_⟩
  have hs : o.semAt Fence.wide.round a.eval = execOp a.eval o := by simp [Oper.semAt, Fence.wide]
  rw [hs, hrun, Oper.uponIn_enter]
  refine ⟨fun h => (by cases h), ?_⟩
  refine callsIn_wide.2 (hC.mono ?_)
  rintro e w' ⟨x, rfl, hS⟩
  exact hK _ _ (h x w' hS)

/-- What lay in cells lies as it lay, but for the blocks that T tells. -/
def KeepT (T : World → Nat → Prop) (A B : World) : Prop :=
  A.heap.size ≤ B.heap.size ∧ (∀ (j : Nat) (o : Obj), A.heap[j]? = some o → o.isCells = true → ¬ T A j → B.heap[j]? = some o) ∧ ∀ j, T B j → T A j ∨ A.heap.size ≤ j
theorem KeepT.trans {T : World → Nat → Prop} {A B C : World} (h : KeepT T A B) (k : KeepT T B C) : KeepT T A C := by
  refine ⟨Nat.le_trans h.1 k.1, fun j o hj ho ht => k.2.1 j o (h.2.1 j o hj ho ht) ho (fun hb => ?_), fun j hj => ?_⟩
  · have hlt : j < A.heap.size := (Array.getElem?_eq_some_iff.1 hj).1
    rcases h.2.2 j hb with h1 | h1
    · exact ht h1
    · omega
  · rcases k.2.2 j hj with h1 | h1
    · exact h.2.2 j h1
    · exact .inr (Nat.le_trans h.1 h1)
theorem cells_of_cell {A : World} {p : Addr} {v : Value} (h : A.cell? p = some v) : ∃ o : Obj, A.heap[p.block]? = some o ∧ o.isCells = true := by
  unfold World.cell? at h
  split at h
  · rename_i hh; exact ⟨_, hh, rfl⟩
  · cases h
theorem KeepT.cell {T : World → Nat → Prop} {A B : World} {p : Addr} {v : Value} (h : KeepT T A B) (hp : A.cell? p = some v) (ht : ¬ T A p.block) : B.cell? p = some v := by
  obtain ⟨o, ho, hc⟩ := cells_of_cell hp
  rw [World.cell?_of_block (w := A) ((h.2.1 _ o ho hc ht).trans ho.symm)]
  exact hp
theorem grown_none {A B : World} (h : Below A.heap.size A B) : A.grownBy B none := ⟨h.os, h.tape, h.output, h.size, fun j hj _ => h.block j hj⟩
/-- What is asked of T: growth alone tells no block of it. -/
def Told (n₀ : Nat) (T : World → Nat → Prop) : Prop := (∀ A B, n₀ ≤ A.heap.size → Below A.heap.size A B → ∀ j, T B j → T A j) ∧ ∀ A, n₀ ≤ A.heap.size → ∀ j, T A j → j < A.heap.size
theorem KeepT.still {n₀ : Nat} {T : World → Nat → Prop} (hT : Told n₀ T) {A B : World} (hn : n₀ ≤ A.heap.size) (h : Below A.heap.size A B) : KeepT T A B :=
  ⟨h.size, fun j o hj _ _ => (h.block j (Array.getElem?_eq_some_iff.1 hj).1).trans hj, fun j hj => .inl (hT.1 A B hn h j hj)⟩
theorem parts_pos (t : Tm) : 1 ≤ (parts t).length := by rw [parts_kids]; simp

theorem YieldAt.any {F : Fence} (hd : F.depth = none) {m : Nat} (m' : Nat) {P : Program} {l : Nat} {args : Array Value} {W : World} {R : Ending → World → Prop} (h : YieldAt F m P l args W R) : YieldAt F m' P l args W R := by
  obtain ⟨fn, tmps, assign, body, hy, hR⟩ := h
  exact ⟨fn, tmps, assign, body, hy, ⟨hR.1, fun c cs _ => hR.2 c cs (fun d h => by rw [hd] at h; cases h)⟩⟩

/-- What a round does, whatever the depth. -/
def Yields (l n₀ N : Nat) (T : World → Nat → Prop) (J Jx : List Tm → World → Prop) : Prop :=
  ∀ m pre x W, J pre W → pre.length < N → YieldAt Fence.wide m Tryz.prog l #[enc x] W fun e W' =>
    (e = .returned (.bool true) ∧ J (pre ++ [x]) W' ∧ KeepT T W W') ∨ (e = .returned (.bool false) ∧ Jx (pre ++ [x]) W')
def YieldsC (l n₀ N : Nat) (T : World → Nat → Prop) (J Jx : List Tm → World → Prop) (d : Nat) : Prop :=
  ∀ (t : Tm) (n : Nat) (pre : List Tm) (W : World), t.depth ≤ d → n₀ ≤ W.heap.size → J pre W → pre.length + (parts t).length ≤ N →
    CallsIn Fence.wide n Tryz.prog 33 #[enc t, .func (.yield l) #[] #[]] W fun e W' =>
      (e = .returned (.bool true) ∧ J (pre ++ parts t) W' ∧ KeepT T W W') ∨ (e = .returned (.bool false) ∧ ∃ q, q <+: parts t ∧ Jx (pre ++ q) W')

set_option maxRecDepth 100000 in
set_option maxHeartbeats 2000000 in
theorem yields_step {l n₀ N B : Nat} {T : World → Nat → Prop} {J Jx : List Tm → World → Prop} (hT : Told n₀ T) (hJ : AbidesFrom B J) (hY : Yields l n₀ N T J Jx) (d : Nat) (ih : YieldsC l n₀ N T J Jx d) : YieldsC l n₀ N T J Jx (d + 1) := by
  intro t n pre W ht hn hj hN
  have hkl : t.kids.length ≤ 3 := by cases t <;> simp [Tm.kids]
  have hpos := parts_pos t
  obtain ⟨fn, tmps, assign, body, hy, hR⟩ := hY (n - 1) pre t W hj (by omega)
  rw [enc_ty t] at hy ⊢
  have HP := Lib.hid hpos
  have HNN := Lib.hid hN
  clear hpos hN
  refine callsIn_of_wp Tryz.func33 rfl trivial ?_ rfl
  simp only [Tryz.ntmps33, List.size_toArray, List.length_cons, List.length_nil, Nat.reduceAdd, Nat.reduceSub, Array.replicate_succ, Array.replicate_zero, List.push_toArray, List.append_toArray, List.nil_append, List.cons_append]
  gi_wp2
  refine ⟨fun h => (by cases h), ?_⟩
  refine hR.mono ?_
  clear hR hy
  rintro e W3 (⟨rfl, hJ3, hk3⟩ | ⟨rfl, hJx3⟩)
  · have hn3 : n₀ ≤ W3.heap.size := Nat.le_trans hn hk3.1
    gi_wp2_with (refine wpListIn_invoke rfl _ _ (ty t) (pl t) rfl rfl (kf t) (kids_m t _ (by unfold KidsName; kernel_rfl) _) (kids_f t _) (fun v w' => SliceOf W3.heap.size w' v (t.kids.map enc) ∧ Below W3.heap.size W3 w') (kids_c t _) ?_; rintro x w1 ⟨hs, hb⟩; obtain ⟨a, rfl, hcell⟩ := hs.uni; clear hs; have HC := Lib.hid hcell; clear hcell)
    have hj1 : J (pre ++ before t 0) w1 := hJ _ _ _ none (by simpa [before] using hJ3) (grown_none hb) (fun r e => by cases e)
    have hn1 : n₀ ≤ w1.heap.size := Nat.le_trans hn3 hb.size
    have hk1 := hk3.trans (KeepT.still hT hn3 hb)
    obtain ⟨W1, hW1⟩ : ∃ W1, w1 = W1 := ⟨_, rfl⟩
    subst hW1
    gi_loopw [14] (fun i wr => ∃ k : Nat, k ≤ t.kids.length ∧ i = .int .i64 k ∧ J (pre ++ before t k) wr ∧ KeepT T w1 wr) (fun i _ => t.kids.length - (intOf i).toNat)
    case atStart => exact ⟨0, Nat.zero_le _, rfl, hj1, KeepT.still hT hn1 (Below.refl _ _)⟩
    case round =>
      obtain ⟨k, hkl2, rfl, hjk, hK⟩ := hrel
      by_cases hlt : k < t.kids.length
      · obtain ⟨s, hs⟩ : ∃ s, t.kids[k]? = some s := ⟨_, List.getElem?_eq_getElem hlt⟩
        obtain ⟨g, rfl, hg1, hg2, hc⟩ := HC.out k (enc s) (by simp [hs])
        have hc2 := hK.cell (p := ⟨g, k, none⟩) hc (fun htg => by have := hT.2 W3 hn3 g (hT.1 _ _ hn3 hb g htg); omega)
        have hmem := List.mem_of_getElem? hs
        have hbs := before_succ t k s hs
        have hbl := before_le t (k + 1)
        have hle : (pre ++ before t k).length + (parts s).length ≤ N := by
          have := HNN.out
          rw [hbs, List.length_append] at hbl
          rw [List.length_append]
          omega
        have C := ih s (n - 1) (pre ++ before t k) wr (by have := kid_depth hmem; omega) (Nat.le_trans hn1 hK.1) hjk hle
        have HBS := Lib.hid hbs
        have HS := Lib.hid hs
        clear hs hc HC hbs hbl hmem hle
        gi_wp2_with (refine ⟨trivial, fun h => (by cases h), ?_⟩; gi_at_call 33; refine C.mono ?_; clear C; rintro e w2 (⟨rfl, hj2, hk2⟩ | ⟨rfl, q, hq, hx2⟩))
        · refine ⟨⟨k + 1, by omega, by go_num, by rw [HBS.out, ← List.append_assoc]; exact hj2, hK.trans hk2⟩, by simp [intOf]; omega⟩
        · go_ret
          refine .inr ⟨rfl, before t k ++ q, ?_, by rw [← List.append_assoc]; exact hx2⟩
          have e := before_succ t k s HS.out
          obtain ⟨r, hr⟩ := hq
          have hall : ∃ z, parts t = before t (k + 1) ++ z := ⟨(t.kids.drop (k + 1)).flatMap parts, by
            rw [parts_kids]; unfold before; rw [List.cons_append, ← List.flatMap_append, List.take_append_drop]⟩
          obtain ⟨z, hz⟩ := hall
          exact ⟨r ++ z, by rw [hz, e, ← hr]; simp [List.append_assoc]⟩
      · have hk2 : k = t.kids.length := by omega
        subst hk2
        rw [before_all] at hjk
        gi_wp2
        go_ret
        exact .inl ⟨rfl, hjk, hk1.trans hK⟩
  · gi_wp2
    go_ret
    exact .inr ⟨rfl, [t], ⟨t.kids.flatMap parts, by rw [parts_kids]; rfl⟩, hJx3⟩
theorem yields_c {l n₀ N B : Nat} {T : World → Nat → Prop} {J Jx : List Tm → World → Prop} (hT : Told n₀ T) (hJ : AbidesFrom B J) (hY : Yields l n₀ N T J Jx) : ∀ d, YieldsC l n₀ N T J Jx d
  | 0 => fun t _ _ _ ht => absurd ht (by have := t.depth_pos; omega)
  | d + 1 => yields_step hT hJ hY d (yields_c hT hJ hY d)

set_option maxHeartbeats 1000000 in
/-- What partsOf returns: the function value gives all parts, each ahead of its kids. -/
theorem parts_stops (n Bt n₀ : Nat) (T : World → Nat → Prop) (hT : Told n₀ T) (t : Tm) (w : World) (hBt : Bt < w.heap.size) (hn₀ : n₀ ≤ w.heap.size) (hc : w.cell? ⟨Bt, 0, none⟩ = some (enc t)) :
    SeqStopsK Fence.wide n Tryz.prog 32 #[.pointer (some ⟨Bt, 0, none⟩)] (fun x : Tm => #[enc x]) (KeepT T) (fun ys => ys = parts t) (fun pre => pre <+: parts t) (parts t).length w := by
  intro l J Jx W hW hJ hJx hY h0
  have hp := yields_c hT hJ (l := l) (N := (parts t).length) (Jx := Jx) (fun m pre x W1 h1 h2 => YieldAt.any rfl m (hY pre x W1 h1 h2)) t.depth t (n - 1) [] W (Nat.le_refl _) (Nat.le_trans hn₀ hW.size) h0 (by simp)
  have hc2 := (hW.cell (p := ⟨Bt, 0, none⟩) hBt).trans hc
  rw [enc_ty t] at hc2 hp
  show CallsIn Fence.wide n Tryz.prog 32 #[.func (.yield l) #[] #[], .pointer (some ⟨Bt, 0, none⟩)] W _
  refine callsIn_of_wp Tryz.func32 rfl trivial ?_ rfl
  simp only [Tryz.ntmps32, List.size_toArray, List.length_cons, List.length_nil, Nat.reduceAdd, Nat.reduceSub, Array.replicate_succ, Array.replicate_zero, List.push_toArray, List.append_toArray, List.nil_append, List.cons_append]
  gi_wp2_with (refine ⟨trivial, fun h => (by cases h), ?_⟩; gi_at_call 33; refine hp.mono ?_; clear hp; rintro e W1 (⟨rfl, hJ1, _⟩ | ⟨rfl, q, hq, hx⟩))
  · go_end0
    exact ⟨⟨_, rfl⟩, .inl ⟨_, rfl, by simpa using hJ1⟩⟩
  · go_end0
    exact ⟨⟨_, rfl⟩, .inr ⟨q, hq, by simpa using hx⟩⟩

set_option maxHeartbeats 1000000 in
theorem partsOf_c (n : Nat) (t : Tm) (w : World) :
    CallsIn Fence.wide n Tryz.prog 21 #[enc t] w fun e w' => e = .returned (.func (.func 32) #[] #[.pointer (some ⟨w.heap.size, 0, none⟩)]) ∧ w' = w.alloc (.cells #[enc t] 63) := by
  rw [enc_ty t]
  refine callsIn_of_wp Tryz.func21 rfl trivial ?_ rfl
  simp only [Tryz.ntmps21, List.size_toArray, List.length_cons, List.length_nil, Nat.reduceAdd, Nat.reduceSub, Array.replicate_succ, Array.replicate_zero, List.push_toArray, List.append_toArray, List.nil_append, List.cons_append]
  gi_wp2
  go_ret
  exact ⟨rfl, rfl⟩
end Go.Proofs.YtjfhncfbejephaaGreatDoor

/- SizeOf: the model's and the program's. -/
namespace Ff

/-- A term has no more parts than its text has bytes. -/
theorem parse_parts : ∀ (k : Nat) (s r : Text) (t : Tm), parse k s = some (t, r) → (Go.Proofs.YtjfhncfbejephaaGreatDoor.parts t).length + r.length ≤ s.length := by
  intro k
  induction k with
  | zero => intro s r t h; simp [parse] at h
  | succ k ih =>
    intro s r t h
    simp only [parse, Option.bind_eq_some_iff, Prod.exists] at h
    obtain ⟨c, s1, h1, h⟩ := h
    have l1 := next1_len h1
    have key : (Go.Proofs.YtjfhncfbejephaaGreatDoor.parts t).length + r.length ≤ s1.length + 1 := by
      unfold pBehind at h
      split at h
      · simp only [pLong, Option.bind_eq_some_iff, Prod.exists] at h
        obtain ⟨a, r1, ha, b, r2, hb, h⟩ := h
        have := next1_len ha; have := next1_len hb
        split at h
        · simp only [Option.some.injEq, Prod.mk.injEq] at h; obtain ⟨rfl, rfl⟩ := h; simp only [Go.Proofs.YtjfhncfbejephaaGreatDoor.parts, List.length_cons, List.length_nil]; omega
        · simp at h
      split at h
      · simp only [pFn, Option.bind_eq_some_iff, Prod.exists, Option.some.injEq, Prod.mk.injEq] at h
        obtain ⟨a, r1, ha, b, r2, hb, rfl, rfl⟩ := h
        have := name1_len ha; have := ih _ _ _ hb; simp only [Go.Proofs.YtjfhncfbejephaaGreatDoor.parts, List.length_cons]; omega
      split at h
      · simp only [pFix, Option.bind_eq_some_iff, Prod.exists] at h
        obtain ⟨a, r1, ha, b, r2, hb, h⟩ := h
        have := name1_len ha; have := name1_len hb
        split at h
        · simp at h
        · simp only [Option.bind_eq_some_iff, Prod.exists, Option.some.injEq, Prod.mk.injEq] at h
          obtain ⟨c, r3, hc, rfl, rfl⟩ := h
          have := ih _ _ _ hc; simp only [Go.Proofs.YtjfhncfbejephaaGreatDoor.parts, List.length_cons]; omega
      split at h
      · simp only [pApp, Option.bind_eq_some_iff, Prod.exists] at h
        obtain ⟨a, r1, ha, b, r2, hb, z, r3, hz, h⟩ := h
        have := ih _ _ _ ha; have := ih _ _ _ hb; have := next1_len hz
        split at h
        · simp only [Option.some.injEq, Prod.mk.injEq] at h; obtain ⟨rfl, rfl⟩ := h; simp only [Go.Proofs.YtjfhncfbejephaaGreatDoor.parts, List.length_cons, List.length_append]; omega
        · simp at h
      split at h
      · simp only [pBind, Option.bind_eq_some_iff, Prod.exists, Option.some.injEq, Prod.mk.injEq] at h
        obtain ⟨a, r1, ha, b, r2, hb, c, r3, hc, rfl, rfl⟩ := h
        have := name1_len ha; have := ih _ _ _ hb; have := ih _ _ _ hc; simp only [Go.Proofs.YtjfhncfbejephaaGreatDoor.parts, List.length_cons, List.length_append]; omega
      split at h
      · simp only [pOp, Option.bind_eq_some_iff, Prod.exists, Option.some.injEq, Prod.mk.injEq] at h
        obtain ⟨a, r1, ha, b, r2, hb, rfl, rfl⟩ := h
        have := ih _ _ _ ha; have := ih _ _ _ hb; simp only [Go.Proofs.YtjfhncfbejephaaGreatDoor.parts, List.length_cons, List.length_append]; omega
      split at h
      · simp only [pSel, Option.bind_eq_some_iff, Prod.exists, Option.some.injEq, Prod.mk.injEq] at h
        obtain ⟨a, r1, ha, b, r2, hb, c, r3, hc, rfl, rfl⟩ := h
        have := ih _ _ _ ha; have := ih _ _ _ hb; have := ih _ _ _ hc; simp only [Go.Proofs.YtjfhncfbejephaaGreatDoor.parts, List.length_cons, List.length_append]; omega
      split at h
      · simp only [Option.some.injEq, Prod.mk.injEq] at h; obtain ⟨rfl, rfl⟩ := h; simp only [Go.Proofs.YtjfhncfbejephaaGreatDoor.parts, List.length_cons, List.length_nil]; omega
      split at h
      · simp only [Option.some.injEq, Prod.mk.injEq] at h; obtain ⟨rfl, rfl⟩ := h; simp only [Go.Proofs.YtjfhncfbejephaaGreatDoor.parts, List.length_cons, List.length_nil]; omega
      · simp at h
    omega
theorem readS_parts {s : Text} {t : Tm} (h : readS s = some t) : (Go.Proofs.YtjfhncfbejephaaGreatDoor.parts t).length ≤ 120 := by
  obtain ⟨r, h1, h2, h3⟩ := readS_some h
  have := parse_parts _ _ _ _ h1
  omega
end Ff
namespace Go.Proofs.YtjfhncfbejephaaGreatDoor
open Go.RowKit Go.Shelf
open Ff
set_option linter.unusedVariables false
attribute [local go_sem] Oper.semAt_some

/-- What a text's size is told as. -/
def sizeI (o : Option Tm) : Int := match o with | some t => ((parts t).length : Nat) | none => -1
theorem cell_at_v {W : World} {B : Nat} {v : Value} {t : TypeId} (h : W.heap[B]? = some (.cells #[v] t (0, 0))) : W.cell? ⟨B, 0, none⟩ = some v ∧ W.frozen? ⟨B, 0, none⟩ = false := by
  constructor <;> simp [World.cell?, World.frozen?, h]
theorem cell_new_v (W : World) (v : Value) (t : TypeId) : (W.alloc (.cells #[v] t)).cell? ⟨W.heap.size, 0, none⟩ = some v ∧ (W.alloc (.cells #[v] t)).frozen? ⟨W.heap.size, 0, none⟩ = false := cell_at_v (World.alloc_heap_new W _)
/-- All blocks but one. -/
theorem told_one (b n₀ : Nat) (h : b < n₀) : Told n₀ (fun _ j => j = b) := ⟨fun _ _ _ _ _ h => h, fun A hn j hj => by subst hj; omega⟩
theorem keep_putObj (b : Nat) (W : World) (l : Nat) (o o' : Obj) (h : W.heap[l]? = some o) (ho : o.isCells = false) : KeepT (fun _ j => j = b) W (W.putObj l o') := by
  have hg := grownBy_putObj' W l o'
  refine ⟨hg.size, fun j oj hj hc _ => ?_, fun j hj => .inl hj⟩
  have hlt : j < W.heap.size := (Array.getElem?_eq_some_iff.1 hj).1
  refine (hg.block j hlt (fun e => ?_)).trans hj
  injection e with e
  subst e
  rw [h] at hj
  injection hj with hj
  subst hj
  rw [ho] at hc
  cases hc
theorem keep_setCell (b i : Nat) (W : World) (v : Value) : KeepT (fun _ j => j = b) W (W.setCell ⟨b, i, none⟩ v) :=
  ⟨(KeepsOthers.setCell W _ v).size, fun j o hj _ hne => (Below.heap_setCell W ⟨b, i, none⟩ v j hne).trans hj, fun j hj => .inl hj⟩
end Go.Proofs.YtjfhncfbejephaaGreatDoor
