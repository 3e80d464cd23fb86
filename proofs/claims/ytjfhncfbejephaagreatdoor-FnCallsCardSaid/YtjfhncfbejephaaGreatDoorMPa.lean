import Derived.Test.YtjfhncfbejephaaGreatDoorMYi
import Derived.Test.YtjfhncfbejephaaGreatDoorMTm
import Derived.Test.YtjfhncfbejephaaGreatDoorMCt
import Derived.Deep.RegionHeld3
import Derived.RangeFuncBox
import Derived.Test.YtjfhncfbejephaaGreatDoorMTx
import Derived.ArgAppend
import Derived.Test.YtjfhncfbejephaaGreatDoorMCl
import Derived.Stop.RegionWithIn
import Derived.Maps.AppendAt
/- The program's iterator over all parts of a term, for a body that writes rows of its own: every part is good. -/
namespace Go.Proofs.YtjfhncfbejephaaGreatDoor
open Go.RowKit Go.Shelf
open Ff
set_option linter.unusedVariables false
attribute [local go_sem] Oper.semAt_some

/-- A term that is small enough, with names as the grammar has them. -/
def okT (t : Tm) : Prop := t.good ∧ t.depth ≤ 200 ∧ (parts t).length ≤ 4000
theorem okT_kid {t s : Tm} (h : okT t) (hs : s ∈ t.kids) : okT s := ⟨Tm.kid_good h.1 hs, by have := kid_depth hs; have := h.2.1; omega, Nat.le_trans (parts_kid_le hs) h.2.2⟩
/-- What is asked of T: growth alone tells new blocks at most; no block that begins with an interface's value. -/
def Told2 (n₀ : Nat) (T : World → Nat → Prop) : Prop := (∀ A B, n₀ ≤ A.heap.size → Below A.heap.size A B → ∀ j, T B j → T A j ∨ A.heap.size ≤ j) ∧ ∀ W g, n₀ ≤ g → (∃ n v, W.cell? ⟨g, 0, none⟩ = some (.iface n v)) → ¬ T W g
theorem KeepT.still2 {n₀ : Nat} {T : World → Nat → Prop} (hT : Told2 n₀ T) {A B : World} (hn : n₀ ≤ A.heap.size) (h : Below A.heap.size A B) : KeepT T A B :=
  ⟨h.size, fun j o hj _ _ => (h.block j (Array.getElem?_eq_some_iff.1 hj).1).trans hj, fun j hj => hT.1 A B hn h j hj⟩
/-- What a round does, whatever the depth. -/
def YieldsG (l n₀ N : Nat) (T : World → Nat → Prop) (J Jx : List Tm → World → Prop) : Prop :=
  ∀ m pre x W, J pre W → pre.length < N → okT x → YieldAt Fence.wide m Tryz.prog l #[enc x] W fun e W' =>
    (e = .returned (.bool true) ∧ J (pre ++ [x]) W' ∧ KeepT T W W') ∨ (e = .returned (.bool false) ∧ Jx (pre ++ [x]) W')
def YieldsGC (l n₀ N : Nat) (T : World → Nat → Prop) (J Jx : List Tm → World → Prop) (d : Nat) : Prop :=
  ∀ (t : Tm) (n : Nat) (pre : List Tm) (W : World), t.depth ≤ d → okT t → n₀ ≤ W.heap.size → J pre W → pre.length + (parts t).length ≤ N →
    CallsIn Fence.wide n Tryz.prog 33 #[enc t, .func (.yield l) #[] #[]] W fun e W' =>
      (e = .returned (.bool true) ∧ J (pre ++ parts t) W' ∧ KeepT T W W') ∨ (e = .returned (.bool false) ∧ ∃ q, q <+: parts t ∧ Jx (pre ++ q) W')

set_option maxRecDepth 100000 in
set_option maxHeartbeats 2000000 in
theorem yieldsG_step {l n₀ N B : Nat} {T : World → Nat → Prop} {J Jx : List Tm → World → Prop} (hT : Told2 n₀ T) (hJ : AbidesFrom B J) (hY : YieldsG l n₀ N T J Jx) (d : Nat) (ih : YieldsGC l n₀ N T J Jx d) : YieldsGC l n₀ N T J Jx (d + 1) := by
  intro t n pre W ht hgd hn hj hN
  have hkl : t.kids.length ≤ 3 := by cases t <;> simp [Tm.kids]
  have hpos := parts_pos t
  obtain ⟨fn, tmps, assign, body, hy, hR⟩ := hY (n - 1) pre t W hj (by omega) hgd
  rw [enc_ty t] at hy ⊢
  have HP := Lib.hid hpos
  have HNN := Lib.hid hN
  clear hpos hN
  refine callsIn_of_wp Tryz.func33 rfl trivial ?_ rfl
  simp only [Tryz.ntmps33, List.size_toArray, List.length_cons, List.length_nil, Nat.reduceAdd, Nat.reduceSub, Array.replicate_succ, Array.replicate_zero, List.push_toArray, List.append_toArray, List.nil_append, List.cons_append]
  gi_wp2
  refine ⟨fun h => (by cases h), ?_⟩
  refine hR.mono ?_
  clear hR hy
  rintro e W3 (⟨rfl, hJ3, hk3⟩ | ⟨rfl, hJx3⟩)
  · have hn3 : n₀ ≤ W3.heap.size := Nat.le_trans hn hk3.1
    gi_wp2_with (refine wpListIn_invoke rfl _ _ (ty t) (pl t) rfl rfl (kf t) (kids_m t _ (by unfold KidsName; kernel_rfl) _) (kids_f t _) (fun v w' => SliceOf W3.heap.size w' v (t.kids.map enc) ∧ Below W3.heap.size W3 w') (kids_c t _) ?_; rintro x w1 ⟨hs, hb⟩; obtain ⟨a, rfl, hcell⟩ := hs.uni; clear hs; have HC := Lib.hid hcell; clear hcell)
    have hj1 : J (pre ++ before t 0) w1 := hJ _ _ _ none (by simpa [before] using hJ3) (grown_none hb) (fun r e => by cases e)
    have hn1 : n₀ ≤ w1.heap.size := Nat.le_trans hn3 hb.size
    have hk1 := hk3.trans (KeepT.still2 hT hn3 hb)
    obtain ⟨W1, hW1⟩ : ∃ W1, w1 = W1 := ⟨_, rfl⟩
    subst hW1
    gi_loopw [14] (fun i wr => ∃ k : Nat, k ≤ t.kids.length ∧ i = .int .i64 k ∧ J (pre ++ before t k) wr ∧ KeepT T w1 wr) (fun i _ => t.kids.length - (intOf i).toNat)
    case atStart => exact ⟨0, Nat.zero_le _, rfl, hj1, KeepT.still2 hT hn1 (Below.refl _ _)⟩
    case round =>
      obtain ⟨k, hkl2, rfl, hjk, hK⟩ := hrel
      by_cases hlt : k < t.kids.length
      · obtain ⟨s, hs⟩ : ∃ s, t.kids[k]? = some s := ⟨_, List.getElem?_eq_getElem hlt⟩
        obtain ⟨g, rfl, hg1, hg2, hc⟩ := HC.out k (enc s) (by simp [hs])
        have hc2 := hK.cell (p := ⟨g, k, none⟩) hc (hT.2 _ g (by omega) (by
          obtain ⟨s0, hs0⟩ : ∃ s0, t.kids[0]? = some s0 := ⟨_, List.getElem?_eq_getElem (by omega)⟩
          obtain ⟨g0, hg0, _, _, hc0⟩ := HC.out 0 (enc s0) (by simp [hs0])
          injection hg0 with hg0
          injection hg0 with hg0
          subst hg0
          obtain ⟨nn, vv, hv⟩ := enc_gen s0
          exact ⟨nn, vv, by rw [hc0, hv]⟩))
        have hmem := List.mem_of_getElem? hs
        have hbs := before_succ t k s hs
        have hbl := before_le t (k + 1)
        have hle : (pre ++ before t k).length + (parts s).length ≤ N := by
          have := HNN.out
          rw [hbs, List.length_append] at hbl
          rw [List.length_append]
          omega
        have C := ih s (n - 1) (pre ++ before t k) wr (by have := kid_depth hmem; omega) (okT_kid hgd hmem) (Nat.le_trans hn1 hK.1) hjk hle
        have HBS := Lib.hid hbs
        have HS := Lib.hid hs
        clear hs hc HC hbs hbl hmem hle
        gi_wp2_with (refine ⟨trivial, fun h => (by cases h), ?_⟩; gi_at_call 33; refine C.mono ?_; clear C; rintro e w2 (⟨rfl, hj2, hk2⟩ | ⟨rfl, q, hq, hx2⟩))
        · refine ⟨⟨k + 1, by omega, by go_num, by rw [HBS.out, ← List.append_assoc]; exact hj2, hK.trans hk2⟩, by simp [intOf]; omega⟩
        · go_ret
          refine .inr ⟨rfl, before t k ++ q, ?_, by rw [← List.append_assoc]; exact hx2⟩
          have e := before_succ t k s HS.out
          obtain ⟨r, hr⟩ := hq
          have hall : ∃ z, parts t = before t (k + 1) ++ z := ⟨(t.kids.drop (k + 1)).flatMap parts, by
            rw [parts_kids]; unfold before; rw [List.cons_append, ← List.flatMap_append, List.take_append_drop]⟩
          obtain ⟨z, hz⟩ := hall
          exact ⟨r ++ z, by rw [hz, e, ← hr]; simp [List.append_assoc]⟩
      · have hk2 : k = t.kids.length := by omega
        subst hk2
        rw [before_all] at hjk
        gi_wp2
        go_ret
        exact .inl ⟨rfl, hjk, hk1.trans hK⟩
  · gi_wp2
    go_ret
    exact .inr ⟨rfl, [t], ⟨t.kids.flatMap parts, by rw [parts_kids]; rfl⟩, hJx3⟩
theorem yieldsG_c {l n₀ N B : Nat} {T : World → Nat → Prop} {J Jx : List Tm → World → Prop} (hT : Told2 n₀ T) (hJ : AbidesFrom B J) (hY : YieldsG l n₀ N T J Jx) : ∀ d, YieldsGC l n₀ N T J Jx d
  | 0 => fun t _ _ _ ht => absurd ht (by have := t.depth_pos; omega)
  | d + 1 => yieldsG_step hT hJ hY d (yieldsG_c hT hJ hY d)

/-- A term as the grammar has it. -/
abbrev GT := {t : Tm // okT t}
set_option maxHeartbeats 1000000 in
/-- What partsOf returns: the function value gives all parts, each ahead of its kids; all of them are good. -/
theorem partsG_stops (n Bt n₀ : Nat) (T : World → Nat → Prop) (hT : Told2 n₀ T) (t : Tm) (hgd : okT t) (w : World) (hBt : Bt < w.heap.size) (hn₀ : n₀ ≤ w.heap.size) (hc : w.cell? ⟨Bt, 0, none⟩ = some (enc t)) :
    SeqStopsK Fence.wide n Tryz.prog 32 #[.pointer (some ⟨Bt, 0, none⟩)] (fun x : GT => #[enc x.1]) (KeepT T) (fun ys => ys.map (·.1) = parts t) (fun pre => pre.map (·.1) <+: parts t) (parts t).length w := by
  intro l J0 Jx0 W hW hJ0 hJx0 hY h0
  obtain ⟨J, hJd⟩ : ∃ J : List Tm → World → Prop, J = fun pre W => ∃ l : List GT, l.map (·.1) = pre ∧ J0 l W := ⟨_, rfl⟩
  obtain ⟨Jx, hJxd⟩ : ∃ J : List Tm → World → Prop, J = fun pre W => ∃ l : List GT, l.map (·.1) = pre ∧ Jx0 l W := ⟨_, rfl⟩
  have hJ : AbidesFrom W.heap.size J := by
    subst hJd
    rintro pre A B row ⟨l, hl, h⟩ hg hr
    exact ⟨l, hl, hJ0 l A B row h hg hr⟩
  have hp := yieldsG_c hT hJ (l := l) (N := (parts t).length) (Jx := Jx) (fun m pre x W1 h1 h2 hx => by
      subst hJd hJxd
      obtain ⟨l1, rfl, hj⟩ := h1
      refine YieldAt.any (m := n - 1) rfl m ?_
      obtain ⟨fn, tmps, assign, body, hy, hR⟩ := hY l1 ⟨x, hx⟩ W1 hj (by simpa using h2)
      refine ⟨fn, tmps, assign, body, hy, hR.mono ?_⟩
      rintro e W' (⟨rfl, h3, h4⟩ | ⟨rfl, h3⟩)
      · exact .inl ⟨rfl, ⟨_, by simp, h3⟩, h4⟩
      · exact .inr ⟨rfl, ⟨_, by simp, h3⟩⟩) t.depth t (n - 1) [] W (Nat.le_refl _) hgd (Nat.le_trans hn₀ hW.size) (by subst hJd; exact ⟨[], rfl, h0⟩) (by simp)
  have hc2 := (hW.cell (p := ⟨Bt, 0, none⟩) hBt).trans hc
  rw [enc_ty t] at hc2 hp
  show CallsIn Fence.wide n Tryz.prog 32 #[.func (.yield l) #[] #[], .pointer (some ⟨Bt, 0, none⟩)] W _
  refine callsIn_of_wp Tryz.func32 rfl trivial ?_ rfl
  simp only [Tryz.ntmps32, List.size_toArray, List.length_cons, List.length_nil, Nat.reduceAdd, Nat.reduceSub, Array.replicate_succ, Array.replicate_zero, List.push_toArray, List.append_toArray, List.nil_append, List.cons_append]
  gi_wp2_with (refine ⟨trivial, fun h => (by cases h), ?_⟩; gi_at_call 33; refine hp.mono ?_; clear hp; rintro e W1 (⟨rfl, hJ1, _⟩ | ⟨rfl, q, hq, hx⟩))
  · go_end0
    subst hJd
    obtain ⟨l1, hl1, hj⟩ := hJ1
    exact ⟨⟨_, rfl⟩, .inl ⟨l1, by simpa using hl1, hj⟩⟩
  · go_end0
    subst hJxd
    obtain ⟨l1, hl1, hj⟩ := hx
    exact ⟨⟨_, rfl⟩, .inr ⟨l1, by rw [hl1]; simpa using hq, hj⟩⟩
end Go.Proofs.YtjfhncfbejephaaGreatDoor

/- The statements' own helpers over lists of texts: comparing, marking, asking for the marks. -/
namespace Go.Proofs.YtjfhncfbejephaaGreatDoor
open Go.RowKit
open Ff
set_option linter.unusedVariables false

/-- A text as a value. -/
abbrev sv (s : Text) : Value := .string ⟨s.toArray⟩
/-- A slice that lists texts. -/
abbrev Strs (w : World) (base : Nat) (v : Value) (l : List Text) : Prop := w.ownsRow base 9 1 v l.length (l.map sv)
theorem row_set {W : World} {base : Nat} {e : TypeId} {n g cap : Nat} {xs : List Value} (h : W.ownsRow base e 1 (.slice (some ⟨g, 0, none⟩) n cap) n xs) (j : Nat) (u : Value) : (W.setCell ⟨g, j, none⟩ u).ownsRow base e 1 (.slice (some ⟨g, 0, none⟩) n cap) n (xs.set j u) := by
  obtain ⟨h1, h2⟩ := h
  refine ⟨by simpa using h1, ?_⟩
  rcases h2 with ⟨h2, _⟩ | ⟨g', cap', cur, hv, hb, hh, hn, hm, hc, ht⟩
  · cases h2
  · injection hv with hv1 hv2 hv3
    injection hv1 with hv1
    injection hv1 with hv1
    subst hv1 hv3
    refine .inr ⟨g, cap, cur.setIfInBounds j u, rfl, hb, ?_, hn, hm, by simpa using hc, ?_⟩
    · obtain ⟨hlt, hk⟩ := Array.getElem?_eq_some_iff.1 hh
      show (W.heap.modify g _)[g]? = _
      rw [Array.getElem?_eq_getElem (by rw [Array.size_modify]; exact hlt), Array.getElem_modify_self, hk]
      rfl
    · rw [Nat.mul_one] at ht ⊢
      rw [Array.toList_setIfInBounds, List.take_set, ht]
theorem Strs.frozen {W : World} {base : Nat} {e : TypeId} {n g cap size : Nat} {xs : List Value} (h : W.ownsRow base e size (.slice (some ⟨g, 0, none⟩) n cap) n xs) (j : Nat) : W.frozen? ⟨g, j, none⟩ = false := by
  rcases h.2 with ⟨h2, _⟩ | ⟨g', cap', cur, hv, hb, hh, hn, hm, hc, ht⟩
  · cases h2
  · injection hv with hv1
    injection hv1 with hv1
    injection hv1 with hv1
    subst hv1
    simp [World.frozen?, hh]
/-- Either no text and whatever slice, or a slice that is written out, with its cells. -/
theorem Strs.cases {W : World} {base : Nat} {v : Value} {l : List Text} (h : Strs W base v l) : (∃ a c, v = .slice a l.length c) ∧ ∀ (i : Nat) (s : Text), l[i]? = some s → ∃ g c, v = .slice (some ⟨g, 0, none⟩) l.length c ∧ base ≤ g ∧ g < W.heap.size ∧ W.cell? ⟨g, i, none⟩ = some (sv s) ∧ W.frozen? ⟨g, i, none⟩ = false := by
  constructor
  · rcases h.2 with ⟨rfl, h0⟩ | ⟨g, cap, cur, rfl, _⟩
    · exact ⟨none, 0, by rw [h0]⟩
    · exact ⟨_, _, rfl⟩
  · intro i s hs
    have hc := fun g hg => h.cells (g := g) hg i (sv s) (by simp [hs])
    have hl := fun g hg => h.lt g hg
    rcases h.2 with ⟨rfl, h0⟩ | ⟨g, cap, cur, rfl, _⟩
    · have : l = [] := List.length_eq_zero_iff.1 h0
      subst this
      simp at hs
    · have h1 := hc g rfl
      rw [Addr.add_lit, Nat.zero_add] at h1
      exact ⟨g, cap, rfl, (hl g rfl).1, (hl g rfl).2, h1, Strs.frozen h i⟩

/-- The statements' marks. -/
def markF (n : Nat) (acc : Text) : Text := if h : n = 0 then acc else markF (n / 10) (UInt8.ofNat (48 + n % 10) :: acc)
termination_by n
decreasing_by omega
def markT (k : Nat) : Text := 109 :: markF k []
theorem markF_len : ∀ (n : Nat) (acc : Text), n < 10000000 → (markF n acc).length ≤ acc.length + n := by
  intro n
  induction n using Nat.strongRecOn with
  | _ n ih =>
    intro acc hn
    unfold markF
    split
    · omega
    · rename_i h
      have := ih (n / 10) (by omega) (UInt8.ofNat (48 + n % 10) :: acc) (by omega)
      simp only [List.length_cons] at this
      omega
theorem byte_of10 (n : Nat) : ((48 : Int) + (n : Int) % 10) = ((UInt8.ofNat (48 + n % 10)).toNat : Int) := by
  rw [UInt8.toNat_ofNat']
  omega
theorem strY {z : Int} {d : UInt8} (hz : z = (d.toNat : Int)) (W : World) : (convert 22 9 (.slice (some ⟨W.heap.size, 0, none⟩) 1 1)).run Tryz.prog (W.alloc (.cells #[.int .u8 z] 5)) = .ok (.string ⟨#[d]⟩) (W.alloc (.cells #[.int .u8 z] 5)) := by
  subst hz
  exact str1 _ d _ (cell_new_at _ _ _ _ rfl)
theorem bgrown {A B : World} (h : Below A.heap.size A B) : A.grownBy B none := ⟨h.os, h.tape, h.output, h.size, fun j hj _ => h.block j hj⟩
theorem grown_setAt (W : World) (b i : Nat) (v : Value) : W.grownBy (W.setCell ⟨b, i, none⟩ v) (some b) :=
  ⟨rfl, rfl, rfl, (KeepsWalks.setCell W _ v).size, fun k _ hk => Below.heap_setCell _ _ _ k (fun e => hk (by rw [e]))⟩
/-- The marks from k on. -/
def marks (k : Nat) : Nat → List Text
  | 0 => []
  | n + 1 => marks k n ++ [markT (k + n)]
theorem marks_len (k : Nat) : ∀ n, (marks k n).length = n
  | 0 => rfl
  | n + 1 => by rw [marks, List.length_append, marks_len k n]; rfl
theorem marks_at (k : Nat) : ∀ n i, i < n → (marks k n)[i]? = some (markT (k + i))
  | 0, i, h => absurd h (by omega)
  | n + 1, i, h => by
    rw [marks]
    by_cases e : i = n
    · subst e
      rw [List.getElem?_append_right (by rw [marks_len]; omega), marks_len]
      simp
    · rw [List.getElem?_append_left (by rw [marks_len]; omega)]
      exact marks_at k n i (by omega)
end Go.Proofs.YtjfhncfbejephaaGreatDoor

/- The specification's lists of texts: what they share. -/
namespace Go.Proofs.YtjfhncfbejephaaGreatDoor
open Go.RowKit
open Ff
set_option linter.unusedVariables false

theorem Tryz.infoStr : (Tryz.prog.info? 9).map (fun i => (i.zero, i.size, i.bytes)) = some (some (.string ⟨#[]⟩), 1, 16) := by kernel_rfl
theorem parts_goodL {t s : Tm} (h : t.good) (hs : s ∈ parts t) : s.good := by
  induction t with
  | num n => simp only [parts, List.mem_singleton] at hs; subst hs; exact h
  | var c => simp only [parts, List.mem_singleton] at hs; subst hs; exact h
  | fn c b ih => simp only [parts, List.mem_cons] at hs; rcases hs with rfl | hs; exact h; exact ih h.2 hs
  | fix f c b ih => simp only [parts, List.mem_cons] at hs; rcases hs with rfl | hs; exact h; exact ih h.2.2.2 hs
  | app f a h1 h2 => simp only [parts, List.mem_cons, List.mem_append] at hs; rcases hs with rfl | hs | hs; exact h; exact h1 h.1 hs; exact h2 h.2 hs
  | bind c f a h1 h2 => simp only [parts, List.mem_cons, List.mem_append] at hs; rcases hs with rfl | hs | hs; exact h; exact h1 h.2.1 hs; exact h2 h.2.2 hs
  | op c f a h1 h2 => simp only [parts, List.mem_cons, List.mem_append] at hs; rcases hs with rfl | hs | hs; exact h; exact h1 h.2.1 hs; exact h2 h.2.2 hs
  | sel a b c h1 h2 h3 => simp only [parts, List.mem_cons, List.mem_append] at hs; rcases hs with rfl | hs | hs | hs; exact h; exact h1 h.1 hs; exact h2 h.2.1 hs; exact h3 h.2.2 hs
theorem parts_sub {t s : Tm} (hs : s ∈ parts t) : s.depth ≤ t.depth ∧ (parts s).length ≤ (parts t).length := by
  induction t with
  | num n => simp only [parts, List.mem_singleton] at hs; subst hs; exact ⟨Nat.le_refl _, Nat.le_refl _⟩
  | var c => simp only [parts, List.mem_singleton] at hs; subst hs; exact ⟨Nat.le_refl _, Nat.le_refl _⟩
  | fn c b ih => simp only [parts, List.mem_cons] at hs; rcases hs with rfl | hs; exact ⟨Nat.le_refl _, Nat.le_refl _⟩; have := ih hs; simp only [Tm.depth, parts, List.length_cons]; omega
  | fix f c b ih => simp only [parts, List.mem_cons] at hs; rcases hs with rfl | hs; exact ⟨Nat.le_refl _, Nat.le_refl _⟩; have := ih hs; simp only [Tm.depth, parts, List.length_cons]; omega
  | app f a h1 h2 => simp only [parts, List.mem_cons, List.mem_append] at hs; rcases hs with rfl | hs | hs; exact ⟨Nat.le_refl _, Nat.le_refl _⟩; all_goals (first | have := h1 hs | have := h2 hs); simp only [Tm.depth, parts, List.length_cons, List.length_append]; omega
  | bind c f a h1 h2 => simp only [parts, List.mem_cons, List.mem_append] at hs; rcases hs with rfl | hs | hs; exact ⟨Nat.le_refl _, Nat.le_refl _⟩; all_goals (first | have := h1 hs | have := h2 hs); simp only [Tm.depth, parts, List.length_cons, List.length_append]; omega
  | op c f a h1 h2 => simp only [parts, List.mem_cons, List.mem_append] at hs; rcases hs with rfl | hs | hs; exact ⟨Nat.le_refl _, Nat.le_refl _⟩; all_goals (first | have := h1 hs | have := h2 hs); simp only [Tm.depth, parts, List.length_cons, List.length_append]; omega
  | sel a b c h1 h2 h3 => simp only [parts, List.mem_cons, List.mem_append] at hs; rcases hs with rfl | hs | hs | hs; exact ⟨Nat.le_refl _, Nat.le_refl _⟩; all_goals (first | have := h1 hs | have := h2 hs | have := h3 hs); simp only [Tm.depth, parts, List.length_cons, List.length_append]; omega
theorem isFun_kind {p : Tm} (h : p.good) : isFun p = true ↔ ((kindOf p : Int) = 92 ∨ (kindOf p : Int) = 64) := by
  cases p with
  | op s l r => rcases h.1 with h | h | h <;> subst h <;> simp [isFun, kindOf]
  | _ => simp [isFun, kindOf]
/-- The list that is being made: none yet, in the block i0; or one of its own, beyond w3. -/
def Out (i0 : Nat) (w3 wr : World) (v : Value) (l : List Text) : Prop := (l = [] ∧ v = .slice (some ⟨i0, 0, none⟩) 0 0) ∨ (l ≠ [] ∧ Strs wr w3.heap.size v l)
theorem strs_empty {W : World} {b base : Nat} (h : W.heap[b]? = some (.cells #[] 9 (0, 0))) (hb : base ≤ b := by exact Nat.le_refl _) : Strs W base (.slice (some ⟨b, 0, none⟩) 0 0) [] :=
  ⟨by simp, .inr ⟨b, 0, #[], rfl, hb, h, Nat.le_refl _, by simp [maxLen], by simp, by simp⟩⟩
theorem Strs.base {W : World} {base base' : Nat} {v : Value} {l : List Text} (h : Strs W base v l) (hb : base' ≤ base) : Strs W base' v l := by
  refine ⟨h.1, ?_⟩
  rcases h.2 with h2 | ⟨g, cap, cur, hv, h2, rest⟩
  · exact .inl h2
  · exact .inr ⟨g, cap, cur, hv, Nat.le_trans hb h2, rest⟩
theorem Strs.below {W W' : World} {base n : Nat} {v : Value} {l : List Text} (h : Strs W base v l) (hb : Below n W W') (hn : W.heap.size ≤ n) : Strs W' base v l := by
  refine World.ownsRow.kept (row := none) h ⟨hb.os, hb.tape, hb.output, hb.size, fun j hj _ => hb.block j (by omega)⟩ ?_
  rcases h.2 with ⟨rfl, _⟩ | ⟨g, cap, cur, rfl, _⟩
  · exact .inl rfl
  · exact .inr (by simp [Value.ownBlock])
theorem Out.below {i0 : Nat} {w3 W W' : World} {v : Value} {l : List Text} (h : Out i0 w3 W v l) (hb : Below W.heap.size W W') : Out i0 w3 W' v l := by
  rcases h with h | ⟨h1, h2⟩
  · exact .inl h
  · exact .inr ⟨h1, h2.below hb (Nat.le_refl _)⟩
theorem Out.strs {i0 base : Nat} {w3 W : World} {v : Value} {l : List Text} (h : Out i0 w3 W v l) (hz : i0 + 1 ≤ w3.heap.size) (hb : Below w3.heap.size w3 W) (hi : w3.heap[i0]? = some (.cells #[] 9 (0, 0))) (hbase : base ≤ i0 := by exact Nat.le_refl _) : Strs W base v l := by
  rcases h with ⟨rfl, rfl⟩ | ⟨h1, h2⟩
  · exact strs_empty ((hb.block i0 (by omega)).trans hi) hbase
  · exact h2.base (by omega)
theorem belowG {B : Nat} {W W' : World} {row : Option Nat} (h : W.grownBy W' row) (hB : B ≤ W.heap.size) (hr : ∀ j, row = some j → B ≤ j) : Below B W W' := (Below.refl B W).grown h hB hr
/-- One more text at the end of the list that is being made. -/
theorem wpList_append_out {w : World} {ops : Array Oper} {rest : List Oper} {o : Oper} {a : Act} {Q : Exit → Act → World → Prop} {i0 : Nat} {w3 : World} {v : Value} {l : List Text} {t : Text} {i : TypeInfo}
    (hg : o.guard = none) (s x : Operand) (hop : o.op = Op.call { callee := Callee.builtin Builtin.append, args := #[s, x], argTypes := #[31, 31] })
    (hi : Tryz.prog.info? 9 = some i) (hz0 : i.zero = some (.string ⟨#[]⟩)) (hz1 : i.size = 1) (hz2 : i.bytes = 16) (hs : a.eval s = v) (hout : Out i0 w3 w v l) (ad : Addr) (hx : a.eval x = .slice (some ad) 1 1) (hc : ∀ j u, [sv t][j]? = some u → w.cell? (ad.add j) = some u) (hsz : w3.heap.size ≤ w.heap.size) (hl : l.length ≤ 1000000)
    (hK : ∀ v' w', Out i0 w3 w' v' (l ++ [t]) → Below w3.heap.size w w' → wpList Tryz.prog ops Q rest (a.put o.dst v') w') : wpList Tryz.prog ops Q (o :: rest) a w := by
  rcases hout with ⟨rfl, rfl⟩ | ⟨h1, h2⟩
  · refine wpList_append_grows w hg s x _ hop 9 i _ 1 16 Tryz.underlying31 hi hz0 hz1 hz2 rfl (by decide) (some ⟨i0, 0, none⟩) 0 0 [] hs (by simp) rfl (by simp) ad 1 1 [sv t] hx rfl hc (by simp [Value.oneCell']) (by decide) (by decide) (by decide) ?_
    intro v' w' hown hgr
    refine hK v' w' (.inr ⟨by simp, ?_⟩) (belowG hgr hsz (fun j hj => by cases hj))
    exact Strs.base (l := [t]) hown hsz
  · refine wpList_append_own_at w hg s x _ hop w3.heap.size 9 i _ 1 16 Tryz.underlying31 hi hz0 hz1 hz2 rfl (by decide) v l.length (l.map sv) hs h2 ad 1 1 [sv t] hx rfl hc (by simp [Value.oneCell']) (by unfold maxLen; omega) (by omega) hsz ?_
    intro v' w' hown hgr _ _
    refine hK v' w' (.inr ⟨by simp, ?_⟩) (belowG hgr hsz (fun j hj => (World.ownsRow.lt h2 j hj).1))
    have h := hown
    unfold Strs
    rw [List.length_append, List.map_append]
    exact h
/-- The lists that are told. -/
def partsT (l : List Tm) : List Text := l.map textN
def funsT (l : List Tm) : List Text := (l.filter isFun).map textN
def capsT (l : List Tm) : List Text := (l.filter isFun).map sfree
theorem partsT_snoc (l : List Tm) (p : Tm) : partsT (l ++ [p]) = partsT l ++ [textN p] := by simp [partsT]
theorem funsT_snoc {l : List Tm} {p : Tm} (h : isFun p = true) : funsT (l ++ [p]) = funsT l ++ [textN p] := by simp [funsT, h]
theorem funsT_skip {l : List Tm} {p : Tm} (h : isFun p = false) : funsT (l ++ [p]) = funsT l := by simp [funsT, h]
theorem capsT_snoc {l : List Tm} {p : Tm} (h : isFun p = true) : capsT (l ++ [p]) = capsT l ++ [sfree p] := by simp [capsT, h]
theorem capsT_skip {l : List Tm} {p : Tm} (h : isFun p = false) : capsT (l ++ [p]) = capsT l := by simp [capsT, h]
def partsO (o : Option Tm) : List Text := match o with | some t => partsT (parts t) | none => []
def funsO (o : Option Tm) : List Text := match o with | some t => funsT (parts t) | none => []
def capsO (o : Option Tm) : List Text := match o with | some t => capsT (parts t) | none => []
end Go.Proofs.YtjfhncfbejephaaGreatDoor

/- The specification's PartsOf. -/
namespace Go.Proofs.YtjfhncfbejephaaGreatDoor
open Go.RowKit
open Ff
set_option linter.unusedVariables false

end Go.Proofs.YtjfhncfbejephaaGreatDoor

/- The specification's FunctionsIn. -/
namespace Go.Proofs.YtjfhncfbejephaaGreatDoor
open Go.RowKit
open Ff
set_option linter.unusedVariables false

end Go.Proofs.YtjfhncfbejephaaGreatDoor

/- The specification's CapturedBy. -/
namespace Go.Proofs.YtjfhncfbejephaaGreatDoor
open Go.RowKit
open Ff
set_option linter.unusedVariables false

end Go.Proofs.YtjfhncfbejephaaGreatDoor

/- The program's lists over the parts of a term: what they share. -/
namespace Go.Proofs.YtjfhncfbejephaaGreatDoor
open Go.RowKit Go.Shelf
open Ff
set_option linter.unusedVariables false
attribute [local go_sem] Oper.semAt_some

/-- What a body that appends to a boxed row writes: the box, and the row that it holds. -/
def RowT (B : Nat) (W : World) (j : Nat) : Prop := j = B ∨ ∃ v, W.cell? ⟨B, 0, none⟩ = some v ∧ v.ownBlock = some j ∧ ¬ ∃ n x, W.cell? ⟨j, 0, none⟩ = some (.iface n x)
theorem told_row {B n₀ : Nat} (h : B < n₀) : Told2 n₀ (RowT B) := by
  refine ⟨fun X Y hn hb j hj => ?_, fun W g hg hi ht => ?_⟩
  · rcases hj with rfl | ⟨v, h1, h2, h3⟩
    · exact .inl (.inl rfl)
    · have hc : Y.cell? ⟨B, 0, none⟩ = X.cell? ⟨B, 0, none⟩ := hb.cell (p := ⟨B, 0, none⟩) (by simp; omega)
      by_cases hj : j < X.heap.size
      · refine .inl (.inr ⟨v, hc.symm.trans h1, h2, fun ⟨n, x, hx⟩ => h3 ⟨n, x, (hb.cell (p := ⟨j, 0, none⟩) hj).trans hx⟩⟩)
      · exact .inr (by omega)
  · rcases ht with rfl | ⟨v, _, _, h3⟩
    · omega
    · exact h3 hi
theorem rowT_putObj {B : Nat} (W : World) (l : Nat) (o o' : Obj) (hB : B < l) (h : W.heap[l]? = some o) (ho : o.isCells = false) : KeepT (RowT B) W (W.putObj l o') := by
  have hg := grownBy_putObj' W l o'
  have hcell : ∀ j, j ≠ l → (W.putObj l o').cell? ⟨j, 0, none⟩ = W.cell? ⟨j, 0, none⟩ := fun j hj => World.cell?_of_block (World.putObj_heap_other hj)
  refine ⟨hg.size, fun j oj hj hc _ => ?_, fun j hj => ?_⟩
  · refine (hg.block j (Array.getElem?_eq_some_iff.1 hj).1 (fun e => ?_)).trans hj
    injection e with e
    subst e
    rw [h] at hj
    injection hj with hj
    subst hj
    rw [ho] at hc
    cases hc
  · rcases hj with rfl | ⟨v, h1, h2, h3⟩
    · exact .inl (.inl rfl)
    · rw [hcell B (by omega)] at h1
      refine .inl (.inr ⟨v, h1, h2, ?_⟩)
      by_cases e : j = l
      · subst e
        rintro ⟨n, x, hx⟩
        obtain ⟨o2, ho2, hc2⟩ := cells_of_cell hx
        rw [h] at ho2
        injection ho2 with ho2
        subst ho2
        rw [ho] at hc2
        cases hc2
      · rw [hcell j e] at h3
        exact h3
/-- What a round that appends one text to the boxed row owes. -/
theorem row_step {W Wa w1 : World} {n₀ B : Nat} {v v' : Value} {l l' : List Text} {tmp : Obj} (hv : Boxed W B 31 v) (hrow : Strs W n₀ v l) (hnil : l = [] → v = .slice none 0 0) (hn₀ : n₀ ≤ B) (hBW : B < W.heap.size) (hWa : Below W.heap.size W Wa)
    (hown' : Strs w1 n₀ v' l') (hgrow : (Wa.alloc tmp).grownBy w1 v.ownBlock) (hwhere : v'.ownBlock = v.ownBlock ∨ v'.ownBlock = some (Wa.alloc tmp).heap.size) :
    Boxed w1 B 31 v ∧ Boxed (w1.setCell ⟨B, 0, none⟩ v') B 31 v' ∧ Strs (w1.setCell ⟨B, 0, none⟩ v') n₀ v' l' ∧ KeepsOthers W (w1.setCell ⟨B, 0, none⟩ v') ∧ Below n₀ W (w1.setCell ⟨B, 0, none⟩ v') ∧ KeepT (RowT B) W (w1.setCell ⟨B, 0, none⟩ v') := by
  have hva : Boxed Wa B 31 v := (hWa.block B hBW).trans hv
  have hra : Strs Wa n₀ v l := hrow.below hWa (Nat.le_refl _)
  have hsz := hWa.size
  obtain ⟨h1, h2, h3, h4, h5⟩ := Boxed.appended (tmp := tmp) hva (by decide) hra (by omega) hn₀ hown' hgrow
  refine ⟨h1, h2, h3, (KeepsOthers.of_grownBy (below_grown hWa) (fun j o e => by cases e)).trans h4, (Below.mono hWa (by omega)).trans h5, ?_⟩
  have hrowT : ∀ g, v.ownBlock = some g → RowT B W g := fun g hg => by
    refine .inr ⟨v, hv.cell, hg, ?_⟩
    rintro ⟨n, x, hx⟩
    cases l with
    | nil => rw [hnil rfl] at hg; cases hg
    | cons s r =>
      have hc := hrow.cells hg 0 (sv s) rfl
      rw [Addr.add_lit] at hc
      rw [hx] at hc
      cases hc
  have hblk : ∀ j, j < W.heap.size → j ≠ B → some j ≠ v.ownBlock → (w1.setCell ⟨B, 0, none⟩ v').heap[j]? = W.heap[j]? := fun j hj hjB hjv => by
    rw [Below.heap_setCell _ _ _ _ hjB, hgrow.block j (by simp; omega) hjv, Below.heap_alloc _ _ _ (by omega), hWa.block j hj]
  refine ⟨by have := h4.size; omega, fun j o hj hc ht => ?_, fun j hj => ?_⟩
  · refine (hblk j (Array.getElem?_eq_some_iff.1 hj).1 (fun e => ht (.inl e)) (fun e => ht (hrowT j e.symm))).trans hj
  · rcases hj with rfl | ⟨u, hu1, hu2, hu3⟩
    · exact .inl (.inl rfl)
    · rw [h2.cell] at hu1
      injection hu1 with hu1
      subst hu1
      rcases hwhere with e | e
      · rw [e] at hu2
        exact .inl (hrowT j hu2)
      · rw [e] at hu2
        injection hu2 with hu2
        subst hu2
        exact .inr (by simp; omega)

/-- A method called through an interface, in a round's region whose order is drawn. -/
theorem wpIn_invoke_if {P : Program} {l n : Nat} {ops : Array Oper} {o : Oper} {a a2 : Act} {K : Act → World → Prop} {Q : Exit → Act → World → Prop} {X : Prop} {w : World} (hgd : Region.wanted o (yielded ops a2.tmps) = true) (r : Operand) (m : String) (t : TypeId) (v : Value)
    (ho : o.op = .call { callee := .invoke r m, args := #[], argTypes := #[] }) (hr : a.eval r = .iface t v) (f : FuncId) (hm : (method (P.types.size + 100) t v m).run P w = .ok (f, v) w)
    (hf : (callFunc f #[v]).run P w = .ok (.enter f #[v]) w) (S : Value → World → Prop) (hC : Calls P f #[v] w fun e w' => ∃ x, e = .returned x ∧ S x w')
    (h : ∀ x w', S x w' → K (a.put o.dst x) w') : if Region.wanted o (yielded ops a2.tmps) = true then Oper.wpIn (Fence.wide.inRound l) n P o a w K Q else X := by
  rw [if_pos hgd]
  have hrun : (execOp a.eval o).run P w = .ok (.enter f #[v]) w := by
    unfold execOp
    simp only [ho, resolve, invoke, callMethod, Sem.run_bind, Sem.run_pure, Result.andThen_ok, List.map_toArray, List.map_nil, hr]
    simp [hm, hf, Sem.run_bind, go_sem]
  unfold Oper.wpIn
  refine ⟨fun _ _ => trivial, ?_⟩
  rw [Oper.semAt_plain (Fence.wide.inRound l) _ _ (by rw [ho]; intro c hc; cases hc), hrun, Oper.uponIn_enter]
  refine ⟨fun h => (by cases h), ?_⟩
  refine CallsIn.inRound l (callsIn_wide.2 (hC.mono ?_))
  rintro e w' ⟨x, rfl, hS⟩
  exact h x w' hS
/-- A call of a function, in a round's region whose order is drawn. -/
theorem wpIn_call_if {P : Program} {l n : Nat} {ops : Array Oper} {o : Oper} {a a2 : Act} {K : Act → World → Prop} {Q : Exit → Act → World → Prop} {X : Prop} {w : World} (hgd : Region.wanted o (yielded ops a2.tmps) = true) (f : FuncId) (x : Operand) (t : TypeId) (v : Value)
    (ho : o.op = .call { callee := .value (.func f), args := #[x], argTypes := #[t] }) (hr : a.eval x = v)
    (hf : ∀ args w, (callFunc f args).run P w = .ok (.enter f args) w) (S : Value → World → Prop) (hC : Calls P f #[v] w fun e w' => ∃ x, e = .returned x ∧ S x w')
    (h : ∀ x w', S x w' → K (a.put o.dst x) w') : if Region.wanted o (yielded ops a2.tmps) = true then Oper.wpIn (Fence.wide.inRound l) n P o a w K Q else X := by
  rw [if_pos hgd]
  have hrun : (execOp a.eval o).run P w = .ok (.enter f #[v]) w := by
    have key : ∀ ρ : Operand → Value, ρ (.func f) = .func (.func f) #[] #[] → ρ x = v → (execOp ρ o).run P w = .ok (.enter f #[v]) w := fun ρ h1 h2 => by
      simp [execOp, ho, resolve, invoke, Deferred.ofValue, h1, h2, hf]
    exact key a.eval rfl hr
  unfold Oper.wpIn
  refine ⟨fun _ _ => trivial, ?_⟩
  rw [Oper.semAt_plain (Fence.wide.inRound l) _ _ (by rw [ho]; intro c hc; cases hc), hrun, Oper.uponIn_enter]
  refine ⟨fun h => (by cases h), ?_⟩
  refine CallsIn.inRound l (callsIn_wide.2 (hC.mono ?_))
  rintro e w' ⟨x, rfl, hS⟩
  exact h x w' hS
/-- One more text at the end of the boxed row, in a round's region whose order is drawn. -/
theorem wpIn_append_if {l n : Nat} {ops : Array Oper} {o : Oper} {a a2 : Act} {K : Act → World → Prop} {Q : Exit → Act → World → Prop} {X : Prop} {w : World} {i : TypeInfo} {base : Nat} {v : Value} {ts : List Text} {t : Text} (hgd : Region.wanted o (yielded ops a2.tmps) = true)
    (s x : Operand) (hop : o.op = Op.call { callee := Callee.builtin Builtin.append, args := #[s, x], argTypes := #[31, 31] })
    (hi : Tryz.prog.info? 9 = some i) (hz0 : i.zero = some (.string ⟨#[]⟩)) (hz1 : i.size = 1) (hz2 : i.bytes = 16) (hs : a.eval s = v) (hrow : Strs w base v ts) (ad : Addr) (hx : a.eval x = .slice (some ad) 1 1) (hc : ∀ j u, [sv t][j]? = some u → w.cell? (ad.add j) = some u) (hsz : base ≤ w.heap.size) (hl : ts.length ≤ 1000000)
    (h : ∀ v' w', Strs w' base v' (ts ++ [t]) → w.grownBy w' v.ownBlock → (v'.ownBlock = v.ownBlock ∨ v'.ownBlock = some w.heap.size) → K (a.put o.dst v') w') : if Region.wanted o (yielded ops a2.tmps) = true then Oper.wpIn (Fence.wide.inRound l) n Tryz.prog o a w K Q else X := by
  rw [if_pos hgd]
  obtain ⟨v', w', hr, h2, h3, h4, h5⟩ := run_append_own_at (P := Tryz.prog) w base 31 o.type 9 i _ 1 16 Tryz.underlying31 hi hz0 hz1 hz2 rfl (by decide) v ts.length (ts.map sv) hrow ad 1 1 [sv t] rfl hc (by simp [Value.oneCell']) (by unfold maxLen; omega) (by omega) hsz
  unfold Oper.wpIn
  refine ⟨fun _ _ => trivial, ?_⟩
  rw [Oper.semAt_plain (Fence.wide.inRound l) _ _ (by rw [hop]; intro c hc; cases hc)]
  simp [execOp, hop, resolve, invoke, builtin, hs, hx, hr, Result.andThen]
  refine h v' w' ?_ h3 h5
  have k := h2
  unfold Strs
  rw [List.length_append, List.map_append]
  exact k
theorem strs_succ {W : World} {base : Nat} {v : Value} {l : List Text} {t : Text} (h : Strs W base v (l ++ [t])) : ∃ g cap, v = .slice (some ⟨g, 0, none⟩) (l.length + 1) cap := by
  unfold Strs at h
  rw [List.length_append] at h
  exact ownsRow_succ h
theorem partsT_len (l : List Tm) : (partsT l).length ≤ l.length := by simp [partsT]
theorem funsT_len (l : List Tm) : (funsT l).length ≤ l.length := by rw [funsT, List.length_map]; exact List.length_filter_le _ _
theorem capsT_len (l : List Tm) : (capsT l).length ≤ l.length := by rw [capsT, List.length_map]; exact List.length_filter_le _ _
theorem keepI {f : Nat} {v r : Value} {W : World} (h : Calls Tryz.prog f #[v] W.drew fun e w' => e = .returned r ∧ Below W.drew.heap.size W.drew w') : Calls Tryz.prog f #[v] W.drew fun e w' => ∃ x, e = .returned x ∧ x = r ∧ Below W.heap.size W w' :=
  h.mono (by rintro e w' ⟨rfl, hb⟩; exact ⟨_, rfl, rfl, (Below.refl W.heap.size W).drew.trans hb⟩)
end Go.Proofs.YtjfhncfbejephaaGreatDoor
