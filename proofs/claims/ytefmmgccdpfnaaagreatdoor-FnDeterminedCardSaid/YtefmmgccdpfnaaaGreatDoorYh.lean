import Derived.Test.YtefmmgccdpfnaaaGreatDoorMYi
import Derived.Test.YtefmmgccdpfnaaaGreatDoorMTm
/- The program's iterator over all parts of a term, however many they are: every part is good. -/
namespace Go.Proofs.YtefmmgccdpfnaaaGreatDoor
open Go.RowKit Go.Shelf
open Ff
set_option linter.unusedVariables false
attribute [local go_sem] Oper.semAt_some

/-- A term with names as the grammar has them. -/
def okH (t : Tm) : Prop := t.good
theorem okH_kid {t s : Tm} (h : okH t) (hs : s ∈ t.kids) : okH s := Tm.kid_good h hs
/-- What is asked of T: growth alone tells new blocks at most; no block that begins with an interface's value. -/
def ToldH (n₀ : Nat) (T : World → Nat → Prop) : Prop := (∀ A B, n₀ ≤ A.heap.size → Below A.heap.size A B → ∀ j, T B j → T A j ∨ A.heap.size ≤ j) ∧ ∀ W g, n₀ ≤ g → (∃ n v, W.cell? ⟨g, 0, none⟩ = some (.iface n v)) → ¬ T W g
theorem KeepT.stillH {n₀ : Nat} {T : World → Nat → Prop} (hT : ToldH n₀ T) {A B : World} (hn : n₀ ≤ A.heap.size) (h : Below A.heap.size A B) : KeepT T A B :=
  ⟨h.size, fun j o hj _ _ => (h.block j (Array.getElem?_eq_some_iff.1 hj).1).trans hj, fun j hj => hT.1 A B hn h j hj⟩
/-- What a round does, whatever the depth. -/
def YieldsH (l n₀ N : Nat) (T : World → Nat → Prop) (J Jx : List Tm → World → Prop) : Prop :=
  ∀ m pre x W, J pre W → pre.length < N → okH x → YieldAt Fence.wide m Tryz.prog l #[enc x] W fun e W' =>
    (e = .returned (.bool true) ∧ J (pre ++ [x]) W' ∧ KeepT T W W') ∨ (e = .returned (.bool false) ∧ Jx (pre ++ [x]) W')
def YieldsHC (l n₀ N : Nat) (T : World → Nat → Prop) (J Jx : List Tm → World → Prop) (d : Nat) : Prop :=
  ∀ (t : Tm) (n : Nat) (pre : List Tm) (W : World), t.depth ≤ d → okH t → n₀ ≤ W.heap.size → J pre W → pre.length + (parts t).length ≤ N →
    CallsIn Fence.wide n Tryz.prog 114 #[enc t, .func (.yield l) #[] #[]] W fun e W' =>
      (e = .returned (.bool true) ∧ J (pre ++ parts t) W' ∧ KeepT T W W') ∨ (e = .returned (.bool false) ∧ ∃ q, q <+: parts t ∧ Jx (pre ++ q) W')

set_option maxRecDepth 100000 in
set_option maxHeartbeats 2000000 in
theorem yieldsH_step {l n₀ N B : Nat} {T : World → Nat → Prop} {J Jx : List Tm → World → Prop} (hT : ToldH n₀ T) (hJ : AbidesFrom B J) (hY : YieldsH l n₀ N T J Jx) (d : Nat) (ih : YieldsHC l n₀ N T J Jx d) : YieldsHC l n₀ N T J Jx (d + 1) := by
  intro t n pre W ht hgd hn hj hN
  have hkl : t.kids.length ≤ 3 := by cases t <;> simp [Tm.kids]
  have hpos := parts_pos t
  obtain ⟨fn, tmps, assign, body, hy, hR⟩ := hY (n - 1) pre t W hj (by omega) hgd
  rw [enc_ty t] at hy ⊢
  have HP := Lib.hid hpos
  have HNN := Lib.hid hN
  clear hpos hN
  refine callsIn_of_wp Tryz.func114 rfl trivial ?_ rfl
  simp only [Tryz.ntmps114, List.size_toArray, List.length_cons, List.length_nil, Nat.reduceAdd, Nat.reduceSub, Array.replicate_succ, Array.replicate_zero, List.push_toArray, List.append_toArray, List.nil_append, List.cons_append]
  gi_wp2
  refine ⟨fun h => (by cases h), ?_⟩
  refine hR.mono ?_
  clear hR hy
  rintro e W3 (⟨rfl, hJ3, hk3⟩ | ⟨rfl, hJx3⟩)
  · have hn3 : n₀ ≤ W3.heap.size := Nat.le_trans hn hk3.1
    gi_wp2_with (refine wpListIn_invoke rfl _ _ (ty t) (pl t) rfl rfl (kf t) (kids_m t _ (by unfold KidsName; kernel_rfl) _) (kids_f t _) (fun v w' => SliceOf W3.heap.size w' v (t.kids.map enc) ∧ Below W3.heap.size W3 w') (kids_c t _) ?_; rintro x w1 ⟨hs, hb⟩; obtain ⟨a, rfl, hcell⟩ := hs.uni; clear hs; have HC := Lib.hid hcell; clear hcell)
    have hj1 : J (pre ++ before t 0) w1 := hJ _ _ _ none (by simpa [before] using hJ3) (grown_none hb) (fun r e => by cases e)
    have hn1 : n₀ ≤ w1.heap.size := Nat.le_trans hn3 hb.size
    have hk1 := hk3.trans (KeepT.stillH hT hn3 hb)
    obtain ⟨W1, hW1⟩ : ∃ W1, w1 = W1 := ⟨_, rfl⟩
    subst hW1
    gi_loopw [14] (fun i wr => ∃ k : Nat, k ≤ t.kids.length ∧ i = .int .i64 k ∧ J (pre ++ before t k) wr ∧ KeepT T w1 wr) (fun i _ => t.kids.length - (intOf i).toNat)
    case atStart => exact ⟨0, Nat.zero_le _, rfl, hj1, KeepT.stillH hT hn1 (Below.refl _ _)⟩
    case round =>
      obtain ⟨k, hkl2, rfl, hjk, hK⟩ := hrel
      by_cases hlt : k < t.kids.length
      · obtain ⟨s, hs⟩ : ∃ s, t.kids[k]? = some s := ⟨_, List.getElem?_eq_getElem hlt⟩
        obtain ⟨g, rfl, hg1, hg2, hc⟩ := HC.out k (enc s) (by simp [hs])
        have hc2 := hK.cell (p := ⟨g, k, none⟩) hc (hT.2 _ g (by omega) (by
          obtain ⟨s0, hs0⟩ : ∃ s0, t.kids[0]? = some s0 := ⟨_, List.getElem?_eq_getElem (by omega)⟩
          obtain ⟨g0, hg0, _, _, hc0⟩ := HC.out 0 (enc s0) (by simp [hs0])
          injection hg0 with hg0
          injection hg0 with hg0
          subst hg0
          obtain ⟨nn, vv, hv⟩ := enc_gen s0
          exact ⟨nn, vv, by rw [hc0, hv]⟩))
        have hmem := List.mem_of_getElem? hs
        have hbs := before_succ t k s hs
        have hbl := before_le t (k + 1)
        have hle : (pre ++ before t k).length + (parts s).length ≤ N := by
          have := HNN.out
          rw [hbs, List.length_append] at hbl
          rw [List.length_append]
          omega
        have C := ih s (n - 1) (pre ++ before t k) wr (by have := kid_depth hmem; omega) (okH_kid hgd hmem) (Nat.le_trans hn1 hK.1) hjk hle
        have HBS := Lib.hid hbs
        have HS := Lib.hid hs
        clear hs hc HC hbs hbl hmem hle
        gi_wp2_with (refine ⟨trivial, fun h => (by cases h), ?_⟩; gi_at_call 114; refine C.mono ?_; clear C; rintro e w2 (⟨rfl, hj2, hk2⟩ | ⟨rfl, q, hq, hx2⟩))
        · refine ⟨⟨k + 1, by omega, by go_num, by rw [HBS.out, ← List.append_assoc]; exact hj2, hK.trans hk2⟩, by simp [intOf]; omega⟩
        · go_ret
          refine .inr ⟨rfl, before t k ++ q, ?_, by rw [← List.append_assoc]; exact hx2⟩
          have e := before_succ t k s HS.out
          obtain ⟨r, hr⟩ := hq
          have hall : ∃ z, parts t = before t (k + 1) ++ z := ⟨(t.kids.drop (k + 1)).flatMap parts, by
            rw [parts_kids]; unfold before; rw [List.cons_append, ← List.flatMap_append, List.take_append_drop]⟩
          obtain ⟨z, hz⟩ := hall
          exact ⟨r ++ z, by rw [hz, e, ← hr]; simp [List.append_assoc]⟩
      · have hk2 : k = t.kids.length := by omega
        subst hk2
        rw [before_all] at hjk
        gi_wp2
        go_ret
        exact .inl ⟨rfl, hjk, hk1.trans hK⟩
  · gi_wp2
    go_ret
    exact .inr ⟨rfl, [t], ⟨t.kids.flatMap parts, by rw [parts_kids]; rfl⟩, hJx3⟩
theorem yieldsH_c {l n₀ N B : Nat} {T : World → Nat → Prop} {J Jx : List Tm → World → Prop} (hT : ToldH n₀ T) (hJ : AbidesFrom B J) (hY : YieldsH l n₀ N T J Jx) : ∀ d, YieldsHC l n₀ N T J Jx d
  | 0 => fun t _ _ _ ht => absurd ht (by have := t.depth_pos; omega)
  | d + 1 => yieldsH_step hT hJ hY d (yieldsH_c hT hJ hY d)

/-- A term as the grammar has it. -/
abbrev HTm := {t : Tm // okH t}
set_option maxHeartbeats 1000000 in
/-- What partsOf returns: the function value gives all parts, each ahead of its kids; all of them are good. -/
theorem partsH_stops (n Bt n₀ : Nat) (T : World → Nat → Prop) (hT : ToldH n₀ T) (t : Tm) (hgd : okH t) (w : World) (hBt : Bt < w.heap.size) (hn₀ : n₀ ≤ w.heap.size) (hc : w.cell? ⟨Bt, 0, none⟩ = some (enc t)) :
    SeqStopsK Fence.wide n Tryz.prog 113 #[.pointer (some ⟨Bt, 0, none⟩)] (fun x : HTm => #[enc x.1]) (KeepT T) (fun ys => ys.map (·.1) = parts t) (fun pre => pre.map (·.1) <+: parts t) (parts t).length w := by
  intro l J0 Jx0 W hW hJ0 hJx0 hY h0
  obtain ⟨J, hJd⟩ : ∃ J : List Tm → World → Prop, J = fun pre W => ∃ l : List HTm, l.map (·.1) = pre ∧ J0 l W := ⟨_, rfl⟩
  obtain ⟨Jx, hJxd⟩ : ∃ J : List Tm → World → Prop, J = fun pre W => ∃ l : List HTm, l.map (·.1) = pre ∧ Jx0 l W := ⟨_, rfl⟩
  have hJ : AbidesFrom W.heap.size J := by
    subst hJd
    rintro pre A B row ⟨l, hl, h⟩ hg hr
    exact ⟨l, hl, hJ0 l A B row h hg hr⟩
  have hp := yieldsH_c hT hJ (l := l) (N := (parts t).length) (Jx := Jx) (fun m pre x W1 h1 h2 hx => by
      subst hJd hJxd
      obtain ⟨l1, rfl, hj⟩ := h1
      refine YieldAt.any (m := n - 1) rfl m ?_
      obtain ⟨fn, tmps, assign, body, hy, hR⟩ := hY l1 ⟨x, hx⟩ W1 hj (by simpa using h2)
      refine ⟨fn, tmps, assign, body, hy, hR.mono ?_⟩
      rintro e W' (⟨rfl, h3, h4⟩ | ⟨rfl, h3⟩)
      · exact .inl ⟨rfl, ⟨_, by simp, h3⟩, h4⟩
      · exact .inr ⟨rfl, ⟨_, by simp, h3⟩⟩) t.depth t (n - 1) [] W (Nat.le_refl _) hgd (Nat.le_trans hn₀ hW.size) (by subst hJd; exact ⟨[], rfl, h0⟩) (by simp)
  have hc2 := (hW.cell (p := ⟨Bt, 0, none⟩) hBt).trans hc
  rw [enc_ty t] at hc2 hp
  show CallsIn Fence.wide n Tryz.prog 113 #[.func (.yield l) #[] #[], .pointer (some ⟨Bt, 0, none⟩)] W _
  refine callsIn_of_wp Tryz.func113 rfl trivial ?_ rfl
  simp only [Tryz.ntmps113, List.size_toArray, List.length_cons, List.length_nil, Nat.reduceAdd, Nat.reduceSub, Array.replicate_succ, Array.replicate_zero, List.push_toArray, List.append_toArray, List.nil_append, List.cons_append]
  gi_wp2_with (refine ⟨trivial, fun h => (by cases h), ?_⟩; gi_at_call 114; refine hp.mono ?_; clear hp; rintro e W1 (⟨rfl, hJ1, _⟩ | ⟨rfl, q, hq, hx⟩))
  · go_end0
    subst hJd
    obtain ⟨l1, hl1, hj⟩ := hJ1
    exact ⟨⟨_, rfl⟩, .inl ⟨l1, by simpa using hl1, hj⟩⟩
  · go_end0
    subst hJxd
    obtain ⟨l1, hl1, hj⟩ := hx
    exact ⟨⟨_, rfl⟩, .inr ⟨l1, by rw [hl1]; simpa using hq, hj⟩⟩
end Go.Proofs.YtefmmgccdpfnaaaGreatDoor
