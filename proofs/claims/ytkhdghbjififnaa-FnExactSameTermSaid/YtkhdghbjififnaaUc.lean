import Derived.Test.YtkhdghbjififnaaUb
/- Unique: the program's visit of the kids, where visitors take names. -/
namespace Go.Proofs.Ytkhdghbjififnaa
open Go.RowKit
open Ff
set_option linter.unusedVariables false
attribute [local go_sem] Oper.semAt_some

/-- What a visit comes to. -/
def UnqP (b : Nat) (o : Option (Tm × Text)) (w : World) (e : Ending) (w' : World) : Prop :=
  ((∃ r, o = some r ∧ e = .returned (enc r.1) ∧ Took w' b r.2) ∨ (o = none ∧ e = .panicked shortP)) ∧ w.grownBy w' (some b)
/-- A visitor. -/
def VisU (b : Nat) (w0 : World) (fv : Value) (s : Tm) (u : Text) (o : Option (Tm × Text)) : Prop :=
  ∃ (f : FuncId) (cap : Array Value), fv = .func (.func f) #[] cap ∧ (∀ (W : World) (v : Value), (callFunc f (#[v] ++ cap)).run Try.prog W = .ok (.enter f (#[v] ++ cap)) W) ∧
    ∀ W, w0.grownBy W (some b) → Took W b u → Calls Try.prog f (#[enc s] ++ cap) W (UnqP b o W)
theorem row_keepB {W W' : World} {base b : Nat} {e : TypeId} {size n g cap : Nat} {xs : List Value} (h : W.ownsRow base e size (.slice (some ⟨g, 0, none⟩) n cap) n xs) (hb : W.grownBy W' (some b)) (hg : g ≠ b) : W'.ownsRow base e size (.slice (some ⟨g, 0, none⟩) n cap) n xs :=
  World.ownsRow.kept (row := some b) h hb (.inr (by simp [Value.ownBlock, hg]))
/-- Cells of a row, kept. -/
def RowG (w : World) (a : Option Addr) (b r : Nat) (l : List Value) : Prop := ∀ i x, l[i]? = some x → ∃ g, a = some ⟨g, 0, none⟩ ∧ g ≠ b ∧ g ≠ r ∧ w.cell? ⟨g, i, none⟩ = some x
theorem RowG.kept {w w' : World} {a : Option Addr} {b r : Nat} {l : List Value} (h : RowG w a b r l) (hg : w.grownBy w' (some b)) : RowG w' a b r l := fun i x hx => by
  obtain ⟨g, h1, h2, h3, h4⟩ := h i x hx
  exact ⟨g, h1, h2, h3, hg.cell h4 (by simpa using h2)⟩
theorem RowG.set {w : World} {a : Option Addr} {b r : Nat} {l : List Value} (h : RowG w a b r l) (k : Nat) (v : Value) : RowG (w.setCell ⟨r, k, none⟩ v) a b r l := fun i x hx => by
  obtain ⟨g, h1, h2, h3, h4⟩ := h i x hx
  exact ⟨g, h1, h2, h3, by rw [World.cell?_setCell_other _ _ _ _ (by simp)]; exact h4⟩
theorem Took.set {w : World} {b : Nat} {u : Text} (h : Took w b u) {a : Addr} (ha : b ≠ a.block) (v : Value) : Took (w.setCell a v) b u := by
  obtain ⟨n, m, h1, h2⟩ := h
  exact ⟨n, m, h1.setCell ha v, h2⟩

set_option maxRecDepth 100000 in
set_option maxHeartbeats 4000000 in
theorem visitU_c (F : (UInt8 → UInt8) → Text → Tm → Option (Tm × Text)) (en eI : UInt8 → UInt8) (u0 : Text) (t : Tm) (fo fi : Value) (b : Nat) (w : World) (hT : Took w b u0)
    (hv : ∀ k s st, t.kids[k]? = some s → unqAt F en eI u0 t.kids k = some st → VisU b w (if k + 1 = t.kids.length then fi else fo) s st.2 (F (if k + 1 = t.kids.length then eI else en) st.2 s)) :
    Calls Try.prog 46 #[enc t, fo, fi] w fun e w' => w.grownBy w' (some b) ∧
      ((∃ st a cap, unqAt F en eI u0 t.kids t.kids.length = some st ∧ st.1.length = t.kids.length ∧ e = .returned (.slice a t.kids.length cap) ∧ RowAt w' a (st.1.map enc) ∧ Took w' b st.2) ∨ (unqAt F en eI u0 t.kids t.kids.length = none ∧ e = .panicked shortP)) := by
  obtain ⟨i0, hi, hz0, hz1, hz2⟩ := info_parts Try.infoTm
  have hk3 : t.kids.length ≤ 3 := by cases t <;> simp [Tm.kids]
  have hbw := hT.lt
  rw [enc_ty t]
  have HV := Lib.hid hv
  clear hv
  obtain ⟨n, hn⟩ : ∃ n, t.kids.length = n := ⟨_, rfl⟩
  go_enter Try.func46, Try.ntmps46
  go_wp2_with (refine wpList_invoke rfl _ _ (ty t) (pl t) rfl rfl (kf t) (kids_m t _ (by unfold KidsName; kernel_rfl) _) (kids_f t _) (fun v w' => SliceOf w.heap.size w' v (t.kids.map enc) ∧ Below w.heap.size w w') (kids_c t _) ?_; rintro x w1 ⟨hs, hb⟩; obtain ⟨a, rfl, hcell⟩ := hs.uni; clear hs; have HC := Lib.hid hcell; clear hcell; rw [List.length_map, hn]; obtain ⟨w2, hrun, hown, hgrow⟩ := run_make_full (P := Try.prog) w1 w1.heap.size 81 37 i0 .nilIface 1 Try.underlying81 hi hz0 hz1 .i64 .i64 n (by rw [hz2]; omega) (by unfold maxLen; omega) (Nat.le_refl _))
  have hb2 : Below w.heap.size w w2 := hb.grown hgrow hb.size (fun j hj => by cases hj)
  have hs1 := hb.size
  have HC2 : RowG w2 a b w1.heap.size (t.kids.map enc) := fun i x hx => by
    obtain ⟨g, h1, h2, h3, h4⟩ := HC.out i x hx
    exact ⟨g, h1, by omega, by omega, hgrow.cell h4 (by simp)⟩
  have hT2 : Took w2 b u0 := hT.below hb2
  have hG2 : w.grownBy w2 (some b) := (below_grown hb2).but _
  have HO := Lib.hid hown
  have HN := Lib.hid hn
  have HC3 := Lib.hid HC2
  clear hown hrun HC HC2 hT
  go_loopw [18] (fun i wr => ∃ (k : Nat) (ys : List Value) (st : List Tm × Text), k ≤ n ∧ i = .int .i64 k ∧ unqAt F en eI u0 t.kids k = some st ∧ st.1.length = k ∧ wr.ownsRow w1.heap.size 37 1 (.slice (some ⟨w1.heap.size, 0, none⟩) n n) n ys ∧ w.grownBy wr (some b) ∧ RowG wr a b w1.heap.size (t.kids.map enc) ∧ Took wr b st.2 ∧ ∀ (j : Nat) (r : Tm), st.1[j]? = some r → ys[j]? = some (enc r)) (fun i _ => n - (intOf i).toNat)
  case atStart => exact ⟨0, _, ([], u0), Nat.zero_le _, rfl, rfl, rfl, HO.out, hG2, HC3.out, hT2, fun j r h => by simp at h⟩
  case round =>
    clear hT2 hG2
    obtain ⟨k, ys, st, hk, rfl, hst, hstl, hO, hG, hR, hTr, hys⟩ := hrel
    have hyl : ys.length = n := by have := hO.1; omega
    by_cases hlt : k < n
    · obtain ⟨s, hs⟩ : ∃ s, t.kids[k]? = some s := ⟨_, List.getElem?_eq_getElem (by have := HN.out; omega)⟩
      obtain ⟨y, hy⟩ : ∃ y, ys[k]? = some y := ⟨_, List.getElem?_eq_getElem (by omega)⟩
      obtain ⟨g, rfl, hgb, hg1, hc2⟩ := hR k (enc s) (by simp [hs])
      have hvis := HV.out k s st hs hst
      rw [HN.out] at hvis
      have hsr : w1.heap.size < wr.heap.size := (hO.lt w1.heap.size rfl).2
      have hnext : unqAt F en eI u0 t.kids (k + 1) = (F (if k + 1 = n then eI else en) st.2 s).map fun r => (st.1 ++ [r.1], r.2) := by
        rw [unqAt, hst, Option.bind_some, hs, Option.bind_some, HN.out]
      have HS := Lib.hid hs
      have HST := Lib.hid hst
      have HNX := Lib.hid hnext
      have HSL := Lib.hid hstl
      have HRR := Lib.hid hR
      have HY := Lib.hid hys
      have HYL := Lib.hid hyl
      have HOO := Lib.hid hO
      have cy := hO.cells (g := w1.heap.size) rfl k y hy
      rw [Addr.add_lit, Nat.zero_add] at cy
      have fy := Ints.frozen hO k
      have hrb : w1.heap.size ≠ b := by omega
      clear hs hst hnext hstl hR hys hyl hO hy
      rw [enc_ty s] at hc2
      obtain ⟨o, ho⟩ : ∃ o, F (if k + 1 = n then eI else en) st.2 s = o := ⟨_, rfl⟩
      rw [ho] at hvis
      have HO2 := Lib.hid ho
      clear ho
      have fin : ∀ (w3 : World) (r : Tm × Text), o = some r → wr.grownBy w3 (some b) → Took w3 b r.2 → ∃ (k' : Nat) (ys' : List Value) (st' : List Tm × Text), k' ≤ n ∧ Value.int .i64 ((k : Int) + 1) = .int .i64 k' ∧ unqAt F en eI u0 t.kids k' = some st' ∧ st'.1.length = k' ∧ (w3.setCell ⟨w1.heap.size, k, none⟩ (enc r.1)).ownsRow w1.heap.size 37 1 (.slice (some ⟨w1.heap.size, 0, none⟩) n n) n ys' ∧ w.grownBy (w3.setCell ⟨w1.heap.size, k, none⟩ (enc r.1)) (some b) ∧ RowG (w3.setCell ⟨w1.heap.size, k, none⟩ (enc r.1)) (some ⟨g, 0, none⟩) b w1.heap.size (t.kids.map enc) ∧ Took (w3.setCell ⟨w1.heap.size, k, none⟩ (enc r.1)) b st'.2 ∧ ∀ (j : Nat) (r : Tm), st'.1[j]? = some r → ys'[j]? = some (enc r) := fun w3 r hor hg3 hT3 => by
        have hn1 := HNX.out
        rw [HO2.out, hor, Option.map_some] at hn1
        refine ⟨k + 1, ys.set k (enc r.1), _, by omega, by simp, hn1, by simp [HSL.out], row_setI (row_keepB HOO.out hg3 hrb) k _, (hG.trans hg3).andThen (grownBy_setCell w3 w1.heap.size k _) (fun j hj => by simp at hj; left; omega), (HRR.out.kept hg3).set k _, hT3.set (by simp; omega) _, fun j r' hj => ?_⟩
        by_cases e : j = k
        · subst e
          rw [List.getElem?_append_right (by rw [HSL.out]; exact Nat.le_refl _), HSL.out] at hj
          simp only [Nat.sub_self, List.getElem?_cons_zero, Option.some.injEq] at hj
          subst hj
          rw [List.getElem?_set_self (by rw [HYL.out]; exact hlt)]
        · rw [List.getElem?_set_ne (Ne.symm e)]
          have hjl := (List.getElem?_eq_some_iff.1 hj).1
          rw [List.getElem?_append_left (by simp [HSL.out] at hjl ⊢; omega)] at hj
          exact HY.out j r' hj
      have HF := Lib.hid fin
      clear fin
      by_cases hlast : k + 1 = n
      · rw [if_pos hlast] at hvis
        have hq := last_eq hlast
        obtain ⟨f, cap, rfl, hcf, hC⟩ := hvis
        have C := hC wr hG hTr
        rw [enc_ty s] at C
        have hw : IntKind.i64.wrap ((n : Int) - 1) = (n : Int) - 1 := by rw [IntKind.wrap_i64]; omega
        have HLA := Lib.hid hlast
        clear hlast hC HV
        go_wp2_with fail
        refine C.mono ?_
        clear C hcf
        rintro e w3 ⟨⟨r, hor, rfl, hT3⟩ | ⟨hor, rfl⟩, hg3⟩
        · have c3 := hg3.cell cy (by simp; omega)
          have f3 := (hg3.frozen_far ⟨w1.heap.size, k, none⟩ hsr (by simp; omega)).trans fy
          have HF2 := Lib.hid (HF.out w3 r hor hg3 hT3)
          obtain ⟨m1, m2, m3⟩ := enc_gen r.1
          rw [m3] at HF2 ⊢
          clear cy fy m3 hor hT3 HF
          go_wp2_with fail
          refine ⟨HF2.out, by simp [intOf]; omega⟩
        · have hn1 := unqAt_none (show unqAt F en eI u0 t.kids (k + 1) = none by rw [HNX.out, HO2.out, hor]; rfl) (n - (k + 1))
          rw [show k + 1 + (n - (k + 1)) = n by omega] at hn1
          exact ⟨rfl, hG.trans hg3, .inr ⟨by rw [HN.out]; exact hn1, rfl⟩⟩
      · rw [if_neg hlast] at hvis
        have hq := last_ne hlast
        obtain ⟨f, cap, rfl, hcf, hC⟩ := hvis
        have C := hC wr hG hTr
        rw [enc_ty s] at C
        have hw : IntKind.i64.wrap ((n : Int) - 1) = (n : Int) - 1 := by rw [IntKind.wrap_i64]; omega
        have HLA := Lib.hid hlast
        clear hlast hC HV
        go_wp2_with fail
        refine C.mono ?_
        clear C hcf
        rintro e w3 ⟨⟨r, hor, rfl, hT3⟩ | ⟨hor, rfl⟩, hg3⟩
        · have c3 := hg3.cell cy (by simp; omega)
          have f3 := (hg3.frozen_far ⟨w1.heap.size, k, none⟩ hsr (by simp; omega)).trans fy
          have HF2 := Lib.hid (HF.out w3 r hor hg3 hT3)
          obtain ⟨m1, m2, m3⟩ := enc_gen r.1
          rw [m3] at HF2 ⊢
          clear cy fy m3 hor hT3 HF
          go_wp2_with fail
          refine ⟨HF2.out, by simp [intOf]; omega⟩
        · have hn1 := unqAt_none (show unqAt F en eI u0 t.kids (k + 1) = none by rw [HNX.out, HO2.out, hor]; rfl) (n - (k + 1))
          rw [show k + 1 + (n - (k + 1)) = n by omega] at hn1
          exact ⟨rfl, hG.trans hg3, .inr ⟨by rw [HN.out]; exact hn1, rfl⟩⟩
    · obtain rfl : k = n := by omega
      have HY := Lib.hid hys
      have HYL := Lib.hid hyl
      have HOO := Lib.hid hO
      have HST := Lib.hid hst
      have HSL := Lib.hid hstl
      clear hys hyl hO hst hstl hR
      go_wp2_with fail
      go_ret
      refine ⟨hG, .inl ⟨st, _, k, by rw [HN.out]; exact HST.out, by rw [HN.out]; exact HSL.out, by rw [HN.out]; rfl, fun j x hx => ?_, hTr⟩⟩
      obtain ⟨r, hr, rfl⟩ : ∃ r, st.1[j]? = some r ∧ enc r = x := by simpa using hx
      have h2 := HY.out j r hr
      have h3 := HOO.out.cells (g := w1.heap.size) rfl j _ h2
      rw [Addr.add_lit, Nat.zero_add] at h3
      exact ⟨_, rfl, (HOO.out.lt w1.heap.size rfl).2, h3⟩
end Go.Proofs.Ytkhdghbjififnaa
