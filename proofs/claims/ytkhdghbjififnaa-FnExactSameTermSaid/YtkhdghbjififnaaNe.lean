import Derived.Test.YtkhdghbjififnaaNd
import Derived.Test.YtkhdghbjififnaaPuW
/- SameTerm: the program's. -/
namespace Go.Proofs.Ytkhdghbjififnaa
open Go.RowKit
open Ff
set_option linter.unusedVariables false

def SameC (n : Nat) : Prop := ∀ (k k' : Knot) (v v' : Value) (B : Nat) (w : World), okK n k → okK n k' → KRep (fun g => g < B) w k v → KRep (fun g => g < B) w k' v' → B ≤ w.heap.size →
  Calls Try.prog 29 #[v, v'] w fun e w' => e = .returned (.bool (eqK n k k')) ∧ Below w.heap.size w w'
theorem enter_same (w : World) (v v' : Value) : (callFunc 29 #[v, v']).run Try.prog w = .ok (.enter 29 #[v, v']) w := by kernel_rfl
theorem knot_cells {B : Nat} {w : World} {c : Nat → Value} {i g n : Nat} {x : Knot} (hi : i < n) (hc : ∀ k, k < 3 * n → w.cell? ⟨g, k, none⟩ = some (c k)) (hr : KRep (fun g => g < B) w x (three c i)) (hgw : g < w.heap.size) :
    ∃ (y0 y1 : Int) (y2 : Option Addr) (y3 y4 : Nat), KRep (fun g => g < B) w x (.agg #[.int .u8 y0, .int .i64 y1, .slice y2 y3 y4]) ∧ ∀ W, Below w.heap.size w W → W.cell? ⟨g, i * 3, none⟩ = some (.int .u8 y0) ∧ W.cell? ⟨g, i * 3 + 1, none⟩ = some (.int .i64 y1) ∧ W.cell? ⟨g, i * 3 + 2, none⟩ = some (.slice y2 y3 y4) := by
  obtain ⟨y0, y1, y2, y3, y4, he⟩ := hr.junk
  have h2 : KRep (fun g => g < B) w x (.agg #[.int .u8 y0, .int .i64 y1, .slice y2 y3 y4]) := by rw [← he]; exact hr
  unfold three at he
  simp only [Value.agg.injEq, Array.mk.injEq, List.cons.injEq, and_true] at he
  obtain ⟨i0, i1, i2⟩ := he
  refine ⟨y0, y1, y2, y3, y4, h2, fun W hW => ?_⟩
  have hcells : ∀ j, j < 3 → W.cell? ⟨g, 3 * i + j, none⟩ = some (c (3 * i + j)) := fun j hj => (hW.cell (p := ⟨g, 3 * i + j, none⟩) hgw).trans (hc (3 * i + j) (by omega))
  refine ⟨?_, ?_, ?_⟩
  · rw [← i0]; have := hcells 0 (by omega); rwa [Nat.mul_comm i 3]
  · rw [← i1]; have := hcells 1 (by omega); rwa [Nat.mul_comm i 3]
  · rw [← i2]; have := hcells 2 (by omega); rwa [Nat.mul_comm i 3]
set_option maxRecDepth 100000 in
set_option maxHeartbeats 4000000 in
theorem equal_c (n : Nat) (ih : SameC n) (ks ks' : List Knot) (g cap g' cap' B : Nat) (c c' : Nat → Value) (w : World) (hB : B ≤ w.heap.size) (hgB : g < B) (hgB' : g' < B) (hl : ks.length ≤ 3) (hl' : ks'.length ≤ 3) (hok : ∀ k ∈ ks, okK n k) (hok' : ∀ k ∈ ks', okK n k)
    (hc : ∀ k, k < 3 * ks.length → w.cell? ⟨g, k, none⟩ = some (c k)) (hr : ∀ i x, ks[i]? = some x → KRep (fun g => g < B) w x (three c i))
    (hc' : ∀ k, k < 3 * ks'.length → w.cell? ⟨g', k, none⟩ = some (c' k)) (hr' : ∀ i x, ks'[i]? = some x → KRep (fun g => g < B) w x (three c' i)) :
    Calls Try.prog 53 #[.slice (some ⟨g, 0, none⟩) ks.length cap, .slice (some ⟨g', 0, none⟩) ks'.length cap', .func (.func 29) #[] #[]] w fun e w' => e = .returned (.bool (decide (ks.length = ks'.length) && (ks.zip ks').all fun p => eqK n p.1 p.2)) ∧ Below w.heap.size w w' := by
  have KC := fun (i : Nat) (x : Knot) (hx : ks[i]? = some x) => knot_cells (List.getElem?_eq_some_iff.1 hx).1 hc (hr i x hx) (by omega)
  have KC' := fun (i : Nat) (x : Knot) (hx : ks'[i]? = some x) => knot_cells (List.getElem?_eq_some_iff.1 hx).1 hc' (hr' i x hx) (by omega)
  clear hc hr hc' hr'
  obtain ⟨n1, hn1⟩ : ∃ n1, ks.length = n1 := ⟨_, rfl⟩
  obtain ⟨n2, hn2⟩ : ∃ n2, ks'.length = n2 := ⟨_, rfl⟩
  rw [hn1] at hl ⊢
  rw [hn2] at hl' ⊢
  have H1 := Lib.hid hn1
  have H2 := Lib.hid hn2
  have HK := Lib.hid KC
  have HK' := Lib.hid KC'
  have HO := Lib.hid hok
  have HO' := Lib.hid hok'
  clear hn1 hn2 KC KC' hok hok'
  by_cases hne : n1 = n2
  · subst hne
    rw [decide_eq_true rfl, Bool.true_and]
    obtain ⟨R, hR⟩ : ∃ R, R = (ks.zip ks').all fun p => eqK n p.1 p.2 := ⟨_, rfl⟩
    rw [← hR]
    have HR := Lib.hid hR
    clear hR
    go_enter Try.func53, Try.ntmps53
    go_wp2_with fail
    go_loopw [17] (fun ix wr => ∃ k : Nat, k ≤ n1 ∧ ix = .int .i64 k ∧ Below w.heap.size w wr ∧ ∀ (j : Nat) (x y : Knot), j < k → ks[j]? = some x → ks'[j]? = some y → eqK n x y = true) (fun ix _ => n1 - (intOf ix).toNat)
    case atStart => exact ⟨0, Nat.zero_le _, rfl, Below.refl _ _, fun j x y h => by omega⟩
    case round =>
      obtain ⟨k, hk, rfl, hBl, hall⟩ := hrel
      have hsz := hBl.size
      have HALL := Lib.hid hall
      clear hall
      by_cases hlt : k < n1
      · obtain ⟨x, hx⟩ : ∃ x, ks[k]? = some x := ⟨_, List.getElem?_eq_getElem (by have := H1.out; omega)⟩
        obtain ⟨y, hy⟩ : ∃ y, ks'[k]? = some y := ⟨_, List.getElem?_eq_getElem (by have := H2.out; omega)⟩
        obtain ⟨a0, a1, a2, a3, a4, ra, ca⟩ := HK.out k x hx
        obtain ⟨b0, b1, b2, b3, b4, rb, cb⟩ := HK'.out k y hy
        obtain ⟨p0, p1, p2⟩ := ca _ hBl
        obtain ⟨q0, q1, q2⟩ := cb _ hBl
        have hw1 : Below wr.heap.size wr (wr.alloc (.cells #[.int .u8 a0, .int .i64 a1, .slice a2 a3 a4] 55)) := (Below.refl _ wr).alloc (Nat.le_refl _) _
        obtain ⟨q0', q1', q2'⟩ := cb _ (hBl.trans (hw1.mono hsz))
        have hw2 := below_two wr (.cells #[.int .u8 a0, .int .i64 a1, .slice a2 a3 a4] 55) (.cells #[.int .u8 b0, .int .i64 b1, .slice b2 b3 b4] 55)
        have hB2 := hBl.trans (hw2.mono hsz)
        have C := ih x y _ _ B _ (HO.out x (List.mem_of_getElem? hx)) (HO'.out y (List.mem_of_getElem? hy)) (ra.keep (fun g hg => hB2.block g (by omega)) (fun g hg => hg)) (rb.keep (fun g hg => hB2.block g (by omega)) (fun g hg => hg)) (by have := hB2.size; omega)
        have HX := Lib.hid hx
        have HY := Lib.hid hy
        clear hx hy ra rb ca cb
        rcases hb : eqK n x y with _ | _
        · rw [hb] at C
          have hRf : R = false := by
            rw [HR.out, List.all_eq_false]
            refine ⟨(x, y), List.mem_of_getElem? (i := k) ?_, by simp [hb]⟩
            rw [List.getElem?_zip_eq_some]
            exact ⟨HX.out, HY.out⟩
          have HRF := Lib.hid hRf
          clear hb hRf
          go_wp2_with (go_at_call 29; refine C.mono ?_; clear C; rintro e w3 ⟨rfl, hb3⟩)
          go_ret
          exact ⟨by rw [HRF.out]; rfl, hB2.trans (hb3.mono hB2.size)⟩
        · rw [hb] at C
          have HB := Lib.hid hb
          clear hb
          go_wp2_with (go_at_call 29; refine C.mono ?_; clear C; rintro e w3 ⟨rfl, hb3⟩)
          refine ⟨⟨k + 1, by omega, by go_num, hB2.trans (hb3.mono hB2.size), fun j x' y' hj hx' hy' => ?_⟩, by simp [intOf]; omega⟩
          by_cases e : j = k
          · subst e
            rw [HX.out] at hx'
            rw [HY.out] at hy'
            injection hx' with hx'
            injection hy' with hy'
            subst hx' hy'
            exact HB.out
          · exact HALL.out j x' y' (by omega) hx' hy'
      · obtain rfl : k = n1 := by omega
        have hRt : R = true := by
          rw [HR.out, List.all_eq_true]
          intro p hp
          obtain ⟨j, hj⟩ := List.getElem?_of_mem hp
          obtain ⟨x, y⟩ := p
          rw [List.getElem?_zip_eq_some] at hj
          exact HALL.out j x y (by have := (List.getElem?_eq_some_iff.1 hj.1).1; have := H1.out; omega) hj.1 hj.2
        subst hRt
        go_wp2_with fail
        go_ret
        exact ⟨rfl, hBl⟩
  · rw [decide_eq_false hne, Bool.false_and]
    have hne2 : ((n1 : Int) == (n2 : Int)) = false := by rw [beq_eq_false_iff_ne]; omega
    go_enter Try.func53, Try.ntmps53
    go_wp2_with fail
    go_ret
    exact ⟨rfl, Below.refl _ _⟩
set_option maxRecDepth 100000 in
set_option maxHeartbeats 4000000 in
theorem same_step (n : Nat) (ih : SameC n) (s s' : UInt8) (v v' : Int) (ks ks' : List Knot) (g cap g' cap' B : Nat) (c c' : Nat → Value) (w : World) (hB : B ≤ w.heap.size) (hgB : g < B) (hgB' : g' < B) (hl : ks.length ≤ 3) (hl' : ks'.length ≤ 3) (hok : ∀ k ∈ ks, okK n k) (hok' : ∀ k ∈ ks', okK n k)
    (hc : ∀ k, k < 3 * ks.length → w.cell? ⟨g, k, none⟩ = some (c k)) (hr : ∀ i x, ks[i]? = some x → KRep (fun g => g < B) w x (three c i))
    (hc' : ∀ k, k < 3 * ks'.length → w.cell? ⟨g', k, none⟩ = some (c' k)) (hr' : ∀ i x, ks'[i]? = some x → KRep (fun g => g < B) w x (three c' i)) :
    Calls Try.prog 29 #[.agg #[.int .u8 (s.toNat : Int), .int .i64 v, .slice (some ⟨g, 0, none⟩) ks.length cap], .agg #[.int .u8 (s'.toNat : Int), .int .i64 v', .slice (some ⟨g', 0, none⟩) ks'.length cap']] w fun e w' => e = .returned (.bool (eqK (n + 1) (.mk s v ks) (.mk s' v' ks'))) ∧ Below w.heap.size w w' := by
  have hb2 := below_two w (.cells #[.int .u8 (s.toNat : Int), .int .i64 v, .slice (some ⟨g, 0, none⟩) ks.length cap] 55) (.cells #[.int .u8 (s'.toNat : Int), .int .i64 v', .slice (some ⟨g', 0, none⟩) ks'.length cap'] 55)
  have KE := fun (W : World) (hW : Below w.heap.size w W) => equal_c n ih ks ks' g cap g' cap' B c c' W (by have := hW.size; omega) hgB hgB' hl hl' hok hok' (fun k hk => (hW.cell (p := ⟨g, k, none⟩) (by show g < _; omega)).trans (hc k hk)) (fun i x hx => (hr i x hx).keep (fun g hg => hW.block g (by omega)) (fun g hg => hg)) (fun k hk => (hW.cell (p := ⟨g', k, none⟩) (by show g' < _; omega)).trans (hc' k hk)) (fun i x hx => (hr' i x hx).keep (fun g hg => hW.block g (by omega)) (fun g hg => hg))
  clear hc hr hc' hr' hok hok'
  simp only [eqK]
  obtain ⟨n1, hn1⟩ : ∃ n1, ks.length = n1 := ⟨_, rfl⟩
  obtain ⟨n2, hn2⟩ : ∃ n2, ks'.length = n2 := ⟨_, rfl⟩
  simp only [hn1, hn2] at *
  generalize hR : (decide (n1 = n2) && (ks.zip ks').all fun p => eqK n p.1 p.2) = R at *
  clear hR hn1 hn2
  by_cases h : s = s' ∧ v = v'
  · obtain ⟨rfl, rfl⟩ := h
    have e : (decide (s = s) && decide (v = v) && R) = R := by simp
    rw [e]
    go_enter Try.func29, Try.ntmps29
    go_wp2_with fail
    refine (KE _ hb2).mono ?_
    rintro e w3 ⟨rfl, hb3⟩
    go_wp2_with fail
    go_ret
    exact ⟨rfl, hb2.trans (hb3.mono hb2.size)⟩
  · have e : (decide (s = s') && decide (v = v') && R) = false := by
      by_cases h1 : s = s'
      · have h2 : v ≠ v' := fun h2 => h ⟨h1, h2⟩
        simp [h2]
      · simp [h1]
    rw [e]
    clear e KE
    by_cases h1 : s = s'
    · have h2 : v ≠ v' := fun h2 => h ⟨h1, h2⟩
      subst h1
      have h3 : (v == v') = false := by rw [beq_eq_false_iff_ne]; exact h2
      clear h h2
      go_enter Try.func29, Try.ntmps29
      go_wp2_with fail
      go_ret
      exact ⟨rfl, hb2⟩
    · have h3 : ((s.toNat : Int) == (s'.toNat : Int)) = false := by rw [bv_eq]; simp [h1]
      clear h h1
      go_enter Try.func29, Try.ntmps29
      go_wp2_with fail
      go_ret
      exact ⟨rfl, hb2⟩
theorem same_c : ∀ n, SameC n
  | 0 => fun k k' v v' B w h => absurd h (by simp [okK])
  | n + 1 => by
    intro k k' v v' B w h h' hr hr' hB
    cases hr with
    | mk s v ks g cap c hg hc hk =>
    cases hr' with
    | mk s' v' ks' g' cap' c' hg' hc' hk' =>
    exact same_step n (same_c n) s s' v v' ks ks' g cap g' cap' B c c' w hB hg hg' h.2.1 h'.2.1 h.2.2.2 h'.2.2.2 hc hk hc' hk'
/-- What SameTerm comes to. -/
def sameO (s s2 : Text) : Bool := match readS s, readS s2 with
  | some t, some u => decide (nlT 24 noF t = nlT 24 noF u)
  | _, _ => false
set_option maxRecDepth 100000 in
set_option maxHeartbeats 4000000 in
theorem iSame_c (s s2 : Text) (w : World) (hl : s.length ≤ 9223372036854775807) (hl2 : s2.length ≤ 9223372036854775807) :
    Calls Try.prog 9 #[.string ⟨s.toArray⟩, .string ⟨s2.toArray⟩] w fun e w' => e = .returned (.bool (sameO s s2)) ∧ Below w.heap.size w w' := by
  have C1 := fun W => read_c s W hl
  have C2 := fun W => read_c s2 W hl2
  simp only [← readS_eq] at C1 C2
  obtain ⟨O, hO⟩ : ∃ O, O = sameO s s2 := ⟨_, rfl⟩
  rw [← hO]
  unfold sameO at hO
  rcases hr : readS s with _ | t
  · have hO2 : O = false := by rw [hO, hr]
    subst hO2
    rw [hr] at C1
    clear hO hr
    rcases hr2 : readS s2 with _ | u
    all_goals
      rw [hr2] at C2
      clear hr2
      go_enter Try.func9, Try.ntmps9
      go_wp2_with fail
      refine (C1 _).mono ?_
      clear C1
      rintro e w1 ⟨rfl, hb1⟩
      go_wp2_with fail
      refine (C2 _).mono ?_
      clear C2
      rintro e w2 ⟨rfl, hb2⟩
      try rw [enc_ty u]
      go_wp2_with fail
      go_ret
      exact ⟨rfl, hb1.trans (hb2.mono hb1.size)⟩
  · obtain ⟨tg, td, tp⟩ := read_facts hr
    rw [hr] at hO C1
    clear hr
    rcases hr2 : readS s2 with _ | u
    · have hO2 : O = false := by rw [hO, hr2]
      subst hO2
      rw [hr2] at C2
      clear hO hr2
      go_enter Try.func9, Try.ntmps9
      go_wp2_with fail
      refine (C1 _).mono ?_
      clear C1
      rintro e w1 ⟨rfl, hb1⟩
      rw [enc_ty t]
      go_wp2_with fail
      refine (C2 _).mono ?_
      clear C2
      rintro e w2 ⟨rfl, hb2⟩
      go_wp2_with fail
      go_ret
      exact ⟨rfl, hb1.trans (hb2.mono hb1.size)⟩
    · obtain ⟨ug, ud, up⟩ := read_facts hr2
      rw [hr2] at hO C2
      clear hr2
      have hsb := same_both td ud tg ug noF_ok noF_ok
      simp only at hO
      rw [← hsb] at hO
      have HO := Lib.hid hO
      have K1 := fun W => nameless_c t W td tg (by omega)
      have K2 := fun W => nameless_c u W ud ug (by omega)
      rw [enc_ty t] at K1
      rw [enc_ty u] at K2
      clear hO hsb
      go_enter Try.func9, Try.ntmps9
      go_wp2_with fail
      refine (C1 _).mono ?_
      clear C1
      rintro e w1 ⟨rfl, hb1⟩
      rw [enc_ty t]
      go_wp2_with fail
      refine (C2 _).mono ?_
      clear C2
      rintro e w2 ⟨rfl, hb2⟩
      rw [enc_ty u]
      have hB2 := hb1.trans (hb2.mono hb1.size)
      go_wp2_with fail
      refine (K1 _).mono ?_
      clear K1
      rintro e w3 ⟨v1, rfl, hb3, hr3⟩
      obtain ⟨x0, x1, x2, x3, x4, rfl⟩ := hr3.junk
      have HR3 := Lib.hid hr3
      clear hr3
      go_wp2_with fail
      refine (K2 _).mono ?_
      clear K2
      rintro e w4 ⟨v2, rfl, hb4, hr4⟩
      obtain ⟨y0, y1, y2, y3, y4, rfl⟩ := hr4.junk
      have hB3 := hB2.trans (hb3.mono hB2.size)
      have hB4 := hB3.trans (hb4.mono hB3.size)
      have C := same_c 24 _ _ _ _ w4.heap.size w4 (knT_ok 24 noF t td tg noF_ok) (knT_ok 24 noF u ud ug noF_ok) (HR3.out.keep (fun g hg => hb4.block g hg.2) (fun g hg => by have := hg.2; have := hb4.size; omega)) (hr4.keep (fun _ _ => rfl) (fun g hg => hg.2)) (Nat.le_refl _)
      rw [← HO.out] at C
      clear hr4
      go_wp2_with fail
      refine C.mono ?_
      clear C
      rintro e w5 ⟨rfl, hb5⟩
      go_wp2_with fail
      go_ret
      exact ⟨rfl, hB4.trans (hb5.mono hB4.size)⟩
end Go.Proofs.Ytkhdghbjififnaa
