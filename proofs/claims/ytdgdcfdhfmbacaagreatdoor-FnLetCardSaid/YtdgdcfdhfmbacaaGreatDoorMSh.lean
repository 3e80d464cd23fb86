import Derived.Test.YtdgdcfdhfmbacaaGreatDoorMSg
import Derived.Test.YtdgdcfdhfmbacaaGreatDoorMEa
import Derived.Test.YtdgdcfdhfmbacaaGreatDoorSvO
/- The program's RunWith, RunTerm, CountTerm. -/
namespace Go.Proofs.YtdgdcfdhfmbacaaGreatDoor
open Go.RowKit Go.Shelf
open Ff
set_option linter.unusedVariables false
attribute [local irreducible] Calls

set_option maxRecDepth 100000 in
set_option maxHeartbeats 4000000 in
theorem iCountTerm_c (s : Text) (w : World) (hl : s.length ≤ 9223372036854775807) (hg : ErrT w) :
    Calls Tryz.prog 18 #[.string ⟨s.toArray⟩] w fun e w' => e = .returned (cntP (doneO s)) ∧ Below w.heap.size w w' := by
  have hb0 := (Below.refl _ w).alloc (Nat.le_refl _) (.cells #[.int .i64 0, .int .i64 0, .int .i64 0, .int .i64 0, .int .i64 0] 35)
  have hz0 := alloc_at w (.cells #[.int .i64 0, .int .i64 0, .int .i64 0, .int .i64 0, .int .i64 0] 35)
  have hs0 : (w.alloc (.cells #[.int .i64 0, .int .i64 0, .int .i64 0, .int .i64 0, .int .i64 0] 35)).heap.size = w.heap.size + 1 := by simp
  have hg0 : ErrT (w.alloc (.cells #[.int .i64 0, .int .i64 0, .int .i64 0, .int .i64 0, .int .i64 0] 35)) := (hb0.cell (p := ⟨0, 0, none⟩) hg.pos).trans hg
  go_enter Tryz.func18, Tryz.ntmps18
  go_wp2_with fail
  generalize w.alloc (.cells #[.int .i64 0, .int .i64 0, .int .i64 0, .int .i64 0, .int .i64 0] 35) = W at hb0 hz0 hs0 hg0 ⊢
  refine (idone_c s W hl hg0).mono ?_
  rcases hr : doneO s with _ | s2
  · rintro e w1 ⟨he, hb1⟩
    obtain rfl : e = _ := he
    have hz1 := (hb1.block w.heap.size (by omega)).trans hz0
    obtain ⟨t0, t1, t2, t3, t4, f0⟩ := fiveC_of hz1
    have HC := Lib.hid hr
    clear hr
    go_wp2_with fail
    obtain ⟨j0, j1, j2, j3, j4⟩ := set_five hz1 (.int .i64 0) (.int .i64 0) (.int .i64 0) (.int .i64 0) (.int .i64 0)
    simp only [set5] at j0 j1 j2 j3 j4
    refine bodyPost_ret (v := .tuple #[.agg #[.int .i64 0, .int .i64 0, .int .i64 0, .int .i64 0, .int .i64 0], .bool false]) (by simp [results, Tryz.results18, go_sem, j0, j1, j2, j3, j4]) rfl ?_
    exact ⟨by rw [HC.out]; rfl, below_five (hb0.trans (hb1.mono (by omega))) (Nat.le_refl _) _ _ _ _ _⟩
  · rintro e w1 ⟨⟨rb, cv, rfl, hrb, hR⟩, hb1⟩
    have hz1 := (hb1.block w.heap.size (by omega)).trans hz0
    obtain ⟨t0, t1, t2, t3, t4, f0⟩ := fiveC_of hz1
    have hcs := hR.cells
    obtain ⟨c0, c1, c2, c3, c4⟩ : w1.cell? ⟨rb, 0, none⟩ = some (.int .i64 (s2.steps : Int)) ∧ w1.cell? ⟨rb, 1, none⟩ = some (.int .i64 (s2.calls : Int)) ∧ w1.cell? ⟨rb, 2, none⟩ = some (.int .i64 (s2.clos : Int)) ∧ w1.cell? ⟨rb, 3, none⟩ = some (.int .i64 (s2.capt : Int)) ∧ w1.cell? ⟨rb, 4, none⟩ = some (.int .i64 (s2.deepest : Int)) := by
      refine ⟨?_, ?_, ?_, ?_, ?_⟩ <;> simp [World.cell?, hcs]
    have HC := Lib.hid hr
    clear hr hcs
    go_wp2_with fail
    obtain ⟨j0, j1, j2, j3, j4⟩ := set_five hz1 (.int .i64 (s2.steps : Int)) (.int .i64 (s2.calls : Int)) (.int .i64 (s2.clos : Int)) (.int .i64 (s2.capt : Int)) (.int .i64 (s2.deepest : Int))
    simp only [set5] at j0 j1 j2 j3 j4
    refine bodyPost_ret (v := .tuple #[cntV s2, .bool true]) (by simp [results, Tryz.results18, go_sem, j0, j1, j2, j3, j4]) rfl ?_
    exact ⟨by rw [HC.out]; rfl, below_five (hb0.trans (hb1.mono (by omega))) (Nat.le_refl _) _ _ _ _ _⟩
/-- Names and numbers. -/
def envAt (T : Text) (xs : List Int) : Nat → En
  | 0 => .nil
  | k + 1 => .cons (T.getD k 0) (.num (xs.getD k 0).toNat) (envAt T xs k)
def int64s (xs : List Int) : List Value := xs.map fun n => Value.int .i64 n
def inR (xs : List Int) : Prop := ∀ x ∈ xs, 0 ≤ x ∧ x ≤ 99
instance (xs : List Int) : Decidable (inR xs) := inferInstanceAs (Decidable (∀ x ∈ xs, 0 ≤ x ∧ x ≤ 99))
/-- What names and numbers come to. -/
def bindO (T : Text) (xs : List Int) : Option En := if xs.length = T.length ∧ inR xs then some (envAt T xs xs.length) else none
def BindP (w : World) (o : Option En) (e : Ending) (w' : World) : Prop := match o with
  | none => e = .returned (.tuple #[.pointer none, .bool false])
  | some en => ∃ q, e = .returned (.tuple #[.pointer q, .bool true]) ∧ ∀ r, RepE r (fun g => w.heap.size ≤ g ∧ g < w'.heap.size) w' en (.pointer q)
theorem row_cells {w : World} {base : Nat} {v : Value} {xs : List Int} (h : w.ownsRow base 3 1 v xs.length (int64s xs)) : ∃ a cap, v = .slice a xs.length cap ∧ (0 < xs.length → ∃ g, a = some ⟨g, 0, none⟩ ∧ g < w.heap.size ∧ ∀ k x, xs[k]? = some x → w.cell? ⟨g, k, none⟩ = some (.int .i64 x)) := by
  have h0 := h
  obtain ⟨_, ⟨h1, h2⟩ | ⟨g, cap, cur, rfl, hb, hh, hr⟩⟩ := h
  · refine ⟨none, 0, ?_, fun hp => ?_⟩
    · rw [h1]; simp_all
    · simp_all
  · refine ⟨_, cap, rfl, fun hp => ⟨g, rfl, (Array.getElem?_eq_some_iff.1 hh).1, fun k x hx => ?_⟩⟩
    have hlt := (List.getElem?_eq_some_iff.1 hx).1
    have hc := h0.cellAt k (by omega)
    rw [hc]
    simp [int64s, hx]
theorem byteAt (T : Text) (k : Nat) (c : UInt8) (hc : T[k]? = some c) (h : k < (⟨T.toArray⟩ : ByteArray).size) : ((⟨T.toArray⟩ : ByteArray)[k]'h) = c := by
  obtain ⟨h1, h2⟩ := List.getElem?_eq_some_iff.1 hc
  exact h2
set_option maxRecDepth 100000 in
set_option maxHeartbeats 4000000 in
theorem ibind_c (T : Text) (xs : List Int) (v : Value) (base : Nat) (w : World) (hT : T.length ≤ 16) (hx : xs.length ≤ 1048576) (hrow : w.ownsRow base 3 1 v xs.length (int64s xs)) :
    Calls Tryz.prog 42 #[.string ⟨T.toArray⟩, v] w fun e w' => BindP w (bindO T xs) e w' ∧ Below w.heap.size w w' := by
  obtain ⟨a, cap, rfl, hA⟩ := row_cells hrow
  have HA := Lib.hid hA
  clear hrow hA
  obtain ⟨n, hn⟩ : ∃ n, xs.length = n := ⟨_, rfl⟩
  by_cases hlen : xs.length = T.length
  · have hTn : T.length = n := by omega
    rw [hn] at hx HA ⊢
    have HN := Lib.hid hn
    have HL := Lib.hid hlen
    clear hn hlen
    go_enter Tryz.func42, Tryz.ntmps42
    go_wp2_with fail
    go_loopw [6, 16] (fun p ix wr => ∃ (k : Nat) (q : Option Addr), k ≤ n ∧ ix = .int .i64 k ∧ p = .pointer q ∧ Below w.heap.size w wr ∧ (∀ r, RepE r (fun g => w.heap.size ≤ g ∧ g < wr.heap.size) wr (envAt T xs k) (.pointer q)) ∧ inR (xs.take k)) (fun _ ix _ => n - (intOf ix).toNat)
    case atStart => exact ⟨0, none, Nat.zero_le _, rfl, rfl, Below.refl _ _, fun r => .nil, by simp [inR]⟩
    case round =>
      obtain ⟨k, q, hk, rfl, rfl, hb, hE, hin⟩ := hrel
      have hbs := hb.size
      by_cases hlt : k < n
      · obtain ⟨g, rfl, hg, hc⟩ := HA.out (by omega)
        obtain ⟨x, hx1⟩ : ∃ x, xs[k]? = some x := ⟨_, List.getElem?_eq_getElem (by have := HN.out; omega)⟩
        obtain ⟨c, hc1⟩ : ∃ c, T[k]? = some c := ⟨_, List.getElem?_eq_getElem (by omega)⟩
        have cx := (hb.cell (p := ⟨g, k, none⟩) hg).trans (hc k x hx1)
        have HX := Lib.hid hx1
        have HC := Lib.hid hc1
        have HE := Lib.hid hE
        have HI := Lib.hid hin
        have hkT : k < T.length := by omega
        clear hx1 hc1 hE hin hc
        by_cases h0 : x < 0
        · go_wp2_with fail
          go_ret2
          rw [show bindO T xs = none from if_neg fun h => by have := h.2 x (List.mem_of_getElem? HX.out); omega]
          exact ⟨rfl, hb⟩
        · by_cases h9 : 99 < x
          · go_wp2_with fail
            go_ret2
            rw [show bindO T xs = none from if_neg fun h => by have := h.2 x (List.mem_of_getElem? HX.out); omega]
            exact ⟨rfl, hb⟩
          · obtain ⟨m, rfl⟩ : ∃ m : Nat, x = m := ⟨x.toNat, by omega⟩
            go_wp2_with fail
            rw [byteAt T k c HC.out]
            refine (with_c (.pointer q) c (.int .i64 (m : Int)) (.pointer none) ⟨_, rfl⟩ ⟨_, rfl⟩ ⟨_, rfl⟩ wr).mono ?_
            rintro e w2 ⟨b, rfl, hb1, hb2, hb3, d0, d1, d2, d3⟩
            go_wp2_with fail
            have e1 : T.getD k 0 = c := by simp [List.getD, HC.out]
            have e2 : (xs.getD k 0).toNat = m := by simp [List.getD, HX.out]
            refine ⟨⟨k + 1, some ⟨b, 0, none⟩, by omega, by go_num, rfl, hb.trans (hb3.mono hbs), fun r => ?_, ?_⟩, by simp [intOf]; omega⟩
            · show RepE r _ w2 (.cons (T.getD k 0) (.num (xs.getD k 0).toNat) (envAt T xs k)) (ptr b)
              rw [e1, e2]
              exact .cons c (.num m) _ b _ _ _ ⟨by omega, by omega⟩ d0 d1 d2 d3 (Nat.le_trans ((HE.out r).top (fun g hg => hg.2)) hb1) (.num m) ((HE.out r).keep (fun g hg => ⟨hb3.block g hg.2, hg.1, by have h2 := hg.2; have := hb3.size; omega⟩))
            · intro y hy
              rw [List.take_add_one, HX.out] at hy
              simp only [Option.toList_some, List.mem_append, List.mem_singleton] at hy
              rcases hy with hy | hy
              · exact HI.out y hy
              · subst hy; omega
      · obtain rfl : k = n := by omega
        have HI := Lib.hid hin
        have HE := Lib.hid hE
        clear hin hE
        go_wp2_with fail
        go_ret2
        rw [show bindO T xs = some (envAt T xs xs.length) from if_pos ⟨HL.out, by have h := HI.out; rw [← HN.out, List.take_length] at h; exact h⟩, HN.out]
        exact ⟨⟨q, rfl, HE.out⟩, hb⟩
  · have hli : ¬ (xs.length : Int) = (T.length : Int) := by omega
    go_enter Tryz.func42, Tryz.ntmps42
    go_wp2_with fail
    go_ret2
    rw [show bindO T xs = none from if_neg fun h => hlen h.1]
    exact ⟨rfl, Below.refl _ _⟩
theorem envAt_names (T : Text) (xs : List Int) : ∀ k, k ≤ T.length → (envAt T xs k).names.length = k ∧ ∀ i c, i < k → T[i]? = some c → c ∈ (envAt T xs k).names
  | 0, _ => ⟨rfl, fun i c h => by omega⟩
  | k + 1, hk => by
    obtain ⟨h1, h2⟩ := envAt_names T xs k (by omega)
    refine ⟨by simp [envAt, En.names, h1], fun i c hi hc => ?_⟩
    simp only [envAt, En.names, List.mem_cons]
    by_cases e : i = k
    · subst e; exact .inl (by simp [List.getD, hc])
    · exact .inr (h2 i c (by omega) hc)
theorem envAt_ok (T : Text) (xs : List Int) (h : inR xs) : ∀ k, k ≤ xs.length → EnOk (envAt T xs k)
  | 0, _ => .nil
  | k + 1, hk => by
    refine .cons _ _ _ (.num _ ?_) (envAt_ok T xs h k (by omega))
    have := h (xs[k]'(by omega)) (List.getElem_mem _)
    simp only [List.getD, List.getElem?_eq_getElem (show k < xs.length by omega), Option.getD_some]
    omega
theorem bind_ok {T : Text} {xs : List Int} {en : En} (h : bindO T xs = some en) : xs.length = T.length ∧ inR xs ∧ en = envAt T xs xs.length ∧ EnOk en ∧ (∀ c ∈ T, c ∈ en.names) ∧ en.names.length = T.length := by
  unfold bindO at h
  split at h
  · rename_i hc
    injection h with h
    subst h
    obtain ⟨h1, h2⟩ := hc
    obtain ⟨h3, h4⟩ := envAt_names T xs xs.length (by omega)
    refine ⟨h1, h2, rfl, envAt_ok T xs h2 _ (Nat.le_refl _), fun c hc => ?_, by omega⟩
    obtain ⟨i, hi, rfl⟩ := List.getElem_of_mem hc
    exact h4 i _ (by omega) (List.getElem?_eq_getElem hi)
  · cases h
def withO (s : Text) (xs : List Int) : Option Ou := (readS s).bind fun t => (bindO (sfree t) xs).map fun en => ev 1501 t 0 en st0
theorem with_nil (s : Text) : withO s [] = runO s := by
  unfold withO runO closedS
  rcases readS s with _ | t
  · rfl
  · simp only [Option.bind_some]
    by_cases h : sfree t = []
    · simp [bindO, h, inR, envAt]
    · have h2 : ¬ (0 = (sfree t).length) := fun e => h (List.eq_nil_of_length_eq_zero e.symm)
      simp [bindO, h, h2]
set_option maxRecDepth 100000 in
set_option maxHeartbeats 4000000 in
theorem iRunWith_c (s : Text) (xs : List Int) (v : Value) (base : Nat) (w : World) (hl : s.length ≤ 9223372036854775807) (hx : xs.length ≤ 1048576) (hrow : w.ownsRow base 3 1 v xs.length (int64s xs)) (hg : ErrT w) :
    Calls Tryz.prog 28 #[.string ⟨s.toArray⟩, v] w fun e w' => e = .returned (resP (withO s xs)) ∧ Below w.heap.size w w' := by
  have hb0 := (Below.refl _ w).alloc (Nat.le_refl _) (.cells #[.int .i64 0, .bool false, .int .i64 0] 29)
  have hz0 := alloc_at w (.cells #[.int .i64 0, .bool false, .int .i64 0] 29)
  have hs0 : (w.alloc (.cells #[.int .i64 0, .bool false, .int .i64 0] 29)).heap.size = w.heap.size + 1 := by simp
  have hpos := hg.pos
  have hro : ∀ j, v.ownBlock = some j → j < w.heap.size := fun j hj => (hrow.lt j hj).2
  obtain ⟨a, cap, rfl, -⟩ := row_cells hrow
  have HR := Lib.hid hrow
  clear hrow
  go_enter Tryz.func28, Tryz.ntmps28
  go_wp2_with fail
  generalize w.alloc (.cells #[.int .i64 0, .bool false, .int .i64 0] 29) = W at hb0 hz0 hs0 ⊢
  refine (read_c s W hl).mono ?_
  rcases hr : readT s with _ | t
  · rintro e w1 ⟨rfl, hb1⟩
    have hc : withO s xs = none := by unfold withO; rw [readS_eq, hr]; rfl
    have HC := Lib.hid hc
    clear hr hc
    obtain ⟨t0, t1, t2, f0, f1, f2⟩ := three_alloc hz0 hb1
    go_wp2_with fail
    obtain ⟨j0, j1, j2⟩ := set_three (u0 := .int .i64 0) (u1 := .bool false) (u2 := .int .i64 0) t0 t1 t2
    refine bodyPost_ret (v := .tuple #[rV 0 false 0, .bool false]) (by simp [results, Tryz.results28, go_sem, j0, j1, j2]) rfl ?_
    exact ⟨by rw [HC.out]; rfl, below_three (hb0.trans (hb1.mono (by omega))) (Nat.le_refl _) _ _ _⟩
  · rintro e w1 ⟨rfl, hb1⟩
    have hs := readS_eq s ▸ hr
    have D := freeIn_c 1000 t w1 (by have := readS_depth hs; omega) (by omega) (by have := readS_parts hs; omega) (readS_good hs)
    have hf := free_names (readS_good hs)
    have hlf := sfree_len t
    have hs1 := hb1.size
    have hc : withO s xs = (bindO (sfree t) xs).map fun en => ev 1501 t 0 en st0 := by unfold withO; rw [hs]; rfl
    have hdp := readS_depth24 hs
    have HS := Lib.hid hs
    have HC := Lib.hid hc
    have HF := Lib.hid hf
    have hbw : Below w.heap.size w w1 := hb0.trans (hb1.mono (by omega))
    rw [enc_ty t] at D ⊢
    clear hr hs hf hc
    go_wp2_with fail
    refine D.mono ?_
    clear D
    rintro e w2 ⟨b, k, rfl, hbk, hk, hT, hb2⟩
    have D2 := inOrder_c b k (cntF t) w2 hT
    rw [← HF.out] at D2
    go_wp2_with fail
    refine D2.mono ?_
    clear D2
    rintro e w3 ⟨rfl, hb3⟩
    have hb23 : Below w1.heap.size w1 w3 := hb2.trans (hb3.mono hb2.size)
    have hbw3 : Below w.heap.size w w3 := hbw.trans (hb23.mono hbw.size)
    have B := ibind_c (sfree t) xs _ base w3 hlf hx (World.ownsRow.kept (row := none) HR.out (grown_none hbw3) (by rcases ho : (Value.slice a xs.length cap).ownBlock with _ | j; exact .inl rfl; exact .inr (by simp)))
    have hb13 : Below W.heap.size W w3 := hb1.trans (hb23.mono hs1)
    go_wp2_with fail
    refine B.mono ?_
    clear B
    rcases ho : bindO (sfree t) xs with _ | en
    · rintro e w4 ⟨rfl, hb4⟩
      have hbw4 : Below w.heap.size w w4 := hbw3.trans (hb4.mono hbw3.size)
      obtain ⟨t0, t1, t2, f0, f1, f2⟩ := three_alloc hz0 (hb13.trans (hb4.mono hb13.size))
      have HO := Lib.hid ho
      clear ho
      go_wp2_with fail
      obtain ⟨j0, j1, j2⟩ := set_three (u0 := .int .i64 0) (u1 := .bool false) (u2 := .int .i64 0) t0 t1 t2
      refine bodyPost_ret (v := .tuple #[rV 0 false 0, .bool false]) (by simp [results, Tryz.results28, go_sem, j0, j1, j2]) rfl ?_
      exact ⟨by rw [HC.out, HO.out]; rfl, below_three hbw4 (Nat.le_refl _) _ _ _⟩
    · rintro e w4 ⟨⟨q, rfl, hE⟩, hb4⟩
      have hbw4 : Below w.heap.size w w4 := hbw3.trans (hb4.mono hbw3.size)
      obtain ⟨-, -, -, o1, o2, o3⟩ := bind_ok ho
      have hok := tmok_of HS.out en o1 o2 (by omega)
      have hb5 := (Below.refl w4.heap.size w4).alloc (Nat.le_refl _) (.cells #[.int .i64 0, .int .i64 0, .int .i64 0, .int .i64 0, .int .i64 0, .int .i64 0, .slice none 0 0] 68)
      have hw4 := hbw4.size
      have hg5 : ErrT (w4.alloc (.cells #[.int .i64 0, .int .i64 0, .int .i64 0, .int .i64 0, .int .i64 0, .int .i64 0, .slice none 0 0] 68)) := (hb5.cell (p := ⟨0, 0, none⟩) (by show 0 < w4.heap.size; omega)).trans ((hbw4.cell (p := ⟨0, 0, none⟩) hpos).trans hg)
      have hs5 : (w4.alloc (.cells #[.int .i64 0, .int .i64 0, .int .i64 0, .int .i64 0, .int .i64 0, .int .i64 0, .slice none 0 0] 68)).heap.size = w4.heap.size + 1 := by simp
      have R := run_c 1501 t en st0 w4.heap.size (.slice none 0 0) (.pointer q) (w4.alloc (.cells #[.int .i64 0, .int .i64 0, .int .i64 0, .int .i64 0, .int .i64 0, .int .i64 0, .slice none 0 0] 68)) (by simp [st0]) st0_ok hok (run_new w4) ((hE w4.heap.size).keep (fun g hg => ⟨hb5.block g hg.2, by have := hg.2; simp; omega, by have := hg.2; omega, by simp [Value.ownBlock], fun h => h⟩)) hg5 ⟨by simp, by omega, by simp [Value.ownBlock], fun h => h⟩ (by omega)
      obtain ⟨o, hO⟩ : ∃ o, ev 1501 t 0 en st0 = o := ⟨_, rfl⟩
      rw [hO] at R
      have hfin : resP (withO s xs) = .tuple #[resO o, .bool true] := by rw [HC.out, ho, ← hO]; rfl
      have HFN := Lib.hid hfin
      obtain ⟨a0, a1, a2, hres⟩ := resO_form o
      rw [enc_ty t] at R
      clear ho hO hfin hE
      go_wp2_with fail
      refine R.mono ?_
      clear R
      rintro e w6 ⟨rfl, cv, s4, hR4, hK4, h4⟩
      rw [hres] at HFN ⊢
      have hbw6 := kep_below (hbw4.trans (hb5.mono hw4)) (Nat.le_refl _) hw4 hK4
      have hbW6 := kep_below (r := w4.heap.size) ((hb13.trans (hb4.mono hb13.size)).trans (hb5.mono (by have := hb13.size; have := hb4.size; omega))) (Nat.le_refl _) (by have := hb13.size; have := hb4.size; omega) hK4
      obtain ⟨t0, t1, t2, f0, f1, f2⟩ := three_alloc hz0 hbW6
      clear hres
      go_wp2_with fail
      obtain ⟨j0, j1, j2⟩ := set_three (u0 := .int .i64 a0) (u1 := .bool a1) (u2 := .int .i64 a2) t0 t1 t2
      refine bodyPost_ret (v := .tuple #[rV a0 a1 a2, .bool true]) (by simp [results, Tryz.results28, go_sem, j0, j1, j2]) rfl ?_
      exact ⟨by rw [HFN.out], below_three hbw6 (Nat.le_refl _) _ _ _⟩
set_option maxRecDepth 100000 in
set_option maxHeartbeats 1000000 in
theorem iRunTerm_c (s : Text) (w : World) (hl : s.length ≤ 9223372036854775807) (hg : ErrT w) :
    Calls Tryz.prog 14 #[.string ⟨s.toArray⟩] w fun e w' => e = .returned (resP (runO s)) ∧ Below w.heap.size w w' := by
  have hb0 := (Below.refl _ w).alloc (Nat.le_refl _) (.cells #[.int .i64 0, .bool false, .int .i64 0] 29)
  have hz0 := alloc_at w (.cells #[.int .i64 0, .bool false, .int .i64 0] 29)
  have hg0 : ErrT (w.alloc (.cells #[.int .i64 0, .bool false, .int .i64 0] 29)) := (hb0.cell (p := ⟨0, 0, none⟩) hg.pos).trans hg
  have C := iRunWith_c s [] (.slice none 0 0) 0 (w.alloc (.cells #[.int .i64 0, .bool false, .int .i64 0] 29)) hl (by simp) (World.ownsRow_nil _ _ _ _) hg0
  rw [with_nil] at C
  obtain ⟨a0, a1, a2, b, hres⟩ : ∃ a0 a1 a2 b, resP (runO s) = .tuple #[rV a0 a1 a2, .bool b] := by
    rcases runO s with _ | o
    · exact ⟨_, _, _, _, rfl⟩
    · obtain ⟨a0, a1, a2, h⟩ := resO_form o
      exact ⟨a0, a1, a2, true, by show Value.tuple #[resO o, .bool true] = _; rw [h]⟩
  rw [hres] at C ⊢
  clear hres
  go_enter Tryz.func14, Tryz.ntmps14
  go_wp2_with fail
  generalize w.alloc (.cells #[.int .i64 0, .bool false, .int .i64 0] 29) = W at C hb0 hz0 ⊢
  refine C.mono ?_
  clear C
  rintro e w1 ⟨rfl, hb1⟩
  obtain ⟨t0, t1, t2, f0, f1, f2⟩ := three_alloc hz0 hb1
  go_wp2_with fail
  obtain ⟨j0, j1, j2⟩ := set_three (u0 := .int .i64 a0) (u1 := .bool a1) (u2 := .int .i64 a2) t0 t1 t2
  refine bodyPost_ret (v := .tuple #[rV a0 a1 a2, .bool b]) (by simp [results, Tryz.results14, go_sem, j0, j1, j2]) rfl ?_
  exact ⟨rfl, below_three (hb0.trans (hb1.mono hb0.size)) (Nat.le_refl _) _ _ _⟩
end Go.Proofs.YtdgdcfdhfmbacaaGreatDoor

/- Two runs of one term that differ in how much has been done ahead of them come to the same, if neither is too long. No program in sight. -/
namespace Go.Proofs.YtdgdcfdhfmbacaaGreatDoor
open Ff
set_option linter.unusedVariables false

/-- The same value but for the functions' indices, and for names that no one reads. -/
inductive VSim : Vl → Vl → Prop
  | num (n : Nat) : VSim (.num n) (.num n)
  | clo (i j : Nat) (t : Tm) (e e' : En) (f f' : UInt8 → Vl) (hg : t.good) (h1 : ∀ c ∈ sfree t, e.find c = some (f c)) (h2 : ∀ c ∈ sfree t, e'.find c = some (f' c)) (h : ∀ c ∈ sfree t, VSim (f c) (f' c)) : VSim (.clo i t e) (.clo j t e')
def ESim (N : Text) (e e' : En) : Prop := ∀ c ∈ N, ∃ v v', e.find c = some v ∧ e'.find c = some v' ∧ VSim v v'
theorem ESim.clo {t : Tm} {e e' : En} (hg : t.good) (h : ESim (sfree t) e e') (i j : Nat) : VSim (.clo i t e) (.clo j t e') :=
  .clo i j t e e' (fun c => (e.find c).getD (.num 0)) (fun c => (e'.find c).getD (.num 0)) hg
    (fun c hc => by obtain ⟨v, v', h1, h2, _⟩ := h c hc; simp [h1])
    (fun c hc => by obtain ⟨v, v', h1, h2, _⟩ := h c hc; simp [h2])
    (fun c hc => by obtain ⟨v, v', h1, h2, h3⟩ := h c hc; simpa [h1, h2] using h3)
theorem VSim.env {i j : Nat} {t t' : Tm} {e e' : En} (h : VSim (.clo i t e) (.clo j t' e')) : t' = t ∧ t.good ∧ ESim (sfree t) e e' := by
  cases h with
  | clo _ _ _ _ _ f f' hg h1 h2 h => exact ⟨rfl, hg, fun c hc => ⟨_, _, h1 c hc, h2 c hc, h c hc⟩⟩
theorem ESim.sub {N N' : Text} {e e' : En} (h : ESim N e e') (hN : ∀ x ∈ N', x ∈ N) : ESim N' e e' := fun c hc => h c (hN c hc)
theorem ESim.cons {N N' : Text} {e e' : En} {c : UInt8} {v v' : Vl} (h : ESim N e e') (hv : VSim v v') (hN : ∀ x ∈ N', x ≠ c → x ∈ N) : ESim N' (.cons c v e) (.cons c v' e') := fun x hx => by
  by_cases hc : c = x
  · exact ⟨v, v', by simp [En.find, hc], by simp [En.find, hc], hv⟩
  · obtain ⟨u, u', h1, h2, h3⟩ := h x (hN x hx (fun e => hc e.symm))
    exact ⟨u, u', by simp [En.find, hc, h1], by simp [En.find, hc, h2], h3⟩
theorem ESim.nil (e e' : En) : ESim [] e e' := fun c hc => by simp at hc
/-- What two runs have made more is as much. -/
structure SSim (s s' z z' : St) : Prop where
  steps : z.steps + s'.steps = z'.steps + s.steps
  up : s.steps ≤ z.steps
  depth : z.depth = s.depth
  depth' : z'.depth = s'.depth
theorem SSim.refl (s s' : St) : SSim s s' s s' := ⟨by omega, Nat.le_refl _, rfl, rfl⟩
theorem SSim.trans {s s' z z' y y' : St} (h : SSim s s' z z') (k : SSim z z' y y') : SSim s s' y y' :=
  ⟨by have := h.1; have := k.1; omega, Nat.le_trans h.2 k.2, k.3.trans h.3, k.4.trans h.4⟩
def OSim (s s' : St) (o o' : Ou) : Prop := match o, o' with
  | .ok v z, .ok v' z' => VSim v v' ∧ SSim s s' z z'
  | .ok _ _, .fault => False
  | .fault, .ok _ _ => False
  | _, _ => True
/-- Two runs: they come to the same if neither is too long; and where more has been done before, what is too long stays so. -/
structure Sim (n : Nat) (s s' : St) (o o' : Ou) : Prop where
  both : OSim s s' o o'
  mono : 1501 ≤ s.steps + n → s.steps ≤ s'.steps → s.depth ≤ s'.depth → o = .long → o' = .long
theorem OSim.long_right (s s' : St) (o : Ou) : OSim s s' o .long := by cases o <;> trivial
theorem Sim.long_right {n : Nat} {s s' : St} {o : Ou} : Sim n s s' o .long := ⟨OSim.long_right _ _ _, fun _ _ _ _ => rfl⟩
theorem Sim.faults {n : Nat} {s s' : St} : Sim n s s' .fault .fault := ⟨trivial, fun _ _ _ h => by cases h⟩
theorem Sim.oks {n : Nat} {s s' z z' : St} {v v' : Vl} (hv : VSim v v') (hs : SSim s s' z z') : Sim n s s' (.ok v z) (.ok v' z') := ⟨⟨hv, hs⟩, fun _ _ _ h => by cases h⟩
theorem Sim.next {n : Nat} {s s' : St} {o o' : Ou} {k k' : Vl → St → Ou} (h : Sim n s s' o o') (hk : ∀ v v' z z', VSim v v' → SSim s s' z z' → Sim n z z' (k v z) (k' v' z')) : Sim n s s' (o.next k) (o'.next k') := by
  obtain ⟨hb, hm⟩ := h
  cases o with
  | ok v z =>
    cases o' with
    | ok v' z' =>
      obtain ⟨hv, hs⟩ := hb
      obtain ⟨kb, km⟩ := hk v v' z z' hv hs
      show Sim n s s' (k v z) (k' v' z')
      obtain ⟨a1, a2, a3, a4⟩ := hs
      refine ⟨?_, fun b1 b2 b3 b4 => km (by omega) (by omega) (by omega) b4⟩
      generalize k v z = r at kb
      generalize k' v' z' = r' at kb
      cases r <;> cases r' <;> first | exact kb | exact ⟨kb.1, SSim.trans ⟨a1, a2, a3, a4⟩ kb.2⟩
    | fault => exact hb.elim
    | long => exact .long_right
  | fault =>
    cases o' with
    | ok v' z' => exact hb.elim
    | fault => exact .faults
    | long => exact .long_right
  | long => exact ⟨by show OSim s s' .long _; cases o'.next k' <;> trivial, fun b1 b2 b3 _ => by rw [hm b1 b2 b3 rfl]; rfl⟩
theorem Sim.leave {n j j' : Nat} {s s' : St} {o o' : Ou} (h : Sim n (s.enter j) (s'.enter j') o o') : Sim n s s' (o.next fun z s => .ok z s.leave) (o'.next fun z s => .ok z s.leave) := by
  obtain ⟨hb, hm⟩ := h
  cases o with
  | ok v z =>
    cases o' with
    | ok v' z' =>
      obtain ⟨hv, a1, a2, a3, a4⟩ := hb
      simp only [St.enter] at a1 a2 a3 a4
      exact .oks hv ⟨by simp only [St.leave]; omega, by simp only [St.leave]; omega, by simp only [St.leave]; omega, by simp only [St.leave]; omega⟩
    | fault => exact hb.elim
    | long => exact .long_right
  | fault =>
    cases o' with
    | ok v' z' => exact hb.elim
    | fault => exact .faults
    | long => exact .long_right
  | long => exact ⟨by show OSim s s' .long _; cases o'.next _ <;> trivial, fun b1 b2 b3 _ => by rw [hm (by simp only [St.enter]; omega) (by simp only [St.enter]; omega) (by simp only [St.enter]; omega) rfl]; rfl⟩
theorem body_good {g : Tm} (h : g.good) (hf : isFun g = true) : (bodyOf g).good := by
  cases g with
  | fn c b => exact h.2
  | fix f c b => exact h.2.2.2
  | _ => cases hf
def SimAt (n : Nat) : Prop := ∀ n' (t : Tm) i i' e e' s s', t.good → ESim (sfree t) e e' → Sim n s s' (ev n t i e s) (ev n' t i' e' s')
theorem sim_call {n : Nat} (ih : SimAt n) (n' : Nat) {x x' y y' : Vl} (s s' : St) (hx : VSim x x') (hy : VSim y y') : Sim n s s' (callV (ev n) x y s) (callV (ev n') x' y' s') := by
  cases x with
  | num a => cases hx; exact .faults
  | clo j g e =>
    cases x' with
    | num a => cases hx
    | clo j' g' e' =>
      obtain ⟨rfl, hg, he⟩ := hx.env
      show Sim n s s' (if 50 ≤ s.depth then .long else _) (if 50 ≤ s'.depth then .long else _)
      by_cases h' : 50 ≤ s'.depth
      · rw [if_pos h']; exact .long_right
      · rw [if_neg h']
        by_cases h : 50 ≤ s.depth
        · rw [if_pos h]
          exact ⟨by cases (ev n' _ _ _ _).next _ <;> trivial, fun _ _ b3 _ => by omega⟩
        · rw [if_neg h]
          refine Sim.leave (j := j) (j' := j') ?_
          cases g' with
          | fn c b => exact ih n' b _ _ _ _ _ _ hg.2 (he.cons hy fun x hx hc => (mem_less _ _ _).2 ⟨hx, by simpa using hc⟩)
          | fix f c b =>
            refine ih n' b _ _ _ _ _ _ hg.2.2.2 ?_
            refine ESim.cons (N := lessN (sfree b) [c]) (ESim.cons he (he.clo hg j j') fun x hx hc => ?_) hy fun x hx hc => (mem_less _ _ _).2 ⟨hx, by simpa using hc⟩
            obtain ⟨h1, h2⟩ := (mem_less _ _ _).1 hx
            exact (mem_less _ _ _).2 ⟨h1, by simp only [List.mem_cons, List.not_mem_nil, or_false, not_or] at h2 ⊢; exact ⟨hc, h2⟩⟩
          | num k => exact ih n' _ _ _ _ _ _ _ hg he
          | var c => exact ih n' _ _ _ _ _ _ _ hg he
          | app f a => exact ih n' _ _ _ _ _ _ _ hg he
          | bind c v b => exact ih n' _ _ _ _ _ _ _ hg he
          | op o l r => exact ih n' _ _ _ _ _ _ _ hg he
          | sel a b c => exact ih n' _ _ _ _ _ _ _ hg he
theorem Sim.step {n : Nat} {s s' : St} {o o' : Ou} (h : Sim n s.step s'.step o o') : Sim (n + 1) s s' o o' := by
  obtain ⟨hb, hm⟩ := h
  refine ⟨?_, fun b1 b2 b3 b4 => hm (by simp only [St.step]; omega) (by simp only [St.step]; omega) b3 b4⟩
  cases o <;> cases o' <;> first | exact hb | skip
  obtain ⟨hv, a1, a2, a3, a4⟩ := hb
  simp only [St.step] at a1 a2 a3 a4
  exact ⟨hv, by omega, by omega, a3, a4⟩
theorem sim : ∀ n, SimAt n := by
  intro n
  induction n with
  | zero =>
    intro n' t i i' e e' s s' hg he
    refine ⟨by show OSim s s' .long _; cases ev n' t i' e' s' <;> trivial, fun b1 b2 b3 _ => ?_⟩
    cases n' with
    | zero => rfl
    | succ n' => unfold ev; rw [if_pos (by omega)]
  | succ n ih =>
    intro n' t i i' e e' s s' hg he
    cases n' with
    | zero => exact .long_right
    | succ n' =>
      unfold ev
      by_cases h' : 1500 ≤ s'.steps
      · rw [if_pos h']; exact .long_right
      · rw [if_neg h']
        by_cases h : 1500 ≤ s.steps
        · rw [if_pos h]
          exact ⟨by cases evB (ev n') t i' e' s'.step <;> trivial, fun _ b2 _ _ => by omega⟩
        · rw [if_neg h]
          refine Sim.step ?_
          generalize s.step = s
          generalize s'.step = s'
          cases t with
          | num k => exact .oks (.num k) (.refl _ _)
          | var c =>
            obtain ⟨v, v', h1, h2, h3⟩ := he c (by simp [sfree])
            show Sim n s s' (match e.find c with | some v => .ok v s | none => .fault) (match e'.find c with | some v => .ok v s' | none => .fault)
            rw [h1, h2]
            exact .oks h3 (.refl _ _)
          | fn c b => exact .oks (he.clo hg _ _) ⟨by simp only [St.made]; omega, Nat.le_refl _, rfl, rfl⟩
          | fix f c b => exact .oks (he.clo hg _ _) ⟨by simp only [St.made]; omega, Nat.le_refl _, rfl, rfl⟩
          | app f a =>
            have hm : ∀ x, x ∈ sfree f ∨ x ∈ sfree a → x ∈ sfree (.app f a) := fun x hx => (mem_sort _ _).2 ⟨hx.elim (free_letters hg.1) (free_letters hg.2), List.mem_append.2 hx⟩
            refine Sim.next (ih n' f _ _ e e' s s' hg.1 (he.sub fun x hx => hm x (.inl hx))) fun x x' z z' hx hz => ?_
            refine Sim.next (ih n' a _ _ e e' z z' hg.2 (he.sub fun x hx => hm x (.inr hx))) fun y y' q q' hy hq => ?_
            exact sim_call ih n' q q' hx hy
          | bind c v b =>
            have hm : ∀ x, x ∈ sfree v ∨ x ∈ lessN (sfree b) [c] → x ∈ sfree (.bind c v b) := fun x hx => (mem_sort _ _).2 ⟨hx.elim (free_letters hg.2.1) (fun h => free_letters hg.2.2 ((mem_less _ _ _).1 h).1), List.mem_append.2 hx⟩
            refine Sim.next (ih n' v _ _ e e' s s' hg.2.1 (he.sub fun x hx => hm x (.inl hx))) fun x x' z z' hx hz => ?_
            exact ih n' b _ _ _ _ z z' hg.2.2 (he.cons hx fun y hy hc => hm y (.inr ((mem_less _ _ _).2 ⟨hy, by simpa using hc⟩)))
          | op o l r =>
            have hm : ∀ x, x ∈ sfree l ∨ x ∈ sfree r → x ∈ sfree (.op o l r) := fun x hx => (mem_sort _ _).2 ⟨hx.elim (free_letters hg.2.1) (free_letters hg.2.2), List.mem_append.2 hx⟩
            refine Sim.next (ih n' l _ _ e e' s s' hg.2.1 (he.sub fun x hx => hm x (.inl hx))) fun x x' z z' hx hz => ?_
            refine Sim.next (ih n' r _ _ e e' z z' hg.2.2 (he.sub fun x hx => hm x (.inr hx))) fun y y' q q' hy hq => ?_
            cases hx with
            | num a =>
              cases hy with
              | num b => exact .oks (.num _) (.refl _ _)
              | clo => exact .faults
            | clo => exact .faults
          | sel a b c =>
            have hm : ∀ x, x ∈ sfree a ∨ x ∈ sfree b ∨ x ∈ sfree c → x ∈ sfree (.sel a b c) := fun x hx => (mem_sort _ _).2 ⟨hx.elim (free_letters hg.1) (fun h => h.elim (free_letters hg.2.1) (free_letters hg.2.2)), by simp only [List.mem_append]; exact hx⟩
            refine Sim.next (ih n' a _ _ e e' s s' hg.1 (he.sub fun x hx => hm x (.inl hx))) fun x x' z z' hx hz => ?_
            cases hx with
            | num k =>
              show Sim n z z' (if k = 0 then _ else _) (if k = 0 then _ else _)
              by_cases hk : k = 0
              · rw [if_pos hk, if_pos hk]; exact ih n' b _ _ e e' z z' hg.2.1 (he.sub fun x hx => hm x (.inr (.inl hx)))
              · rw [if_neg hk, if_neg hk]; exact ih n' c _ _ e e' z z' hg.2.2 (he.sub fun x hx => hm x (.inr (.inr hx)))
            | clo => exact .faults
end Go.Proofs.YtdgdcfdhfmbacaaGreatDoor

/- FnExactRunTerm, FnExactCountTerm. -/
namespace Go.Proofs.YtdgdcfdhfmbacaaGreatDoor
open Go.RowKit Go.Shelf
open Ff
set_option linter.unusedVariables false
attribute [local irreducible] Calls

theorem resP_form (o : Option Ou) : ∃ a0 a1 a2 b, resP o = .tuple #[rV a0 a1 a2, .bool b] := by
  rcases o with _ | o
  · exact ⟨_, _, _, _, rfl⟩
  · obtain ⟨a0, a1, a2, h⟩ := resO_form o
    exact ⟨a0, a1, a2, true, by show Value.tuple #[resO o, .bool true] = _; rw [h]⟩
theorem cntP_form (o : Option St) : ∃ a b c d e f, cntP o = .tuple #[.agg #[.int .i64 a, .int .i64 b, .int .i64 c, .int .i64 d, .int .i64 e], .bool f] := by
  rcases o with _ | s
  · exact ⟨_, _, _, _, _, _, rfl⟩
  · exact ⟨_, _, _, _, _, _, rfl⟩
end Go.Proofs.YtdgdcfdhfmbacaaGreatDoor
