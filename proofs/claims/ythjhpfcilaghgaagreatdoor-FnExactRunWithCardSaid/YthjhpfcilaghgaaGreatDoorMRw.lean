import Derived.Test.YthjhpfcilaghgaaGreatDoorMLc
import Derived.WalkKit
import Derived.Test.YthjhpfcilaghgaaGreatDoorMVh
/- The specification's RunWith. -/
namespace Go.Proofs.YthjhpfcilaghgaaGreatDoor
open Go.RowKit Go.Shelf
open Ff
set_option linter.unusedVariables false
attribute [local irreducible] Calls

theorem envAt_ents (T : Text) (xs : List Int) : ∀ k, (envAt T xs k).ents.length = k
  | 0 => rfl
  | k + 1 => by simp [envAt, En.ents, envAt_ents T xs k]
theorem not_inR {xs : List Int} {k : Nat} {x : Int} (h : xs[k]? = some x) (hb : ¬ (0 ≤ x ∧ x ≤ 99)) : ¬ inR xs := fun h2 => hb (h2 x (List.mem_of_getElem? h))
set_option maxRecDepth 100000 in
set_option maxHeartbeats 4000000 in
theorem sRunWith_c (hev : SEvC 1501) (s : Text) (xs : List Int) (v : Value) (base : Nat) (w : World) (hl : s.length ≤ 9223372036854775807) (hx : xs.length ≤ 1048576) (hrow : w.ownsRow base 3 1 v xs.length (int64s xs)) :
    Calls Tryz.prog 15 #[.string ⟨s.toArray⟩, v] w fun e w' => e = .returned (resP (withO s xs)) ∧ Below w.heap.size w w' := by
  obtain ⟨a, cap, rfl, hA⟩ := row_cells hrow
  have HA := Lib.hid hA
  clear hrow hA
  obtain ⟨n, hn⟩ : ∃ n, xs.length = n := ⟨_, rfl⟩
  rw [hn] at hx HA ⊢
  have HN := Lib.hid hn
  clear hn
  have hb0 := (Below.refl _ w).alloc (Nat.le_refl _) (.cells #[.int .i64 0, .bool false, .int .i64 0] 23)
  have hz0 := alloc_at w (.cells #[.int .i64 0, .bool false, .int .i64 0] 23)
  have hs0 : (w.alloc (.cells #[.int .i64 0, .bool false, .int .i64 0] 23)).heap.size = w.heap.size + 1 := by simp
  go_enter Tryz.func15, Tryz.ntmps15
  go_wp2_with fail
  generalize w.alloc (.cells #[.int .i64 0, .bool false, .int .i64 0] 23) = W at hb0 hz0 hs0 ⊢
  refine (sread_c s W hl).mono ?_
  rcases hr : readS s with _ | t
  · rintro e w1 ⟨rfl, hb1⟩
    have hc : withO s xs = none := by unfold withO; rw [hr]; rfl
    have HC := Lib.hid hc
    clear hr hc
    unfold zeroTm
    have hb2 := hb1.alloc hb1.size (.cells #[.int .u8 0, .int .i64 0, .string ⟨#[]⟩, .slice none 0 0] 45)
    obtain ⟨t0, t1, t2, f0, f1, f2⟩ := three_alloc hz0 hb2
    go_wp2_with fail
    obtain ⟨j0, j1, j2⟩ := set_three (u0 := .int .i64 0) (u1 := .bool false) (u2 := .int .i64 0) t0 t1 t2
    refine bodyPost_ret (v := .tuple #[rV 0 false 0, .bool false]) (by simp [results, Tryz.results15, go_sem, j0, j1, j2]) rfl ?_
    exact ⟨by rw [HC.out]; rfl, below_three (hb0.trans (hb2.mono (by omega))) (Nat.le_refl _) _ _ _⟩
  · rintro e w1 ⟨v, rfl, hb1, hrep⟩
    have hd := readS_depth hr
    have hgd := readS_good hr
    have hlf := sfree_len t
    have hc : withO s xs = (bindO (sfree t) xs).map fun en => ev 1501 t 0 en st0 := by unfold withO; rw [hr]; rfl
    have HRD := Lib.hid hr
    have HC := Lib.hid hc
    clear hr hc
    obtain ⟨kx, ky, st, aa, l, cc, rfl⟩ := hrep.junk
    have hs1 := hb1.size
    have hb2 := hb1.alloc hb1.size (.cells #[.int .u8 kx, .int .i64 ky, .string st, .slice aa l cc] 45)
    have hx2 := alloc_at w1 (.cells #[.int .u8 kx, .int .i64 ky, .string st, .slice aa l cc] 45)
    have hr2 := hrep.keep (w' := w1.alloc (.cells #[.int .u8 kx, .int .i64 ky, .string st, .slice aa l cc] 45)) (S' := fun g => g < w1.heap.size) (fun g hg => Below.heap_alloc _ _ _ hg.2) (fun g hg => hg.2)
    have hs2 : (w1.alloc (.cells #[.int .u8 kx, .int .i64 ky, .string st, .slice aa l cc] 45)).heap.size = w1.heap.size + 1 := by simp
    clear hrep
    go_wp2_with fail
    generalize w1.alloc (.cells #[.int .u8 kx, .int .i64 ky, .string st, .slice aa l cc] 45) = w2 at hb2 hx2 hr2 hs2 ⊢
    refine (free_c 4000 t w1.heap.size _ w2 (by omega) (by omega) hr2 (by omega) hgd).mono ?_
    rintro e w3 ⟨rfl, hb3⟩
    have hb13 := hb2.trans (hb3.mono hb2.size)
    have hbw3 : Below w.heap.size w w3 := hb0.trans (hb13.mono (by omega))
    by_cases hlen : n = (sfree t).length
    · have hlen2 : (n : Int) = ((sfree t).length : Int) := by omega
      have hb4 := (Below.refl w3.heap.size w3).alloc (Nat.le_refl _) (.cells #[] 94)
      have hs4 : (w3.alloc (.cells #[] 94)).heap.size = w3.heap.size + 1 := by simp
      go_wp2_with fail
      have HLEN := Lib.hid hlen
      clear hlen hlen2
      generalize hW4 : w3.alloc (.cells #[] 94) = w4 at hb4 hs4 ⊢
      have hbw4 : Below w.heap.size w w4 := hbw3.trans (hb4.mono hbw3.size)
      have hb14 : Below W.heap.size W w4 := hb13.trans (hb4.mono hb13.size)
      have hx4 : w4.heap[w1.heap.size]? = some (.cells #[.int .u8 kx, .int .i64 ky, .string st, .slice aa l cc] 45 (0, 0)) := (hb4.block _ (by have := hb3.size; omega)).trans ((hb3.block _ (by omega)).trans hx2)
      have hr4 := hr2.keep (w' := w4) (S' := fun g => g < w1.heap.size) (fun g hg => (hb4.block g (by have := hb3.size; omega)).trans (hb3.block g (by omega))) (fun g hg => hg)
      clear hW4
      go_loopw [9, 35] (fun y ix wr => ∃ (k : Nat) (ay : Addr) (cy : Nat), k ≤ n ∧ ix = .int .i64 k ∧ y = .slice (some ay) k cy ∧ Below w4.heap.size w4 wr ∧ SE (fun g => g < wr.heap.size) wr (envAt (sfree t) xs k) (.slice (some ay) k cy) ∧ inR (xs.take k)) (fun _ ix _ => n - (intOf ix).toNat)
      case atStart => exact ⟨0, _, 0, Nat.zero_le _, rfl, rfl, Below.refl _ _, .nil _ _, by simp [inR]⟩
      case round =>
        obtain ⟨k, ay, cy, hk, rfl, rfl, hB, hE, hin⟩ := hrel
        have hBs := hB.size
        have HE := Lib.hid hE
        have HI := Lib.hid hin
        clear hE hin
        by_cases hlt : k < n
        · obtain ⟨g, rfl, hg, hc⟩ := HA.out (by omega)
          obtain ⟨x, hx1⟩ : ∃ x, xs[k]? = some x := ⟨_, List.getElem?_eq_getElem (by have := HN.out; omega)⟩
          obtain ⟨c, hc1⟩ : ∃ c, (sfree t)[k]? = some c := ⟨_, List.getElem?_eq_getElem (by have := HLEN.out; omega)⟩
          have hbwr : Below w.heap.size w wr := hbw4.trans (hB.mono hbw4.size)
          have cx := (hbwr.cell (p := ⟨g, k, none⟩) hg).trans (hc k x hx1)
          have HX := Lib.hid hx1
          have HC1 := Lib.hid hc1
          have hkT : k < (sfree t).length := by have := HLEN.out; omega
          clear hx1 hc1 hc
          by_cases h0 : 0 ≤ x ∧ x ≤ 99
          · obtain ⟨m, rfl⟩ : ∃ m : Nat, x = m := ⟨x.toNat, by omega⟩
            go_wp2_with fail
            refine (l1In_c _ _ _ _).mono ?_
            rintro e w' ⟨rfl, rfl⟩
            rw [show (decide ((0 : Int) ≤ (m : Int)) && decide ((m : Int) ≤ 99)) = true by simp; omega]
            go_wp2_with fail
            rw [extract_one _ k c HC1.out]
            refine (swith_c (fun g => g < wr.heap.size) (envAt (sfree t) xs k) c (.num m) _ _ wr HE.out (.num m) (fun g hg => hg) (by rw [envAt_ents]; have := HLEN.out; omega)).mono ?_
            rintro e w5 ⟨y, rfl, hb5, hE5⟩
            obtain ⟨ay', cy', rfl⟩ := hE5.form
            have hk1 : (En.cons c (.num m) (envAt (sfree t) xs k)).ents.length = k + 1 := by simp [En.ents, envAt_ents]
            rw [hk1] at hE5 ⊢
            have hs5 := hb5.size
            have hE6 : SE (fun g => g < w5.heap.size) w5 (envAt (sfree t) xs (k + 1)) (.slice (some ay') (k + 1) cy') := by
              have e1 : (sfree t).getD k 0 = c := by simp [List.getD, HC1.out]
              have e2 : (xs.getD k 0).toNat = m := by simp [List.getD, HX.out]
              show SE _ w5 (.cons ((sfree t).getD k 0) (.num (xs.getD k 0).toNat) (envAt (sfree t) xs k)) _
              rw [e1, e2]
              exact hE5.keep fun g hg => ⟨rfl, by rcases hg with h | h; omega; exact h.2⟩
            have hI6 : inR (xs.take (k + 1)) := by
              intro y hy
              rw [List.take_add_one, HX.out] at hy
              simp only [Option.toList_some, List.mem_append, List.mem_singleton] at hy
              rcases hy with hy | hy
              · exact HI.out y hy
              · subst hy; omega
            have HE6 := Lib.hid hE6
            have HI6 := Lib.hid hI6
            clear hE5 hE6 hI6 hk1
            go_wp2_with fail
            exact ⟨⟨k + 1, ay', cy', by omega, by go_num, rfl, hB.trans (hb5.mono hBs), HE6.out, HI6.out⟩, by simp [intOf]; omega⟩
          · go_wp2_with fail
            refine (l1In_c _ _ _ _).mono ?_
            rintro e w' ⟨rfl, rfl⟩
            rw [show (decide ((0 : Int) ≤ x) && decide (x ≤ 99)) = false by simp; omega]
            obtain ⟨t0, t1, t2, f0, f1, f2⟩ := three_alloc hz0 (hb14.trans (hB.mono hb14.size))
            have hno : withO s xs = none := by rw [HC.out, show bindO (sfree t) xs = none from if_neg fun h => not_inR HX.out h0 h.2]; rfl
            have HNO := Lib.hid hno
            clear hno
            go_wp2_with fail
            obtain ⟨j0, j1, j2⟩ := set_three (u0 := .int .i64 0) (u1 := .bool false) (u2 := .int .i64 0) t0 t1 t2
            refine bodyPost_ret (v := .tuple #[rV 0 false 0, .bool false]) (by simp [results, Tryz.results15, go_sem, j0, j1, j2]) rfl ?_
            exact ⟨by rw [HNO.out]; rfl, below_three hbwr (Nat.le_refl _) _ _ _⟩
        · obtain rfl : k = n := by omega
          have hbwr : Below w.heap.size w wr := hbw4.trans (hB.mono hbw4.size)
          have hkT : ¬ k < (sfree t).length := by have := HLEN.out; omega
          obtain ⟨k0, k1, k2, k3, _⟩ := four_of ((hB.block _ (by have := hb3.size; omega)).trans hx4)
          have hIn : inR xs := by have h := HI.out; rw [← HN.out, List.take_length] at h; exact h
          have hbo : bindO (sfree t) xs = some (envAt (sfree t) xs k) := by rw [show bindO (sfree t) xs = some (envAt (sfree t) xs xs.length) from if_pos ⟨HN.out.trans HLEN.out, hIn⟩, HN.out]
          obtain ⟨-, -, -, o1, o2, o3⟩ := bind_ok hbo
          have hok := tmok_of HRD.out _ o1 o2 (by have := HLEN.out; omega)
          have C := sterm3_c hev t (envAt (sfree t) xs k) (fun g => g < w1.heap.size) _ (.slice (some ay) k cy) wr (hr4.keep (fun g hg => hB.block g (by have := hb3.size; omega)) (fun g hg => hg)) (fun g hg => by have := hb3.size; omega) HE.out hok
          obtain ⟨o, ho⟩ : ∃ o, ev 1501 t 0 (envAt (sfree t) xs k) st0 = o := ⟨_, rfl⟩
          rw [ho] at C
          have hfin : resP (withO s xs) = .tuple #[resO o, .bool true] := by rw [HC.out, hbo, ← ho]; rfl
          have HFN := Lib.hid hfin
          obtain ⟨a0, a1, a2, hres⟩ := resO_form o
          clear hfin ho hbo hIn o1 o2 o3 hok
          go_wp2_with fail
          refine C.mono ?_
          clear C
          rintro e w6 ⟨hb6, rb, rfl, -, -⟩
          rw [hres] at HFN ⊢
          have hbw6 : Below w.heap.size w w6 := hbwr.trans (hb6.mono hbwr.size)
          have hb16 : Below W.heap.size W w6 := (hb14.trans (hB.mono hb14.size)).trans (hb6.mono (by have := hb14.size; omega))
          have hb7 := hb16.alloc hb16.size (.cells #[.int .i64 a0, .bool a1, .int .i64 a2] 23)
          obtain ⟨t0, t1, t2, f0, f1, f2⟩ := three_alloc hz0 hb7
          obtain ⟨j0, j1, j2⟩ := set_three (u0 := .int .i64 a0) (u1 := .bool a1) (u2 := .int .i64 a2) t0 t1 t2
          clear hres
          go_wp2_with fail
          refine bodyPost_ret (v := .tuple #[rV a0 a1 a2, .bool true]) (by simp [results, Tryz.results15, go_sem, j0, j1, j2]) rfl ?_
          exact ⟨by rw [HFN.out], below_three (hbw6.alloc hbw6.size _) (Nat.le_refl _) _ _ _⟩
    · have hlen2 : ¬ (n : Int) = ((sfree t).length : Int) := by omega
      obtain ⟨t0, t1, t2, f0, f1, f2⟩ := three_alloc hz0 hb13
      have hno : withO s xs = none := by rw [HC.out, show bindO (sfree t) xs = none from if_neg fun h => hlen (HN.out.symm.trans h.1)]; rfl
      have HNO := Lib.hid hno
      clear hno
      go_wp2_with fail
      obtain ⟨j0, j1, j2⟩ := set_three (u0 := .int .i64 0) (u1 := .bool false) (u2 := .int .i64 0) t0 t1 t2
      refine bodyPost_ret (v := .tuple #[rV 0 false 0, .bool false]) (by simp [results, Tryz.results15, go_sem, j0, j1, j2]) rfl ?_
      exact ⟨by rw [HNO.out]; rfl, below_three hbw3 (Nat.le_refl _) _ _ _⟩
end Go.Proofs.YthjhpfcilaghgaaGreatDoor

/- Numbers that came in, and the statements' copy of them. -/
namespace Go.Proofs.YthjhpfcilaghgaaGreatDoor
open Go.RowKit Go.Shelf
open Ff
set_option linter.unusedVariables false
attribute [local irreducible] Calls

/-- A slice of numbers that came in. -/
def SrcI (w : World) (a : Option Addr) (l : Nat) (xs : List Int) : Prop := xs.length = l ∧ (l = 0 ∨ ∃ g o, a = some ⟨g, o, none⟩ ∧ g < w.heap.size ∧ ∀ i x, xs[i]? = some x → w.cell? ⟨g, o + i, none⟩ = some (.int .i64 x))
theorem SrcI.keep {w w' : World} {a : Option Addr} {l : Nat} {xs : List Int} (h : SrcI w a l xs) (hb : Below w.heap.size w w') : SrcI w' a l xs := by
  obtain ⟨h0, h | ⟨g, o, ha, hg, hc⟩⟩ := h
  · exact ⟨h0, .inl h⟩
  · exact ⟨h0, .inr ⟨g, o, ha, by have := hb.size; omega, fun i x hx => (hb.cell (p := ⟨g, o + i, none⟩) hg).trans (hc i x hx)⟩⟩
/-- It is nil, or it leads to a row of 'cap' cells that hold the numbers 'zs'. -/
def IsRowI (w : World) (a : Option Addr) (len cap : Nat) (zs : List Int) : Prop :=
  (a = none ∧ len = 0 ∧ cap = 0 ∧ zs = []) ∨
  ∃ x, a = some x ∧ len ≤ cap ∧ cap ≤ maxLen ∧ zs.length = cap ∧ (∀ i, i < zs.length → w.cell? (x.add i) = some (.int .i64 (zs.getD i 0))) ∧ ∀ n ∈ zs, (Lit.int .i64 n).wf = true
theorem IsRowI.src {w : World} {a : Option Addr} {len cap : Nat} {zs : List Int} (h : IsRowI w a len cap zs) : SrcI w a len (zs.take len) ∧ ∀ n ∈ zs, (Lit.int .i64 n).wf = true := by
  rcases h with ⟨_, h, _, h2⟩ | ⟨⟨b, off, spot⟩, rfl, hl, hm, hz, hcell, hwz⟩
  · subst h h2; exact ⟨⟨rfl, .inl rfl⟩, by simp⟩
  · refine ⟨⟨by rw [List.length_take]; omega, ?_⟩, hwz⟩
    by_cases h0 : len = 0
    · exact .inl h0
    · have hc := hcell 0 (by omega)
      have hspot : spot = none := by simpa [Addr.add] using World.cell?_spot hc
      subst hspot
      have hb : b < w.heap.size := World.block_lt_of_cell? w _ (by simpa [Addr.add] using hc)
      refine .inr ⟨b, off, rfl, hb, fun i x hx => ?_⟩
      have hi : i < len := by have := (List.getElem?_eq_some_iff.1 hx).1; rw [List.length_take] at this; omega
      have hci := hcell i (by omega)
      rw [List.getElem?_take_of_lt hi] at hx
      rw [List.getD_eq_getElem?_getD, hx] at hci
      have e : (⟨b, off, none⟩ : Addr).add i = ⟨b, off + i, none⟩ := by unfold Addr.add; split <;> simp_all
      rw [← e]
      exact hci
theorem vals_eq {ys : List Value} {xs : List Int} {l : Nat} (h1 : ys.length = l) (h2 : xs.length = l) (h : ∀ i x, i < l → xs[i]? = some x → ys[i]? = some (iv x)) : ys = int64s xs := by
  refine List.ext_getElem? fun i => ?_
  by_cases hi : i < l
  · obtain ⟨x, hx⟩ : ∃ x, xs[i]? = some x := ⟨_, List.getElem?_eq_getElem (by omega)⟩
    rw [h i x hi hx]
    simp [int64s, hx]
  · rw [List.getElem?_eq_none (by omega), List.getElem?_eq_none (by simp [int64s]; omega)]
set_option maxRecDepth 100000 in
set_option maxHeartbeats 2000000 in
theorem toIntS_c (a : Option Addr) (l c : Nat) (xs : List Int) (w : World) (h : SrcI w a l xs) (hl : l ≤ 1048576) :
    Calls Tryz.prog 16 #[.slice a l c] w fun e w' => ∃ v, e = .returned v ∧ Ints w' w.heap.size v xs ∧ Below w.heap.size w w' := by
  obtain ⟨i0, hi, hz0, hz1, hz2⟩ := info_parts Tryz.infoI
  obtain ⟨hlen, hsrc⟩ := h
  have HS := Lib.hid hsrc
  have HL := Lib.hid hlen
  clear hsrc hlen
  obtain ⟨w1, hrun, hown, hgrow⟩ := run_make_full (P := Tryz.prog) w w.heap.size 33 3 i0 (.int .i64 0) 1 Tryz.underlying33 hi hz0 hz1 .i64 .i64 l (by rw [hz2]; omega) (by unfold maxLen; omega) (Nat.le_refl _)
  have hb1 : Below w.heap.size w w1 := ⟨hgrow.os, hgrow.tape, hgrow.output, hgrow.size, fun j hj => hgrow.block j hj (by simp)⟩
  have hmk : (madeCells (Value.int .i64 0).cells (l * 1)).toList.length = l := by have := hown.1; omega
  have HO := Lib.hid hown
  clear hown
  go_enter Tryz.func16, Tryz.ntmps16
  go_wp2_with fail
  go_loopw [4] (fun ix wr => ∃ (k : Nat) (ys : List Value), k ≤ l ∧ ix = .int .i64 k ∧ wr.ownsRow w.heap.size 3 1 (.slice (some ⟨w.heap.size, 0, none⟩) l l) l ys ∧ Below w.heap.size w wr ∧ ∀ i x, i < k → xs[i]? = some x → ys[i]? = some (iv x)) (fun ix _ => l - (intOf ix).toNat)
  case atStart => exact ⟨0, _, Nat.zero_le _, rfl, HO.out, hb1, fun i x h => by omega⟩
  case round =>
    obtain ⟨k, ys, hk, rfl, hO, hB, hys⟩ := hrel
    have hyl : ys.length = l := by have := hO.1; omega
    by_cases hlt : k < l
    · obtain ⟨x, hx⟩ : ∃ x, xs[k]? = some x := ⟨_, List.getElem?_eq_getElem (by have := HL.out; omega)⟩
      obtain ⟨y, hy⟩ : ∃ y, ys[k]? = some y := ⟨_, List.getElem?_eq_getElem (by omega)⟩
      have c1 := hO.cells (g := w.heap.size) rfl k y hy
      rw [Addr.add_lit, Nat.zero_add] at c1
      have f1 := Ints.frozen hO k
      rcases HS.out with h0 | ⟨g, o, rfl, hg, hc⟩
      · omega
      · have cx := (hB.cell (p := ⟨g, o + k, none⟩) hg).trans (hc k x hx)
        have HO2 := Lib.hid hO
        have HX := Lib.hid hx
        have HY := Lib.hid hys
        have HYL := Lib.hid hyl
        clear hc hx hy hO hys hyl hrun
        go_wp2_with fail
        refine ⟨⟨k + 1, ys.set k (iv x), by omega, by go_num, row_setI HO2.out k (iv x), hB.setCell (p := ⟨w.heap.size, k, none⟩) (Nat.le_refl _) _, fun i u hi hu => ?_⟩, by simp [intOf]; omega⟩
        by_cases e : i = k
        · subst e
          rw [HX.out] at hu
          injection hu with hu
          subst hu
          rw [List.getElem?_set_self (by have := HYL.out; omega)]
        · rw [List.getElem?_set_ne (Ne.symm e)]
          exact HY.out i u (by omega) hu
    · obtain rfl : k = l := by omega
      have e := vals_eq hyl HL.out hys
      have HE := Lib.hid e
      have HO2 := Lib.hid hO
      clear e hyl hO hys hrun
      go_wp2_with fail
      go_ret
      refine ⟨_, rfl, ?_, hB⟩
      have h := HO2.out
      rw [HE.out] at h
      unfold Ints
      rw [HL.out]
      exact h
end Go.Proofs.YthjhpfcilaghgaaGreatDoor

/- FnExactRunWith. -/
namespace Go.Proofs.YthjhpfcilaghgaaGreatDoor
open Go.RowKit Go.Shelf
open Ff
set_option linter.unusedVariables false
attribute [local irreducible] Calls

theorem Ints.below2 {W W' : World} {base n : Nat} {v : Value} {l : List Int} (h : Ints W base v l) (hb : Below n W W') (hn : W.heap.size ≤ n) : Ints W' base v l := by
  refine World.ownsRow.kept (row := none) h ⟨hb.os, hb.tape, hb.output, hb.size, fun j hj _ => hb.block j (by omega)⟩ ?_
  rcases h.2 with ⟨rfl, _⟩ | ⟨g, cap, cur, rfl, _⟩
  · exact .inl rfl
  · exact .inr (by simp [Value.ownBlock])
set_option maxRecDepth 100000 in
set_option maxHeartbeats 2000000 in
theorem eqI2_c (va vb : Value) (b1 b2 : Nat) (l : List Int) (w : World) (ha : Ints w b1 va l) (hb : Ints w b2 vb l) (hl : l.length ≤ 1048576) :
    Calls Tryz.prog 18 #[va, vb] w fun e w' => e = .returned (.bool true) ∧ Below w.heap.size w w' := by
  obtain ⟨⟨aa, ca, rfl⟩, hca⟩ := ha.cases
  obtain ⟨⟨ab, cb, rfl⟩, hcb⟩ := hb.cases
  have HA := Lib.hid hca
  have HB := Lib.hid hcb
  clear hca hcb ha hb
  go_enter Tryz.func18, Tryz.ntmps18
  go_wp2_with fail
  go_loopw [5] (fun i wr => ∃ k : Nat, k ≤ l.length ∧ i = .int .i64 k ∧ Below w.heap.size w wr) (fun i _ => l.length - (intOf i).toNat)
  case atStart => exact ⟨0, Nat.zero_le _, rfl, Below.refl _ _⟩
  case round =>
    obtain ⟨k, hk, rfl, hB⟩ := hrel
    by_cases hlt : k < l.length
    · obtain ⟨s, hs⟩ : ∃ s, l[k]? = some s := ⟨_, List.getElem?_eq_getElem hlt⟩
      obtain ⟨g1, c1, e1, _, hg1, h1, _⟩ := HA.out k s hs
      obtain ⟨g2, c2, e2, _, hg2, h2, _⟩ := HB.out k s hs
      injection e1 with e1 _ e1c
      injection e2 with e2 _ e2c
      subst e1 e1c e2 e2c
      have d1 := (hB.cell (p := ⟨g1, k, none⟩) hg1).trans h1
      have d2 := (hB.cell (p := ⟨g2, k, none⟩) hg2).trans h2
      clear hs h1 h2 HA HB
      go_wp2_with fail
      go_region
      all_goals go_wp2_with fail
      all_goals exact ⟨⟨k + 1, by omega, by go_num, hB.drew⟩, by simp [intOf]; omega⟩
    · obtain rfl : k = l.length := by omega
      go_wp2_with fail
      go_ret
      exact ⟨rfl, hB⟩

set_option maxRecDepth 100000 in
set_option maxHeartbeats 4000000 in
theorem law_runWith (s : Text) (a : Option Addr) (l c : Nat) (xs : List Int) (w : World) (hl : s.length ≤ 9223372036854775807) (hl2 : l ≤ 9223372036854775807) (hsrc : SrcI w a l xs) (hg : ErrT w) :
    Calls Tryz.prog 5 #[.string ⟨s.toArray⟩, .slice a l c] w fun e w' => e = .returned (.bool true) ∧ Below w.heap.size w w' := by
  by_cases h : s.length ≤ 1048576
  · have h2 : (s.length : Int) ≤ 1048576 := by omega
    by_cases k : l ≤ 1048576
    · have k2 : (l : Int) ≤ 1048576 := by omega
      have hx : xs.length ≤ 1048576 := by have := hsrc.1; omega
      obtain ⟨a0, a1, a2, b, hres⟩ := resP_form (withO s xs)
      have CS : ∀ v base W, Ints W base v xs → _ := fun v base W hr => sRunWith_c (sev_c 1501) s xs v base W hl hx hr
      have CI : ∀ v base W, Ints W base v xs → ErrT W → _ := fun v base W hr he => iRunWith_c s xs v base W hl hx hr he
      simp only [hres] at CS CI
      clear hres
      go_enter Tryz.func5, Tryz.ntmps5
      go_wp2_with fail
      refine (toIntS_c a l c xs w hsrc k).mono ?_
      rintro e w1 ⟨v1, rfl, r1, b1⟩
      obtain ⟨x1, c1, rfl⟩ := row_slice r1
      go_wp2_with fail
      refine (CS _ _ w1 r1).mono ?_
      rintro e w2 ⟨rfl, b2⟩
      have b12 := b1.trans (b2.mono b1.size)
      have b3 := b12.alloc b12.size (.cells #[.int .i64 a0, .bool a1, .int .i64 a2] 23)
      have z3 := alloc_at w2 (.cells #[.int .i64 a0, .bool a1, .int .i64 a2] 23)
      go_wp2_with fail
      generalize w2.alloc (.cells #[.int .i64 a0, .bool a1, .int .i64 a2] 23) = w3 at b3 z3 ⊢
      refine (toIntS_c a l c xs w3 (hsrc.keep b3) k).mono ?_
      rintro e w4 ⟨v4, rfl, r4, b4⟩
      obtain ⟨x4, c4, rfl⟩ := row_slice r4
      have b04 := b3.trans (b4.mono b3.size)
      have he4 : ErrT w4 := (b04.cell (p := ⟨0, 0, none⟩) hg.pos).trans hg
      go_wp2_with fail
      refine (CI _ _ w4 r4 he4).mono ?_
      rintro e w5 ⟨rfl, b5⟩
      have b05 := b04.trans (b5.mono b04.size)
      have b6 := (Below.refl _ w5).alloc (Nat.le_refl _) (.cells #[.int .i64 a0, .bool a1, .int .i64 a2] 23)
      have l3 := (Array.getElem?_eq_some_iff.1 z3).1
      have z5 := (b5.block w2.heap.size (by have := b4.size; omega)).trans ((b4.block w2.heap.size l3).trans z3)
      obtain ⟨y0, y1, y2, _⟩ := three_of ((b6.block w2.heap.size (by have := b4.size; have := b5.size; omega)).trans z5)
      obtain ⟨q0, q1, q2, _⟩ := three_of (alloc_at w5 (.cells #[.int .i64 a0, .bool a1, .int .i64 a2] 23))
      have E := eqResult_c a0 a2 a1 (w5.alloc (.cells #[.int .i64 a0, .bool a1, .int .i64 a2] 23))
      have b06 := b05.trans (b6.mono b05.size)
      cases b
      all_goals
        go_wp2_with fail
        refine E.mono ?_
        rintro e w7 ⟨rfl, b7⟩
        have b07 := b06.trans (b7.mono b06.size)
        go_wp2_with fail
        refine (toIntS_c a l c xs w7 (hsrc.keep b07) k).mono ?_
        rintro e w8 ⟨v8, rfl, r8, b8⟩
        obtain ⟨x8, c8, rfl⟩ := row_slice r8
        have b08 := b07.trans (b8.mono b07.size)
        have b48 := (b5.trans ((b6.trans (b7.mono b6.size)).mono b5.size)).trans (b8.mono (by have := b5.size; have := b6.size; have := b7.size; omega))
        go_wp2_with fail
        refine (eqI2_c _ _ _ _ xs w8 (Ints.below2 r4 b48 (Nat.le_refl _)) r8 hx).mono ?_
        rintro e w9 ⟨rfl, b9⟩
        go_wp2_with fail
        go_ret
        exact ⟨rfl, b08.trans (b9.mono b08.size)⟩
    · have k2 : 1048576 < (l : Int) := by omega
      go_enter Tryz.func5, Tryz.ntmps5
      go_wp2_with fail
      go_ret
      exact ⟨rfl, Below.refl _ _⟩
  · have h2 : 1048576 < (s.length : Int) := by omega
    go_enter Tryz.func5, Tryz.ntmps5
    go_wp2_with fail
    go_ret
    exact ⟨rfl, Below.refl _ _⟩
end Go.Proofs.YthjhpfcilaghgaaGreatDoor
