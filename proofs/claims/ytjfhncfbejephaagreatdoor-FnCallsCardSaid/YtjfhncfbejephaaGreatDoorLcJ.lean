import Derived.Test.YtjfhncfbejephaaGreatDoorLcG
import Derived.Test.YtjfhncfbejephaaGreatDoorEvV
import Derived.Test.YtjfhncfbejephaaGreatDoorMLc
import Derived.Test.YtjfhncfbejephaaGreatDoorMPi
/- FnCalls. -/
namespace Go.Proofs.YtjfhncfbejephaaGreatDoor
open Go.RowKit
open Ff
set_option linter.unusedVariables false
attribute [local irreducible] Calls

set_option maxRecDepth 100000 in
set_option maxHeartbeats 2000000 in
theorem ffSame_c (va vb : Value) (b1 b2 : Nat) (l : List Int) (w : World) (ha : Ints w b1 va l) (hb : Ints w b2 vb l) (hl : l.length ≤ 1000000) :
    Calls Tryz.prog 8 #[va, vb] w fun e w' => e = .returned (.bool true) ∧ Below w.heap.size w w' := by
  obtain ⟨⟨aa, ca, rfl⟩, hca⟩ := ha.cases
  obtain ⟨⟨ab, cb, rfl⟩, hcb⟩ := hb.cases
  have HA := Lib.hid hca
  have HB := Lib.hid hcb
  clear hca hcb ha hb
  obtain ⟨n, hn⟩ : ∃ n, l.length = n := ⟨_, rfl⟩
  rw [hn] at HA HB hl ⊢
  have HN := Lib.hid hn
  clear hn
  go_enter Tryz.func8, Tryz.ntmps8
  go_wp2_with fail
  go_loopw [11] (fun i wr => ∃ k : Nat, k ≤ n ∧ i = .int .i64 k ∧ Below w.heap.size w wr) (fun i _ => n - (intOf i).toNat)
  case atStart => exact ⟨0, Nat.zero_le _, rfl, Below.refl _ _⟩
  case round =>
    obtain ⟨k, hk, rfl, hB⟩ := hrel
    by_cases hlt : k < n
    · obtain ⟨s, hs⟩ : ∃ s, l[k]? = some s := ⟨_, List.getElem?_eq_getElem (by have := HN.out; omega)⟩
      obtain ⟨g1, c1, e1, _, hg1, h1, _⟩ := HA.out k s hs
      obtain ⟨g2, c2, e2, _, hg2, h2, _⟩ := HB.out k s hs
      injection e1 with e1 _ e1c
      injection e2 with e2 _ e2c
      subst e1 e1c e2 e2c
      have d1 := (hB.cell (p := ⟨g1, k, none⟩) hg1).trans h1
      have d2 := (hB.cell (p := ⟨g2, k, none⟩) hg2).trans h2
      clear hs h1 h2 HA HB
      go_wp2_with fail
      go_region
      all_goals go_wp2_with fail
      all_goals exact ⟨⟨k + 1, by omega, by go_num, hB.drew⟩, by simp [intOf]; omega⟩
    · obtain rfl : k = n := by omega
      go_wp2_with fail
      go_ret
      exact ⟨rfl, hB⟩
theorem done_facts {s : Text} {z : St} (h : doneO s = some z) : ∃ t, readT s = some t ∧ CalledIn t z ∧ z.called.length = z.calls := by
  unfold doneO at h
  rcases hr : closedS s with _ | t
  · rw [hr] at h; cases h
  · rw [hr] at h
    have hw := ev_ok 1501 t 0 .nil st0 (closed_ok hr)
    have h : (match ev 1501 t 0 .nil st0 with | .ok _ s2 => some s2 | _ => none) = some z := h
    have hrt : readT s = some t := (readS_eq s).symm.trans (closedS_some hr).1
    rcases he : ev 1501 t 0 .nil st0 with ⟨v, s3⟩ | _ | _
    · rw [he] at h hw
      injection h with h
      subst h
      have hB := st0_ok.goes hw.2
      exact ⟨t, hrt, called_in he rfl, hB.called⟩
    · rw [he] at h; cases h
    · rw [he] at h; cases h
/-- What a function's text begins with. -/
theorem fun_head {u : Tm} (h : isFun u = true) : ∃ d r, textN u = d :: r ∧ (d.toNat = 92 ∨ d.toNat = 64) := by
  cases u with
  | fn c b => exact ⟨_, _, rfl, .inl rfl⟩
  | fix f c b => exact ⟨_, _, rfl, .inr rfl⟩
  | _ => cases h
set_option maxRecDepth 100000 in
set_option maxHeartbeats 4000000 in
theorem drawIsUsed_c (a : Option Addr) (l c : Nat) (w : World) (h : Src w a l c) :
    Calls Tryz.prog 7 #[.slice a l c] w fun e w' => ∃ (s : Text) (k : Int), e = .returned (.tuple #[.string ⟨s.toArray⟩, .int .i64 k]) ∧ s.length ≤ 5000 ∧ Below w.heap.size w w' := by
  go_enter Tryz.func7, Tryz.ntmps7
  go_wp2_with fail
  refine (open_c a l c w h).mono ?_; rintro e w1 ⟨l', rfl, hD⟩
  go_wp2_with fail
  refine (any3_c _ _ _ _ _ _ _ hD (by omega)).mono ?_; rintro e w2 ⟨s, p', rfl, hs, hp, hD2⟩
  go_wp2_with fail
  refine (pick_g hD2 _ (by omega) (by omega) (by omega)).mono ?_; rintro e w3 ⟨k1, rfl, hk1, hD3⟩
  go_wp2_with fail
  refine (num_w hD3 [1, 2, 0, 3, (k1 : Int), -1, 60] _ (by omega) (by simp) (by simp)).mono ?_; rintro e w4 ⟨x, hx, rfl, hD4⟩
  clear hx
  go_wp2_with fail
  go_ret2
  exact ⟨s, x, rfl, hs, hD4.below⟩
set_option maxRecDepth 100000 in
set_option maxHeartbeats 8000000 in
theorem law_fnCalls (a : Option Addr) (l c : Nat) (a2 : Option Addr) (l2 c2 : Nat) (w : World) (h : Src w a l c) (h2 : Src w a2 l2 c2) (hg : ErrT w) :
    Calls Tryz.prog 3 #[.slice a l c, .slice a2 l2 c2] w fun e w' => e = .returned (.bool true) ∧ Below w.heap.size w w' := by
  by_cases hl : l ≤ 1048576
  · have hl2 : (l : Int) ≤ 1048576 := by omega
    by_cases hm : l2 ≤ 1048576
    · have hm2 : (l2 : Int) ≤ 1048576 := by omega
      go_enter Tryz.func3, Tryz.ntmps3
      go_wp2_with fail
      refine (drawCallsIn_c a l c w h).mono ?_; rintro e w1 ⟨s, rfl, hs, hb⟩
      have CI := fun W hg => iCallsIn_c s W (by omega) hg
      have CS := fun W => sCallsIn_c (sev_c 1501) s W (by omega)
      have CC := fun W hg => iCountTerm_c s W (by omega) hg
      have CU := fun k W hg => iIsUsed_c s k W (by omega) hg
      have CP := fun W => iPartsOf_c s W (by omega)
      have hL : (calO (doneO s)).length ≤ 1500 := by
        rcases hr : doneO s with _ | s2
        · simp [calO]
        · have := done_ok hr; simpa [calO] using this
      obtain ⟨o, ho⟩ : ∃ o, doneO s = o := ⟨_, rfl⟩
      rw [ho] at CI CS CC CU hL
      have HO := Lib.hid ho
      clear ho
      go_wp2_with fail
      refine (CI w1 (hg.next hb)).mono ?_; rintro e w2 ⟨v1, rfl, s1, k⟩; replace hb := next hb k
      obtain ⟨ar, cr, rfl⟩ := row_slice s1
      go_wp2_with fail
      refine (CS w2).mono ?_; rintro e w3 ⟨v2, rfl, s2, k⟩; replace hb := next hb k
      replace s1 := Ints.below s1 k (Nat.le_refl _)
      obtain ⟨ar2, cr2, rfl⟩ := row_slice s2
      go_wp2_with fail
      refine (drawIsUsed_c a2 l2 c2 w3 (h2.keep hb)).mono ?_; rintro e w4 ⟨x, kk, rfl, hx, k⟩; replace hb := next hb k
      replace s1 := Ints.below s1 k (Nat.le_refl _)
      replace s2 := Ints.below s2 k (Nat.le_refl _)
      have UI := fun W hg => iIsUsed_c x kk W (by omega) hg
      have US := fun W => sIsUsed_c (sev_c 1501) x kk W (by omega)
      generalize decide (kk ∈ calO (doneO x)) = r at UI US
      have FF := fun W (h1 : Ints W w1.heap.size (.slice ar (calO o).length cr) (calO o)) (h2 : Ints W w2.heap.size (.slice ar2 (calO o).length cr2) (calO o)) => ffSame_c _ _ _ _ _ W h1 h2 (by omega)
      rcases o with _ | z
      · cases r
        all_goals
          go_wp2_with fail
          refine (FF w4 s1 s2).mono ?_; rintro e w5 ⟨rfl, k⟩; replace hb := next hb k
          replace s1 := Ints.below s1 k (Nat.le_refl _)
          replace s2 := Ints.below s2 k (Nat.le_refl _)
          go_wp2_with fail
          refine (UI w5 (hg.next hb)).mono ?_; rintro e w6 ⟨rfl, k⟩; replace hb := next hb k
          replace s1 := Ints.below s1 k (Nat.le_refl _)
          replace s2 := Ints.below s2 k (Nat.le_refl _)
          go_wp2_with fail
          refine (US w6).mono ?_; rintro e w7 ⟨rfl, k⟩; replace hb := next hb k
          replace s1 := Ints.below s1 k (Nat.le_refl _)
          replace s2 := Ints.below s2 k (Nat.le_refl _)
          go_wp2_with fail
          refine (FF w7 s1 s2).mono ?_; rintro e w8 ⟨rfl, k⟩; replace hb := next hb k
          go_wp2_with fail
          refine (UI w8 (hg.next hb)).mono ?_; rintro e w9 ⟨rfl, k⟩; replace hb := next hb k
          go_wp2_with fail
          refine (US w9).mono ?_; rintro e w10 ⟨rfl, k⟩; replace hb := next hb k
          go_wp2_with fail
          go_ret
          exact ⟨rfl, hb⟩
      · obtain ⟨t, hrt, hci, hcc⟩ := done_facts HO.out
        simp only [hrt] at CP
        have HCI := Lib.hid hci
        have hn1 : (calO (some z)).length = z.calls := by simp [calO, hcc]
        have hn2 : z.calls ≤ 1500 := by omega
        have HN1 := Lib.hid hn1
        clear hrt hci hcc hn1
        cases r
        all_goals
          go_wp2_with fail
          refine (FF w4 s1 s2).mono ?_; rintro e w5 ⟨rfl, k⟩; replace hb := next hb k
          replace s1 := Ints.below s1 k (Nat.le_refl _)
          go_wp2_with fail
          refine (UI w5 (hg.next hb)).mono ?_; rintro e w6 ⟨rfl, k⟩; replace hb := next hb k
          replace s1 := Ints.below s1 k (Nat.le_refl _)
          go_wp2_with fail
          refine (US w6).mono ?_; rintro e w7 ⟨rfl, k⟩; replace hb := next hb k
          replace s1 := Ints.below s1 k (Nat.le_refl _)
          go_wp2_with fail
          refine (CP w7).mono ?_; rintro e w8 ⟨pv, rfl, hps, k⟩; replace hb := next hb k
          replace s1 := Ints.below s1 k (Nat.le_refl _)
          have HPS : Strs w8 w7.heap.size pv (partsT (parts t)) := hps
          obtain ⟨⟨pa, pc, rfl⟩, hpc⟩ := HPS.cases
          have HPC := Lib.hid hpc
          clear hps HPS hpc
          go_wp2_with fail
          refine (CC w8 (hg.next hb)).mono ?_; rintro e w9 ⟨he, k⟩; replace hb := next hb k
          obtain rfl : e = .returned (.tuple #[cntV z, .bool true]) := he
          replace s1 := Ints.below s1 k (Nat.le_refl _)
          simp only [cntV]
          go_wp2_with fail
          have Bc := alloc_at w9 (.cells #[.int .i64 (z.steps : Int), .int .i64 (z.calls : Int), .int .i64 (z.clos : Int), .int .i64 (z.capt : Int), .int .i64 (z.deepest : Int)] 35)
          have bW := (Below.refl _ w9).alloc (Nat.le_refl _) (.cells #[.int .i64 (z.steps : Int), .int .i64 (z.calls : Int), .int .i64 (z.clos : Int), .int .i64 (z.capt : Int), .int .i64 (z.deepest : Int)] 35)
          have b8W := next k bW
          replace hb := next hb bW
          replace s1 := Ints.below s1 bW (Nat.le_refl _)
          have h8s := b8W.size
          generalize w9.alloc (.cells #[.int .i64 (z.steps : Int), .int .i64 (z.calls : Int), .int .i64 (z.clos : Int), .int .i64 (z.capt : Int), .int .i64 (z.deepest : Int)] 35) = W at Bc bW b8W hb s1 h8s ⊢
          have HS1 := Lib.hid s1.cases.2
          have HBc := Lib.hid Bc
          have hgW := hg.next hb
          clear s1 k bW
          go_loopw [94] (fun ix wr => ∃ k : Nat, k ≤ (calO (some z)).length ∧ ix = .int .i64 k ∧ Below W.heap.size W wr) (fun ix _ => (calO (some z)).length - (intOf ix).toNat)
          case atStart => exact ⟨0, Nat.zero_le _, rfl, Below.refl _ _⟩
          case round =>
            obtain ⟨k, hk, rfl, hB⟩ := hrel
            by_cases hlt : k < (calO (some z)).length
            · have hk2 : k < z.called.length := by simpa [calO] using hlt
              obtain ⟨j, hj⟩ : ∃ j, z.called[k]? = some j := ⟨_, List.getElem?_eq_getElem hk2⟩
              have hjc : (calO (some z))[k]? = some (j : Int) := by simp [calO, hj]
              obtain ⟨g1, k1, e1, _, hg1, h1, _⟩ := HS1.out k (j : Int) hjc
              injection e1 with e1 _ e1c
              subst e1 e1c
              obtain ⟨u, hu, hfu⟩ := HCI.out j (List.mem_of_getElem? hj)
              have hpu : (partsT (parts t))[j]? = some (textN u) := by simp [partsT, hu]
              obtain ⟨g2, k2, e2, _, hg2, h2, _⟩ := HPC.out j (textN u) hpu
              injection e2 with e2 _ e2c
              subst e2 e2c
              have cx := (hB.cell (p := ⟨g1, k, none⟩) hg1).trans h1
              have cy := (hB.cell (p := ⟨g2, j, none⟩) (Nat.lt_of_lt_of_le hg2 h8s)).trans ((b8W.cell (p := ⟨g2, j, none⟩) hg2).trans h2)
              have hj0 : ¬ ((j : Int) < 0) := by omega
              have hj2 : j < (partsT (parts t)).length := (List.getElem?_eq_some_iff.1 hpu).1
              have hj1 : (j : Int) < ((partsT (parts t)).length : Int) := by omega
              obtain ⟨d, rr, hX, hd⟩ := fun_head hfu
              have KU := CU (j : Int) wr (hgW.next hB)
              rw [decide_eq_true (List.mem_of_getElem? hjc)] at KU
              clear h1 h2 hj hjc hu hpu hfu HS1 HPC HCI
              generalize textN u = TX at cy hX
              obtain ⟨q, hix⟩ : ∃ h : 0 < (⟨TX.toArray⟩ : ByteArray).size, (⟨TX.toArray⟩ : ByteArray)[0]'h = d := ⟨by rw [size_data, hX]; simp, index_byte TX 0 d (by rw [hX]; rfl) _⟩
              clear hX
              rcases hd with hd | hd
              · have hd3 : (d.toNat : Int) = 92 := by omega
                go_wp2_with fail
                refine KU.mono ?_; rintro e u1 ⟨rfl, hb2⟩
                go_wp2_with fail
                exact ⟨⟨k + 1, by omega, by go_num, hB.trans (hb2.mono hB.size)⟩, by simp [intOf]; omega⟩
              · have hd3 : (d.toNat : Int) = 64 := by omega
                go_wp2_with fail
                refine KU.mono ?_; rintro e u1 ⟨rfl, hb2⟩
                go_wp2_with fail
                exact ⟨⟨k + 1, by omega, by go_num, hB.trans (hb2.mono hB.size)⟩, by simp [intOf]; omega⟩
            · obtain rfl : k = (calO (some z)).length := by omega
              have hc1 : wr.cell? ⟨w9.heap.size, 1, none⟩ = some (.int .i64 (z.calls : Int)) := (hB.cell (p := ⟨w9.heap.size, 1, none⟩) (Array.getElem?_eq_some_iff.1 HBc.out).1).trans (by simp [World.cell?, HBc.out])
              go_wp2_with fail
              go_ret
              exact ⟨by simp [HN1.out], hb.trans (hB.mono hb.size)⟩
    · have hm2 : 1048576 < (l2 : Int) := by omega
      go_enter Tryz.func3, Tryz.ntmps3
      go_wp2_with fail
      go_ret
      exact ⟨rfl, Below.refl _ _⟩
  · have hl2 : 1048576 < (l : Int) := by omega
    go_enter Tryz.func3, Tryz.ntmps3
    go_wp2_with fail
    go_ret
    exact ⟨rfl, Below.refl _ _⟩
end Go.Proofs.YtjfhncfbejephaaGreatDoor
