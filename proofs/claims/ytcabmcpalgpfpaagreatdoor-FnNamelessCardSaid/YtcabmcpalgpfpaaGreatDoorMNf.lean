import Derived.Test.YtcabmcpalgpfpaaGreatDoorNa
import Derived.Test.YtcabmcpalgpfpaaGreatDoorMPe
import Derived.Test.YtcabmcpalgpfpaaGreatDoorMPg
import Derived.Test.YtcabmcpalgpfpaaGreatDoorPuW
import Derived.Test.YtcabmcpalgpfpaaGreatDoorMNb
/- Nameless: the specification's. -/
namespace Go.Proofs.YtcabmcpalgpfpaaGreatDoor
open Go.RowKit
open Ff
set_option linter.unusedVariables false

/-- f tells how many names stand behind one in the text. -/
def Inner (ar : Text) (f : UInt8 → Int) : Prop := ∀ c, (c ∉ ar → f c = -1) ∧ ∀ k : Nat, ar[k]? = some c → (∀ j : Nat, k < j → ar[j]? ≠ some c) → f c = (ar.length : Int) - 1 - k
theorem inner_nil : Inner [] (fun _ => -1) := fun c => ⟨fun _ => rfl, fun k h => by simp at h⟩
theorem inner_over {ar ns : Text} {f : UInt8 → Int} (h : Inner ar f) (hd : Dif ns) : Inner (ar ++ ns) (deeper ns f) := by
  intro c
  obtain ⟨h1, h2⟩ := h c
  by_cases hc : c ∈ ns
  · have hex : ∃ i, ns[i]? = some c ∧ c ∉ ns.take i := by
      clear h1 h2 hd h
      induction ns with
      | nil => cases hc
      | cons a s ih =>
        by_cases e : c = a
        · subst e; exact ⟨0, rfl, by simp⟩
        · have hm : c ∈ s := by
            rcases List.mem_cons.1 hc with h | h
            · exact absurd h e
            · exact h
          obtain ⟨j, h1, h2⟩ := ih hm
          exact ⟨j + 1, by simpa using h1, by simp only [List.take_succ_cons, List.mem_cons, not_or]; exact ⟨e, h2⟩⟩
    obtain ⟨i, hi, hni⟩ := hex
    have hil := (List.getElem?_eq_some_iff.1 hi).1
    refine ⟨fun hn => absurd (List.mem_append_right _ hc) hn, fun k hk hno => ?_⟩
    have e : deeper ns f c = (ns.length : Int) - 1 - i := by
      unfold deeper
      rw [findI_at hi hni, if_pos (by omega)]
    rw [e]
    have hki : ¬ k < ar.length + i := fun hlt => hno (ar.length + i) hlt (by rw [List.getElem?_append_right (by omega), show ar.length + i - ar.length = i by omega]; exact hi)
    rw [List.getElem?_append_right (by omega)] at hk
    have hk2 : k - ar.length = i := by
      rcases Nat.lt_or_ge i (k - ar.length) with h3 | h3
      · exact absurd hk (hd i (k - ar.length) c h3 hi)
      · omega
    rw [List.length_append]
    omega
  · have e : deeper ns f c = if f c = -1 then -1 else f c + ns.length := by
      unfold deeper
      rw [findI_none hc, if_neg (by omega)]
    rw [e]
    refine ⟨fun hn => ?_, fun k hk hno => ?_⟩
    · rw [if_pos (h1 (fun h => hn (List.mem_append_left _ h)))]
    · have hkl : k < ar.length := by
        rcases Nat.lt_or_ge k ar.length with h3 | h3
        · exact h3
        · rw [List.getElem?_append_right h3] at hk
          exact absurd (List.mem_of_getElem? hk) hc
      rw [List.getElem?_append_left hkl] at hk
      have h3 := h2 k hk (fun j hj hjk => hno j hj (by rw [List.getElem?_append_left (List.getElem?_eq_some_iff.1 hjk).1]; exact hjk))
      rw [if_neg (by omega), List.length_append]
      omega
/-- The texts of the first so many kids. -/
def nlTo (n : Nat) (f : UInt8 → Int) (t : Tm) (k : Nat) : Text := (((t.kids.mapIdx (knK n f t)).take k).map (knText n)).flatten
theorem nlTo_succ {n : Nat} {f : UInt8 → Int} {t s : Tm} {k : Nat} (h : t.kids[k]? = some s) : nlTo n f t (k + 1) = nlTo n f t k ++ nlT n (if k + 1 = t.kids.length then deeper (bindsOf t) f else f) s := by
  unfold nlTo
  rw [List.take_add_one, List.getElem?_mapIdx, h]
  simp [knK, nlT]
theorem nlT_len : ∀ (n : Nat) (f : UInt8 → Int) (t : Tm), t.depth ≤ n → t.good → OkF n f → (nlT n f t).length ≤ 4 * (parts t).length ∧ ∀ k, (nlTo (n - 1) f t k).length + 2 ≤ 4 * (parts t).length
  | 0, f, t, hd, _, _ => absurd hd (by have := t.depth_pos; omega)
  | n + 1, f, t, hd, hg, hf => by
    have hpp : 1 ≤ (parts t).length := by cases t <;> simp [parts]
    have hto : ∀ k, (nlTo n f t k).length ≤ 4 * (before t k).length - 4 ∧ 1 ≤ (before t k).length := by
      intro k
      induction k with
      | zero => exact ⟨by simp [nlTo], by simp [before]⟩
      | succ k ih =>
        rcases hs : t.kids[k]? with _ | s
        · have e1 : nlTo n f t (k + 1) = nlTo n f t k := by
            unfold nlTo
            rw [List.take_add_one, List.getElem?_mapIdx, hs]
            simp
          have e2 : before t (k + 1) = before t k := by
            unfold before
            rw [List.take_add_one, hs]
            simp
          rw [e1, e2]; exact ih
        · have hm := List.mem_of_getElem? hs
          have hdk := kid_depth hm
          have h1 := (nlT_len n (if k + 1 = t.kids.length then deeper (bindsOf t) f else f) s (by omega) (Tm.kid_good hg hm) (by split; exact okF_deeper hf (binds_len t); exact okF_less hf)).1
          have e2 : (before t (k + 1)).length = (before t k).length + (parts s).length := by
            rw [before_succ t k s hs, List.length_append]
          rw [nlTo_succ hs, List.length_append, e2]
          omega
    have hle : ∀ k, (nlTo n f t k).length + 2 ≤ 4 * (parts t).length := fun k => by
      have h1 := hto k
      have h2 := before_le t k
      omega
    refine ⟨?_, hle⟩
    by_cases hk : t.kids = []
    · cases t with
      | num k =>
        rw [nlT_num]
        have := dec_len k
        unfold numN
        split
        · omega
        · simp only [List.length_cons]; omega
      | var c =>
        by_cases e : f c = -1
        · rw [nlT_free n hg e]; simp; omega
        · rw [nlT_bound n e]
          have := dec_len (f c).toNat
          simp only [List.length_cons, List.length_append, List.length_nil]
          omega
      | _ => simp [Tm.kids] at hk
    · have h1 := hle t.kids.length
      unfold nlTo at h1
      rw [List.take_of_length_le (by simp)] at h1
      rw [nlT_node n f hg hk]
      unfold tailN
      simp only [List.length_cons, List.length_append]
      split <;> simp only [List.length_cons, List.length_nil] <;> omega
def NlSC (n : Nat) : Prop := ∀ (ar : Text) (f : UInt8 → Int) (t : Tm) (B : Nat) (v : Value) (w : World), t.depth ≤ n → OkF n f → Inner ar f → ar.length + 2 * n ≤ 100 → (parts t).length ≤ 1000000 → Rep (fun g => g < B) w t v → B ≤ w.heap.size → t.good →
  Calls Tryz.prog 20 #[v, .string ⟨ar.toArray⟩] w fun e w' => e = .returned (.string ⟨(nlT n f t).toArray⟩) ∧ Below w.heap.size w w'
set_option maxRecDepth 100000 in
set_option maxHeartbeats 2000000 in
theorem nlS_num (n k : Nat) (ar : Text) (f : UInt8 → Int) (B : Nat) (v : Value) (w : World) (hk : k ≤ 99) (hrep : Rep (fun g => g < B) w (.num k) v) :
    Calls Tryz.prog 20 #[v, .string ⟨ar.toArray⟩] w fun e w' => e = .returned (.string ⟨(nlT (n + 1) f (.num k)).toArray⟩) ∧ Below w.heap.size w w' := by
  cases hrep with
  | mk _ g cap cs hg hc hk2 =>
  clear hc hk2
  rw [nlT_num]
  have C := fun W => sdec_c k hk W
  show Calls Tryz.prog 20 #[.agg #[.int .u8 110, .int .i64 (k : Int), .string ⟨#[]⟩, .slice (some ⟨g, 0, none⟩) 0 cap], .string ⟨ar.toArray⟩] w _
  go_enter Tryz.func20, Tryz.ntmps20
  go_wp2_with (go_at_call 40; refine (C _).mono ?_; clear C; rintro e w2 ⟨rfl, hb2⟩)
  go_ret
  exact ⟨rfl, ((Below.refl _ w).alloc (Nat.le_refl _) _).trans (hb2.mono (by simp))⟩
set_option maxRecDepth 100000 in
set_option maxHeartbeats 4000000 in
theorem nlS_var (n : Nat) (c : UInt8) (ar : Text) (f : UInt8 → Int) (B : Nat) (v : Value) (w : World) (hc : isNam c = true) (hI : Inner ar f) (hl : ar.length ≤ 99) (hrep : Rep (fun g => g < B) w (.var c) v) :
    Calls Tryz.prog 20 #[v, .string ⟨ar.toArray⟩] w fun e w' => e = .returned (.string ⟨(nlT (n + 1) f (.var c)).toArray⟩) ∧ Below w.heap.size w w' := by
  cases hrep with
  | mk _ g cap cs hg hcc hk2 =>
  clear hcc hk2
  show Calls Tryz.prog 20 #[.agg #[.int .u8 118, .int .i64 0, .string ⟨#[c]⟩, .slice (some ⟨g, 0, none⟩) 0 cap], .string ⟨ar.toArray⟩] w _
  have z0 := World.alloc_heap_new w (tmO 118 0 ⟨#[c]⟩ (some ⟨g, 0, none⟩) 0 cap)
  have hb0 := (Below.refl _ w).alloc (Nat.le_refl _) (tmO 118 0 ⟨#[c]⟩ (some ⟨g, 0, none⟩) 0 cap)
  have hz : (w.alloc (tmO 118 0 ⟨#[c]⟩ (some ⟨g, 0, none⟩) 0 cap)).heap.size = w.heap.size + 1 := by simp
  have hq : IntKind.i64.wrap ((ar.length : Int) - 1) = (ar.length : Int) - 1 := by rw [IntKind.wrap_i64]; omega
  obtain ⟨T, hT⟩ : ∃ T, T = nlT (n + 1) f (.var c) := ⟨_, rfl⟩
  rw [← hT]
  have HT := Lib.hid hT
  have HI := Lib.hid hI
  have HZ := Lib.hid hz
  clear hT hI hz
  go_enter Tryz.func20, Tryz.ntmps20
  go_wp2_with fail
  generalize w.alloc (tmO 118 0 ⟨#[c]⟩ (some ⟨g, 0, none⟩) 0 cap) = W0 at *
  go_loopw [5] (fun ix wr => ∃ k : Nat, k ≤ ar.length ∧ ix = .int .i64 ((k : Int) - 1) ∧ (∀ j : Nat, k ≤ j → ar[j]? ≠ some c) ∧ Below W0.heap.size W0 wr) (fun ix _ => (intOf ix + 1).toNat)
  case atStart => exact ⟨ar.length, Nat.le_refl _, rfl, fun j hj => by rw [List.getElem?_eq_none hj]; simp, Below.refl _ _⟩
  case round =>
    obtain ⟨k, hk, rfl, hno, hBl⟩ := hrel
    obtain ⟨c0, c1, c2, c3, _⟩ := cells4 ((hBl.block w.heap.size (by rw [HZ.out]; omega)).trans z0)
    have hBw : Below w.heap.size w wr := hb0.trans (hBl.mono (by rw [HZ.out]; omega))
    have HNO := Lib.hid hno
    clear hno
    cases k with
    | zero =>
      have hm : IntKind.i64.wrap (-1 : Int) = -1 := by rw [IntKind.wrap_i64]; omega
      have hTc : T = [c] := by
        rw [HT.out, nlT_free n hc ((HI.out c).1 (fun h => by obtain ⟨j, hj⟩ := List.getElem?_of_mem h; exact HNO.out j (Nat.zero_le _) hj))]
      subst hTc
      go_wp2_with fail
      go_ret
      exact ⟨rfl, hBw⟩
    | succ m =>
      obtain ⟨d, hd⟩ : ∃ d, ar[m]? = some d := ⟨_, List.getElem?_eq_getElem (by omega)⟩
      have hm1 : ((m + 1 : Nat) : Int) - 1 = (m : Int) := by omega
      have hx1 := extract_one ar m d hd
      have hw1 : IntKind.i64.wrap ((m : Int) + 1) = (m : Int) + 1 := by rw [IntKind.wrap_i64]; omega
      have hw2 : IntKind.i64.wrap ((m : Int) - 1) = (m : Int) - 1 := by rw [IntKind.wrap_i64]; omega
      have qb1 : (0 : Int) ≤ (m : Int) := by omega
      have qb2 : (0 : Int) ≤ (m : Int) + 1 := by omega
      have qb3 : (m : Int) ≤ (m : Int) + 1 := by omega
      have qb4 : (m : Int) + 1 ≤ (ar.length : Int) := by omega
      have qb5 : (m : Int) ≤ (ar.length : Int) := by omega
      have HD := Lib.hid hd
      rw [hm1]
      clear hd hm1
      by_cases hdc : d = c
      · subst hdc
        obtain ⟨p, hp⟩ : ∃ p, p = ar.length - 1 - m := ⟨_, rfl⟩
        have hp99 : p < 100 := by omega
        have hw3 : IntKind.i64.wrap ((ar.length : Int) - 1 - m) = (p : Int) := by rw [IntKind.wrap_i64]; omega
        have hTp : T = 36 :: (decN p ++ [59]) := by
          have hfd := (HI.out d).2 m HD.out (fun j hj => HNO.out j hj)
          rw [HT.out, nlT_bound n (by omega), show (f d).toNat = p by omega]
        have C := fun W => dec_c p hp99 W
        have hdl := dec_len p
        have e1 : (⟨#[36]⟩ ++ ⟨(decN p).toArray⟩ : ByteArray) = ⟨(36 :: decN p).toArray⟩ := str_app2 [36] (decN p)
        have e2 : (⟨(36 :: decN p).toArray⟩ ++ ⟨#[59]⟩ : ByteArray) = ⟨T.toArray⟩ := by rw [hTp]; exact str_app2 (36 :: decN p) [59]
        have z1 : ¬ 9223372036854775807 < 1 + (decN p).length := by omega
        have z2 : ¬ 9223372036854775807 < (36 :: decN p).length + 1 := by simp; omega
        have HP := Lib.hid hp
        clear hp hTp
        go_wp2_with fail
        go_region
        all_goals go_wp2_with (go_at_call 41; refine (C _).mono ?_; clear C; rintro e w2 ⟨rfl, hb2⟩)
        all_goals go_ret
        all_goals exact ⟨congrArg (fun s => Ending.returned (Value.string s)) (by first | exact e2 | (rw [← e2, ← e1])), hBw.drew.trans (hb2.mono hBw.size)⟩
      · have hne := byte_ne hdc
        have hno2 : ∀ j : Nat, m ≤ j → ar[j]? ≠ some c := fun j hj => by
          by_cases e : j = m
          · subst e; rw [HD.out]; intro e; injection e with e; exact hdc e
          · exact HNO.out j (by omega)
        have HN2 := Lib.hid hno2
        clear hno2
        go_wp2_with fail
        go_region
        all_goals go_wp2_with fail
        all_goals exact ⟨⟨m, by omega, rfl, HN2.out, hBl.drew⟩, by simp [intOf]⟩
theorem nl_all {n : Nat} {f : UInt8 → Int} {t : Tm} (hg : t.good) (hk : t.kids ≠ []) : nlT (n + 1) f t = headN t :: (nlTo n f t t.kids.length ++ tailN t) := by
  rw [nlT_node n f hg hk]
  unfold nlTo
  rw [List.take_of_length_le (by simp)]
set_option maxRecDepth 100000 in
set_option maxHeartbeats 8000000 in
theorem nlS_node (n : Nat) (ih : NlSC n) (ar : Text) (f : UInt8 → Int) (t : Tm) (B : Nat) (v : Value) (w : World) (ht : t.depth ≤ n + 1) (hf : OkF (n + 1) f) (hI : Inner ar f) (hal : ar.length + 2 * (n + 1) ≤ 100) (hp : (parts t).length ≤ 1000000) (hrep : Rep (fun g => g < B) w t v) (hB : B ≤ w.heap.size) (hgd : t.good) (hkn : t.kids ≠ []) :
    Calls Tryz.prog 20 #[v, .string ⟨ar.toArray⟩] w fun e w' => e = .returned (.string ⟨(nlT (n + 1) f t).toArray⟩) ∧ Below w.heap.size w w' := by
  obtain ⟨h1, h2⟩ := kind_node hgd hkn
  rw [nl_all hgd hkn]
  have hlens := (nlT_len (n + 1) f t ht hgd hf).2
  simp only [Nat.add_sub_cancel] at hlens
  have hnm : namesOf t = bindsOf t := by cases t <;> first | rfl | exact absurd rfl hkn
  have hdif := binds_dif hgd
  have hb2 := binds_len t
  cases hrep with
  | mk _ g cap cs hg hc hk =>
  have hkl : t.kids.length ≤ 3 := by cases t <;> simp [Tm.kids]
  have hkl0 : 1 ≤ t.kids.length := List.length_pos_iff.2 hkn
  have hkc := kind_cases hgd h1 h2
  have hhd : (kindOf t : Int) = ((headN t).toNat : Int) := by
    unfold headN
    rw [UInt8.toNat_ofNat']
    omega
  have htl : tailN t = if (kindOf t : Int) = 40 then [41] else [] := by
    unfold tailN
    by_cases e : kindOf t = 40
    · rw [if_pos e, if_pos (by omega)]
    · rw [if_neg e, if_neg (by omega)]
  rw [htl]
  have k1 := fun W => strZ hhd W
  unfold tmHead
  rw [hnm]
  have hkd : (kindOf t : Int) ≠ 110 ∧ (kindOf t : Int) ≠ 118 := by omega
  clear hkc hhd htl hnm
  generalize (kindOf t : Int) = kd at k1 hkd ⊢
  obtain ⟨m1, m2⟩ := hkd
  have b1 : (kd == 110) = false := by simp [m1]
  have b2 : (kd == 118) = false := by simp [m2]
  have z0 := World.alloc_heap_new w (tmO kd (numOf t : Int) ⟨(bindsOf t).toArray⟩ (some ⟨g, 0, none⟩) t.kids.length cap)
  have k2 := k1 (w.alloc (tmO kd (numOf t : Int) ⟨(bindsOf t).toArray⟩ (some ⟨g, 0, none⟩) t.kids.length cap))
  rw [World.size_alloc] at k2
  clear k1
  have hb0 := below_two w (tmO kd (numOf t : Int) ⟨(bindsOf t).toArray⟩ (some ⟨g, 0, none⟩) t.kids.length cap) (.cells #[.int .u8 kd] 5)
  have y0 : ((w.alloc (tmO kd (numOf t : Int) ⟨(bindsOf t).toArray⟩ (some ⟨g, 0, none⟩) t.kids.length cap)).alloc (.cells #[.int .u8 kd] 5)).heap[w.heap.size]? = some (tmO kd (numOf t : Int) ⟨(bindsOf t).toArray⟩ (some ⟨g, 0, none⟩) t.kids.length cap) := by
    rw [Below.heap_alloc _ _ _ (by simp)]; exact z0
  have hz : ((w.alloc (tmO kd (numOf t : Int) ⟨(bindsOf t).toArray⟩ (some ⟨g, 0, none⟩) t.kids.length cap)).alloc (.cells #[.int .u8 kd] 5)).heap.size = w.heap.size + 2 := by simp
  obtain ⟨x0, x1, x2, x3, _⟩ := cells4 y0
  have q3 : IntKind.i64.wrap ((t.kids.length : Int) - 1) = (t.kids.length : Int) - 1 := by rw [IntKind.wrap_i64]; omega
  have KC := fun (k : Nat) (s : Tm) (hs : t.kids[k]? = some s) => kid_cells (by omega) hc hk hs
  have HKC := Lib.hid KC
  have HI := Lib.hid hI
  have HF := Lib.hid hf
  have HH := Lib.hid hlens
  obtain ⟨hd0, hhd0⟩ : ∃ d, headN t = d := ⟨_, rfl⟩
  rw [hhd0] at k2 ⊢
  clear hc hk KC hI hf hlens
  generalize hL : t.kids.length = L at *
  have HL := Lib.hid hL
  clear hL
  go_enter Tryz.func20, Tryz.ntmps20
  go_wp2_with fail
  generalize (w.alloc (tmO kd (numOf t : Int) ⟨(bindsOf t).toArray⟩ (some ⟨g, 0, none⟩) L cap)).alloc (.cells #[.int .u8 kd] 5) = W2 at *
  clear k2 x0 x1 x2 x3
  have HZ := Lib.hid hz
  clear hz
  go_loopw [6, 56] (fun o i wr => ∃ k : Nat, k ≤ L ∧ i = .int .i64 k ∧ o = .string ⟨(hd0 :: nlTo n f t k).toArray⟩ ∧ Below W2.heap.size W2 wr) (fun _ i _ => L - (intOf i).toNat)
  case atStart => exact ⟨0, Nat.zero_le _, rfl, by simp [nlTo], Below.refl _ _⟩
  case round =>
    obtain ⟨k, hk, rfl, rfl, hBl⟩ := hrel
    have hln := HH.out k
    have hsz := hBl.size
    have hwB : Below w.heap.size w wr := hb0.trans (hBl.mono (by rw [HZ.out]; omega))
    obtain ⟨c0, c1, c2, c3, _⟩ := cells4 ((hBl.block w.heap.size (by rw [HZ.out]; omega)).trans y0)
    by_cases hlt : k < L
    · obtain ⟨s, hs⟩ : ∃ s, t.kids[k]? = some s := ⟨_, List.getElem?_eq_getElem (by rw [HL.out]; exact hlt)⟩
      obtain ⟨z1, z2, z3, z4, z5, z6, hrs, hcc⟩ := HKC.out k s hs
      obtain ⟨e0, e1, e2, e3⟩ := hcc wr hwB
      have hmem := List.mem_of_getElem? hs
      have hdk := kid_depth hmem
      have hps := parts_kid_le hmem
      have hgs := Tm.kid_good hgd hmem
      have hw2 : Below w.heap.size w (wr.alloc (tmO z1 z2 z3 z4 z5 z6)) := hwB.alloc hwB.size _
      have hw3 : Below W2.heap.size W2 (wr.alloc (tmO z1 z2 z3 z4 z5 z6)) := hBl.alloc hsz _
      have hR := hrs.keep (fun g' hg' => hw2.block g' (by omega)) (fun g' hg' => hg')
      have d2 : (wr.alloc (tmO z1 z2 z3 z4 z5 z6)).cell? ⟨w.heap.size, 2, none⟩ = some (.string ⟨(bindsOf t).toArray⟩) := (((Below.refl _ wr).alloc (Nat.le_refl _) (tmO z1 z2 z3 z4 z5 z6)).cell (p := ⟨w.heap.size, 2, none⟩) (by show w.heap.size < _; have := HZ.out; omega)).trans c2
      have hsucc := nlTo_succ (n := n) (f := f) hs
      rw [HL.out] at hsucc
      have p1 : ¬ 9223372036854775807 < ar.length + (bindsOf t).length := by omega
      have eA : (⟨ar.toArray⟩ ++ ⟨(bindsOf t).toArray⟩ : ByteArray) = ⟨(ar ++ bindsOf t).toArray⟩ := str_app2 _ _
      clear hrs hcc
      by_cases hlast : k + 1 = L
      · have hq := last_eq hlast
        rw [if_pos hlast] at hsucc
        have hf2 := okF_deeper HF.out hb2
        have C := ih (ar ++ bindsOf t) (deeper (bindsOf t) f) s B _ _ (by omega) hf2 (inner_over HI.out hdif) (by simp; omega) (by omega) hR (by have := hw2.size; omega) hgs
        have hsl := (nlT_len n (deeper (bindsOf t) f) s (by omega) hgs hf2).1
        have hround : (⟨(hd0 :: nlTo n f t k).toArray⟩ ++ ⟨(nlT n (deeper (bindsOf t) f) s).toArray⟩ : ByteArray) = ⟨(hd0 :: nlTo n f t (k + 1)).toArray⟩ := by
          rw [hsucc, str_app2]
          simp
        have HR := Lib.hid hround
        have p3 : ¬ 9223372036854775807 < (hd0 :: nlTo n f t k).length + (nlT n (deeper (bindsOf t) f) s).length := by simp; omega
        have HLA := Lib.hid hlast
        generalize hd0 :: nlTo n f t k = pref at p3 HR ⊢
        clear hround hsucc hR hlast hs
        go_wp2_with (go_at_call 20; refine C.mono ?_; clear C; rintro e w2 ⟨rfl, hb2⟩)
        exact ⟨⟨k + 1, by omega, by go_num, by rw [← HR.out], hw3.trans (hb2.mono (by simp; omega))⟩, by simp [intOf]; omega⟩
      · have hq := last_ne hlast
        rw [if_neg hlast] at hsucc
        have hf2 := okF_less HF.out
        have C := ih ar f s B _ _ (by omega) hf2 HI.out (by omega) (by omega) hR (by have := hw2.size; omega) hgs
        have hsl := (nlT_len n f s (by omega) hgs hf2).1
        have hround : (⟨(hd0 :: nlTo n f t k).toArray⟩ ++ ⟨(nlT n f s).toArray⟩ : ByteArray) = ⟨(hd0 :: nlTo n f t (k + 1)).toArray⟩ := by
          rw [hsucc, str_app2]
          simp
        have HR := Lib.hid hround
        have p3 : ¬ 9223372036854775807 < (hd0 :: nlTo n f t k).length + (nlT n f s).length := by simp; omega
        have HLA := Lib.hid hlast
        generalize hd0 :: nlTo n f t k = pref at p3 HR ⊢
        clear hround hsucc hR hlast hs
        go_wp2_with (go_at_call 20; refine C.mono ?_; clear C; rintro e w2 ⟨rfl, hb2⟩)
        exact ⟨⟨k + 1, by omega, by go_num, by rw [← HR.out], hw3.trans (hb2.mono (by simp; omega))⟩, by simp [intOf]; omega⟩
    · obtain rfl : k = L := by omega
      have p4 : ¬ 9223372036854775807 < (hd0 :: nlTo n f t k).length + 1 := by simp; omega
      rcases Classical.em (kd = 40) with rfl | h40
      · go_wp2_with fail
        go_ret
        exact ⟨congrArg (fun s => Ending.returned (Value.string s)) (by apply ba_ext; simp [ByteArray.data_append]), hwB⟩
      · go_wp2_with fail
        go_ret
        exact ⟨congrArg (fun s => Ending.returned (Value.string s)) (by apply ba_ext; simp), hwB⟩
theorem nlS_c : ∀ n, NlSC n
  | 0 => fun ar f t B v w hd => absurd hd (by have := t.depth_pos; omega)
  | n + 1 => by
    intro ar f t B v w hd hf hI hl hp hr hB hg
    by_cases hk : t.kids = []
    · cases t with
      | num k => exact nlS_num n k ar f B v w hg hr
      | var c => exact nlS_var n c ar f B v w hg hI (by omega) hr
      | _ => simp [Tm.kids] at hk
    · exact nlS_node n (nlS_c n) ar f t B v w hd hf hI hl hp hr hB hg hk
end Go.Proofs.YtcabmcpalgpfpaaGreatDoor

/- FnExactSameTerm and Nameless: the specification's Nameless and SameTerm; the law. -/
namespace Go.Proofs.YtcabmcpalgpfpaaGreatDoor
open Go.RowKit
open Ff
set_option linter.unusedVariables false

/-- What Nameless comes to. -/
def nlO (s : Text) : Option Text := (readS s).map (nlT 24 noF)
def ntO : Option Text → Text
  | some x => x | none => []
set_option maxRecDepth 100000 in
set_option maxHeartbeats 4000000 in
theorem sNameless_c (s : Text) (w : World) (hl : s.length ≤ 9223372036854775807) :
    Calls Tryz.prog 6 #[.string ⟨s.toArray⟩] w fun e w' => e = .returned (.tuple #[.string ⟨(ntO (nlO s)).toArray⟩, .bool (nlO s).isSome]) ∧ Below w.heap.size w w' := by
  have C1 := sread_c s w hl
  rcases hr : readS s with _ | t
  · have hO : nlO s = none := by unfold nlO; rw [hr]; rfl
    rw [hO]
    rw [hr] at C1
    clear hr hO
    go_enter Tryz.func6, Tryz.ntmps6
    go_wp2_with fail
    refine C1.mono ?_
    clear C1
    rintro e w1 ⟨rfl, hb1⟩
    unfold zeroTm
    go_wp2_with fail
    go_ret2
    exact ⟨rfl, hb1.alloc hb1.size _⟩
  · have hO : nlO s = some (nlT 24 noF t) := by unfold nlO; rw [hr]; rfl
    rw [hO]
    rw [hr] at C1
    obtain ⟨tg, td, tp⟩ := read_facts hr
    clear hr hO
    go_enter Tryz.func6, Tryz.ntmps6
    go_wp2_with fail
    refine C1.mono ?_
    clear C1
    rintro e w1 ⟨v1, rfl, hb1, hrep1⟩
    obtain ⟨x0, x1, x2, x3, x4, x5, rfl⟩ := hrep1.junk
    have hs1 := hb1.size
    have hB1 := hb1.alloc hs1 (tmO x0 x1 x2 x3 x4 x5)
    have K := nlS_c 24 [] noF t w1.heap.size _ (w1.alloc (tmO x0 x1 x2 x3 x4 x5)) td noF_ok inner_nil (by simp) (by omega) (hrep1.keep (fun g hg => Below.heap_alloc _ _ _ hg.2) (fun g hg => hg.2)) (by simp) tg
    clear hrep1
    go_wp2_with (go_at_call 20; refine K.mono ?_; clear K; rintro e w2 ⟨rfl, hb2⟩)
    go_ret2
    exact ⟨rfl, hB1.trans (hb2.mono hB1.size)⟩
end Go.Proofs.YtcabmcpalgpfpaaGreatDoor
