import Derived.Test.YtojbffiffcfblaaGreatPuC
/- The program's putting: a new one; a name that is not taken; the names that are. -/
namespace Go.Proofs.YtojbffiffcfblaaGreat
open Go.RowKit
open Ff
set_option linter.unusedVariables false
attribute [local go_sem] Oper.semAt_some

/-- A putting as the program holds it. -/
abbrev putV (x : UInt8) (u : Tm) (b : Nat) : Value := .agg #[bv x, enc u, .map (some b)]
theorem three_of {w : World} {b : Nat} {z0 z1 z2 : Value} {t : TypeId} (h : w.heap[b]? = some (.cells #[z0, z1, z2] t (0, 0))) : w.cell? ⟨b, 0, none⟩ = some z0 ∧ w.cell? ⟨b, 1, none⟩ = some z1 ∧ w.cell? ⟨b, 2, none⟩ = some z2 ∧ ∀ k, w.frozen? ⟨b, k, none⟩ = false := by
  refine ⟨?_, ?_, ?_, fun k => ?_⟩ <;> simp [World.cell?, World.frozen?, h]
set_option maxRecDepth 100000 in
set_option maxHeartbeats 2000000 in
theorem newPutting_c (x : UInt8) (u : Tm) (w : World) (hu : u.good) (hp : (parts u).length ≤ 4000) (hd : u.depth ≤ 4000) :
    Calls Tryz.prog 63 #[bv x, enc u] w fun e w' => ∃ b m, e = .returned (putV x u b) ∧ w.heap.size ≤ b ∧ m ≤ (parts u).length ∧ Tally w' b m (cntF u) ∧ Below w.heap.size w w' := by
  have hb0 := (Below.refl _ w).alloc (Nat.le_refl _) (.cells #[.int .u8 0, .nilIface, .map none] 106)
  have C := freeIn_c 4000 u (w.alloc (.cells #[.int .u8 0, .nilIface, .map none] 106)) hd (Nat.le_refl _) hp hu
  obtain ⟨n, v, hv⟩ := enc_gen u
  have HV := Lib.hid hv
  unfold putV
  rw [hv] at C ⊢
  clear hv
  have z := World.alloc_heap_new w (.cells #[.int .u8 0, .nilIface, .map none] 106)
  have hs0 : w.heap.size < (w.alloc (.cells #[.int .u8 0, .nilIface, .map none] 106)).heap.size := by simp
  go_enter Tryz.func63, Tryz.ntmps63
  generalize hW0 : w.alloc (.cells #[.int .u8 0, .nilIface, .map none] 106) = W0 at *
  go_wp2_with (go_at_call 30; refine C.mono ?_; rintro e w1 ⟨b, m, rfl, hb1, hm, hT, hb2⟩; obtain ⟨p0, p1, p2, pf⟩ := three_of ((hb2.block _ hs0).trans z); have q0 := pf 0; have q1 := pf 1; have q2 := pf 2)
  have hbb : b ≠ w.heap.size := by omega
  refine bodyPost_ret (v := .agg #[bv x, .iface n v, .map (some b)]) (by simp [results, Tryz.results63, go_sem, p0, p1, p2]) rfl ?_
  exact ⟨b, m, rfl, by omega, hm, ((hT.setCell hbb _).setCell hbb _).setCell hbb _, (((hb0.trans (hb2.mono (by omega))).setCell (p := ⟨w.heap.size, 0, none⟩) (Nat.le_refl _) _).setCell (p := ⟨w.heap.size, 1, none⟩) (Nat.le_refl _) _).setCell (p := ⟨w.heap.size, 2, none⟩) (Nat.le_refl _) _⟩
set_option maxRecDepth 100000 in
set_option maxHeartbeats 2000000 in
theorem mustUntaken_c (b nm : Nat) (m : UInt8 → Nat) (w : World) (hT : Tally w b nm m) :
    Calls Tryz.prog 77 #[.map (some b)] w fun e w' => ((∃ c, (butTo m 16).head? = some c ∧ e = .returned (bv c)) ∨ ((butTo m 16).head? = none ∧ e = .panicked shortP)) ∧ Below w.heap.size w w' := by
  have C := untaken_c b nm m w hT
  unfold untV at C
  rcases hr : (butTo m 16).head? with _ | c
  · rw [hr] at C
    go_enter Tryz.func77, Tryz.ntmps77
    go_wp2_with (go_at_call 104; refine C.mono ?_; clear C; rintro e w1 ⟨rfl, hb1⟩)
    exact ⟨rfl, .inr ⟨trivial, rfl⟩, hb1⟩
  · rw [hr] at C
    go_enter Tryz.func77, Tryz.ntmps77
    go_wp2_with (go_at_call 104; refine C.mono ?_; clear C; rintro e w1 ⟨rfl, hb1⟩)
    go_ret
    exact ⟨.inl ⟨c, rfl, rfl⟩, hb1⟩
/-- How often a name stands free in a part's body and in what is put. -/
def baseM (u t : Tm) : UInt8 → Nat := fun c => cntF (lastK t) c + cntF u c
/-- How often a name is taken for a part. -/
def takeM (x : UInt8) (u t : Tm) (k : Nat) : UInt8 → Nat := fun c => cntF (lastK t) c + cntF u c + (if c = x then 1 else 0) + ((bindsOf t).take k).count c
theorem take_zero (x : UInt8) (u t : Tm) (c : UInt8) : upd (baseM u t) x (baseM u t x + 1) c = takeM x u t 0 c := by
  unfold upd takeM baseM
  by_cases e : c = x
  · subst e; simp
  · simp [e]
theorem take_succ (x : UInt8) (u t : Tm) (k : Nat) (c : UInt8) (hc : (bindsOf t)[k]? = some c) (y : UInt8) : upd (takeM x u t k) c (takeM x u t k c + 1) y = takeM x u t (k + 1) y := by
  unfold upd takeM
  rw [List.take_add_one, hc]
  simp only [Option.toList_some, List.count_append, List.count_singleton]
  by_cases e : y = c
  · subst e; simp; omega
  · have e2 : ¬ c = y := fun h => e h.symm
    simp [e, e2]
theorem take_le (x : UInt8) (u t : Tm) (c : UInt8) (k : Nat) (hu : (parts u).length ≤ 4000) (hp : (parts (lastK t)).length ≤ 4000) : takeM x u t k c ≤ 9000 := by
  have h1 := cnt_le (lastK t) c
  have h2 := cnt_le u c
  have h3 : ((bindsOf t).take k).count c ≤ 2 := Nat.le_trans List.count_le_length (Nat.le_trans (by rw [List.length_take]; omega) (binds_len t))
  unfold takeM
  split <;> omega
set_option maxRecDepth 100000 in
set_option maxHeartbeats 4000000 in
theorem takenFor_c (x : UInt8) (u t : Tm) (b m : Nat) (w : World) (hT : Tally w b m (cntF u)) (hm : m ≤ 4000) (hu : (parts u).length ≤ 4000) (ht : t.good) (hk : t.kids ≠ []) (hp : (parts t).length ≤ 4000) (hd : t.depth ≤ 4000) :
    Calls Tryz.prog 109 #[putV x u b, enc t] w fun e w' => ∃ b' m', e = .returned (.map (some b')) ∧ w.heap.size ≤ b' ∧ Tally w' b' m' (takeM x u t (bindsOf t).length) ∧ Below w.heap.size w w' := by
  have hl : lastK t ∈ t.kids := by
    unfold lastK
    rcases h : t.kids.getLast? with _ | y
    · rw [List.getLast?_eq_none_iff] at h; exact absurd h hk
    · exact List.mem_of_getLast? h
  have hb0 := (Below.refl _ w).alloc (Nat.le_refl _) (.cells #[bv x, enc u, .map (some b)] 106)
  have hpl := parts_kid_le hl
  have hdl := kid_depth hl
  have C1 := bodyOf_c t hk (w.alloc (.cells #[bv x, enc u, .map (some b)] 106))
  have C2 := fun w' => freeIn_c 4000 (lastK t) w' (by omega) (Nat.le_refl _) (by omega) (Tm.kid_good ht hl)
  have KB := fun w' => boundBy_c t ht w'
  have hM1 : ∀ c, cntF (lastK t) c + cntF u c ≤ 1000000 := fun c => by
    have := cnt_le (lastK t) c
    have := cnt_le u c
    omega
  have hM2 : ∀ c, takeM x u t 0 c ≤ 1000000 := fun c => by
    have := cnt_le (lastK t) c
    have := cnt_le u c
    simp only [takeM, List.take_zero, List.count_nil]
    split <;> omega
  have hMx : baseM u t x ≤ 10000 := by
    unfold baseM
    have := cnt_le (lastK t) x
    have := cnt_le u x
    omega
  have hlen := binds_len t
  have HM := Lib.hid hM1
  have HM2 := Lib.hid hM2
  have hT0 : Tally (w.alloc (.cells #[bv x, enc u, .map (some b)] 106)) b m (cntF u) := hT.alloc _
  have hbw := hT.lt
  have z := World.alloc_heap_new w (.cells #[bv x, enc u, .map (some b)] 106)
  have hs0 : w.heap.size < (w.alloc (.cells #[bv x, enc u, .map (some b)] 106)).heap.size := by simp
  have hpn : (parts (lastK t)).length ≤ 4000 := by omega
  obtain ⟨ln, lv, hlv⟩ := enc_gen (lastK t)
  obtain ⟨un, uv, huv⟩ := enc_gen u
  obtain ⟨tn, tv, htv⟩ := enc_gen t
  simp only [hlv, huv, htv] at C1 C2 KB z hs0 hb0 hT0
  unfold putV
  simp only [huv, htv]
  clear hM1 hM2 hT hl hlv huv htv
  go_enter Tryz.func109, Tryz.ntmps109
  generalize hW0 : w.alloc (.cells #[bv x, .iface un uv, .map (some b)] 106) = W0 at *
  go_wp2_with (first
    | (go_at_call 107; refine C1.mono ?_; clear C1; rintro e w1 ⟨rfl, hb1⟩)
    | (go_at_call 30; refine (C2 _).mono ?_; clear C2; rintro e w2 ⟨bf, nf, rfl, hbf, hnf, hTf, hb2⟩; obtain ⟨p0, p1, p2, pf⟩ := three_of ((hb2.block _ (Nat.lt_of_lt_of_le hs0 hb1.size)).trans ((hb1.block _ hs0).trans z)))
    | (go_at_call 58; refine (add_c bf b nf m _ _ w2 hTf ((hT0.below hb1).below hb2) (by have := hb1.size; omega) (by omega) HM.out).mono ?_; rintro e w3 ⟨rfl, hT3, hg3⟩; change Tally w3 bf (nf + m) (baseM u t) at hT3; have r0 := hg3.cell p0 (by have := hb1.size; simp; omega); have hwr : IntKind.i64.wrap ((baseM u t x : Int) + 1) = (baseM u t x : Int) + 1 := (by rw [IntKind.wrap_i64]; omega); clear p0 p1 p2 pf)
    | (at_lookup; refine wpList_lookup_tally rfl _ _ rfl rfl hT3 x rfl ?_)
    | (at_mapUpdate; refine wpList_update_tally rfl _ _ _ rfl rfl hT3 x rfl (baseM u t x + 1) (by go_num) (by unfold maxLen; omega) (by omega) (by omega) ?_; intro w4 hT4 hg4; go_frame)
    | (go_at_call 57; refine (KB _).mono ?_; clear KB; rintro e w5 ⟨v, rfl, hsv, hb5⟩; obtain ⟨a5, rfl, hcell5⟩ := hsv.uni; have HC5 := Lib.hid hcell5; clear hcell5 hsv)
    | go_in)
  have hb44 := hT4.lt
  have hTk := (hT4.below hb5).congr (fun c => take_zero x u t c)
  have hsz : w.heap.size ≤ w5.heap.size := by
    have := hb1.size; have := hb2.size; have := hg3.size; have := hg4.size; have := hb5.size
    omega
  have hB5 : Below w.heap.size w w5 := by
    have h3 : Below w.heap.size w w2 := (hb0.trans (hb1.mono (by omega))).trans (hb2.mono (by have := hb1.size; omega))
    have h4 : Below w.heap.size w w4 := (h3.grown hg3 h3.size (fun j hj => by cases hj; have := hb1.size; omega)).grown hg4 (by have := h3.size; have := hg3.size; omega) (fun j hj => by cases hj; have := hb1.size; omega)
    exact h4.trans (hb5.mono (by have := h3.size; have := hg3.size; have := hg4.size; omega))
  have hbf5 : w.heap.size ≤ bf := by have := hb1.size; omega
  have hb45 : bf < w5.heap.size := hTk.lt
  have HTL := Lib.hid (fun c k => take_le x u t c k hu hpn)
  clear hT4 hT3 hTf HM HM2 hT0 z hW0 hwr r0 hMx
  go_loopw [23] (fun i wr => ∃ (k n' : Nat), k ≤ (bindsOf t).length ∧ i = .int .i64 k ∧ n' ≤ nf + m + 1 + k ∧ Tally wr bf n' (takeM x u t k) ∧ w5.grownBy wr (some bf)) (fun i _ => (bindsOf t).length - (intOf i).toNat)
  case atStart => exact ⟨0, _, Nat.zero_le _, by simp, Nat.le_refl _, hTk, World.grownBy.refl _ _⟩
  case round =>
    obtain ⟨k, n', hk, rfl, hn', hT, hG⟩ := hrel
    by_cases hlt : k < (bindsOf t).length
    · obtain ⟨c, hc⟩ : ∃ c, (bindsOf t)[k]? = some c := ⟨_, List.getElem?_eq_getElem hlt⟩
      obtain ⟨g, rfl, hg0, hg, hcg⟩ := HC5.out k (bv c) (by simp [hc])
      have hne : g ≠ bf := by omega
      have hc2 := hG.cell hcg (by simp; omega)
      have htl := HTL.out c k
      have hwr : IntKind.i64.wrap ((takeM x u t k c : Int) + 1) = (takeM x u t k c : Int) + 1 := by rw [IntKind.wrap_i64]; omega
      have HCC := Lib.hid hc
      clear hc hcg
      go_wp2_with (first
        | (at_lookup; refine wpList_lookup_tally rfl _ _ rfl rfl hT c rfl ?_)
        | (at_mapUpdate; refine wpList_update_tally rfl _ _ _ rfl rfl hT c rfl (takeM x u t k c + 1) (by go_num) (by unfold maxLen; omega) (by omega) (by omega) ?_; intro w6 hT6 hg6; go_frame)
        | go_in)
      exact ⟨⟨k + 1, n' + 1, by omega, by go_num, by omega, hT6.congr (fun y => take_succ x u t k c HCC.out y), hG.andThen hg6 (fun j hj => Or.inr hj)⟩, by simp [intOf]; omega⟩
    · obtain rfl : k = (bindsOf t).length := by omega
      go_wp2_with fail
      go_ret
      exact ⟨bf, n', rfl, hbf5, hT, hB5.grown hG hsz (fun j hj => by cases hj; exact hbf5)⟩
/-- The first name that is not taken. -/
theorem take_new (x : UInt8) (u t : Tm) (hu : u.good) (ht : (lastK t).good) : (butTo (takeM x u t (bindsOf t).length) 16).head? = newO (sfree u ++ sfree (lastK t) ++ bindsOf t ++ [x]) := by
  have h0 : ∀ (p q : UInt8 → Bool) (l : Text), (∀ c, p c = q c) → (l.filter p).head? = l.find? q := by
    intro p q l h
    induction l with
    | nil => rfl
    | cons c l ih => simp only [List.filter_cons, List.find?_cons, ← h c]; cases p c <;> simp [ih]
  unfold newO butTo
  rw [show letters.take 16 = letters from rfl]
  refine h0 _ _ _ fun c => ?_
  have h1 := mem_free hu c
  have h2 := mem_free ht c
  rw [decide_eq_decide]
  simp only [takeM, List.take_length, List.mem_append, List.mem_singleton, h1, h2]
  by_cases e : c = x
  · simp [e]
  · simp only [e, if_false]
    have h3 : (bindsOf t).count c = 0 ↔ c ∉ bindsOf t := List.count_eq_zero
    constructor
    · intro h
      have := h3.1 (by omega)
      simp [this]; omega
    · intro h
      simp only [not_or, Classical.not_not, or_false] at h
      have := h3.2 h.2
      omega
end Go.Proofs.YtojbffiffcfblaaGreat
