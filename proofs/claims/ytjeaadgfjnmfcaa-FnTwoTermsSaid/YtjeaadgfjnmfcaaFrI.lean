/- The program's freeIn: how often each name stands free. -/
import Derived.Test.YtjeaadgfjnmfcaaBy
namespace Go.Proofs.Ytjeaadgfjnmfcaa
open Go.RowKit
open Ff
set_option linter.unusedVariables false

def isVar : Tm → Bool
  | .var _ => true | _ => false
def varV : Tm → Value
  | .var c => pl (.var c) | _ => .agg #[.int .u8 0]
theorem ta_var (t : Tm) (w : World) : (Instr.typeAssert (.iface (ty t) (pl t)) 44 73 true).run Try.prog w = .ok (.tuple #[varV t, .bool (isVar t)]) w := by
  cases t <;> kernel_rfl
theorem ta_novar (t : Tm) (h : isVar t = false) (w : World) : (Instr.typeAssert (.iface (ty t) (pl t)) 44 73 true).run Try.prog w = .ok (.tuple #[.agg #[.int .u8 0], .bool false]) w := by
  have a := ta_var t w
  cases t with
  | var c => simp [isVar] at h
  | _ => exact a
/-- What of a kid's number counts for the term. -/
def share (t : Tm) (k : Nat) (s : Tm) (j : Nat) : UInt8 → Nat := fun x => if k + 1 = t.kids.length ∧ x ∈ (bindsOf t).take j then 0 else cntF s x
theorem share_zero (t : Tm) (k : Nat) (s : Tm) (x : UInt8) : share t k s 0 x = cntF s x := by simp [share]
theorem share_not (t : Tm) (k : Nat) (s : Tm) (h : k + 1 ≠ t.kids.length) (j : Nat) (x : UInt8) : share t k s j x = cntF s x := by simp [share, h]
theorem share_all (t : Tm) (k : Nat) (s : Tm) (h : t.kids[k]? = some s) (x : UInt8) : cntTo t k x + share t k s (bindsOf t).length x = cntTo t (k + 1) x := by
  rw [cntTo_succ t k s h, share, List.take_length]
theorem share_succ (t : Tm) (k : Nat) (s : Tm) (hk : k + 1 = t.kids.length) (j : Nat) (c : UInt8) (hc : (bindsOf t)[j]? = some c) (x : UInt8) : upd (share t k s j) c 0 x = share t k s (j + 1) x := by
  unfold share upd
  rw [List.take_add_one, hc]
  by_cases e : x = c
  · subst e; simp [hk]
  · simp [hk, e]
theorem share_le (t : Tm) (k : Nat) (s : Tm) (j : Nat) (x : UInt8) : share t k s j x ≤ cntF s x := by
  unfold share; split <;> omega
theorem cntTo_le (t : Tm) (x : UInt8) : ∀ k, cntTo t k x + 1 ≤ (before t k).length
  | 0 => by simp [cntTo, before]
  | k + 1 => by
    have ih := cntTo_le t x k
    rcases h : t.kids[k]? with _ | s
    · have e1 : cntTo t (k + 1) x = cntTo t k x := by simp [cntTo, h]
      have e2 : before t (k + 1) = before t k := by unfold before; rw [List.take_add_one, h]; simp
      rw [e1, e2]; exact ih
    · rw [cntTo_succ t k s h, before_succ t k s h, List.length_append]
      have := cnt_le s x
      split <;> omega
theorem below_grown {A B : World} (h : Below A.heap.size A B) : A.grownBy B none := ⟨h.os, h.tape, h.output, h.size, fun j hj _ => h.block j hj⟩
def FreeInC (n : Nat) : Prop := ∀ (t : Tm) (w : World), t.depth ≤ n → n ≤ 1000 → (parts t).length ≤ 1000 → t.good →
  Calls Try.prog 41 #[enc t] w fun e w' => ∃ b k, e = .returned (.map (some b)) ∧ w.heap.size ≤ b ∧ k ≤ (parts t).length ∧ Tally w' b k (cntF t) ∧ Below w.heap.size w w'

set_option maxRecDepth 100000 in
set_option maxHeartbeats 2000000 in
theorem freeIn_var (c : UInt8) (w : World) :
    Calls Try.prog 41 #[enc (.var c)] w fun e w' => ∃ b k, e = .returned (.map (some b)) ∧ w.heap.size ≤ b ∧ k ≤ (parts (.var c)).length ∧ Tally w' b k (cntF (.var c)) ∧ Below w.heap.size w w' := by
  have hmm := @run_makeMap Try.prog
  have a0 := ta_var (.var c)
  simp only [ty, pl, varV, isVar] at a0
  simp only [enc]
  go_enter Try.func41, Try.ntmps41
  go_wp2_with (first
    | (at_mapUpdate; refine wpList_update_tally rfl _ _ _ rfl rfl ((tally_made w).alloc _) c rfl 1 rfl (by decide) (by decide) (by decide) ?_; intro w2 ht2 hg2)
    | go_in)
  go_ret
  exact ⟨_, _, rfl, Nat.le_refl _, by simp [parts], ht2.congr (fun x => by simp [upd, cntF]), (((Below.refl _ w).alloc (Nat.le_refl _) _).alloc (by simp) _).grown hg2 (by simp; omega) (fun j hj => by cases hj; exact Nat.le_refl _)⟩

set_option maxRecDepth 100000 in
set_option maxHeartbeats 4000000 in
theorem freeIn_rest (n : Nat) (ih : FreeInC n) (t : Tm) (w : World) (ht : t.depth ≤ n + 1) (hn : n + 1 ≤ 1000) (hp : (parts t).length ≤ 1000) (hgd : t.good) (hv : isVar t = false) :
    Calls Try.prog 41 #[enc t] w fun e w' => ∃ b k, e = .returned (.map (some b)) ∧ w.heap.size ≤ b ∧ k ≤ (parts t).length ∧ Tally w' b k (cntF t) ∧ Below w.heap.size w w' := by
  have hmm := @run_makeMap Try.prog
  have a0 := ta_novar t hv
  have hkl : t.kids.length ≤ 3 := by cases t <;> simp [Tm.kids]
  have hkind : kindOf t ≠ 118 := by
    cases t with
    | var c => simp [isVar] at hv
    | op s l r => have := hgd.1; rcases this with h | h | h <;> subst h <;> simp [kindOf]
    | _ => simp [kindOf]
  have KB := boundBy_c t hgd
  rw [enc_ty t] at KB ⊢
  go_enter Try.func41, Try.ntmps41
  go_wp2_with (refine wpList_invoke rfl _ _ (ty t) (pl t) rfl rfl (kf t) (kids_m t _ (by unfold KidsName; kernel_rfl) _) (kids_f t _) (fun v w' => SliceOf ((w.alloc (.map #[] 0)).alloc (.cells #[.int .u8 0] 73)).heap.size w' v (t.kids.map enc) ∧ Below ((w.alloc (.map #[] 0)).alloc (.cells #[.int .u8 0] 73)).heap.size ((w.alloc (.map #[] 0)).alloc (.cells #[.int .u8 0] 73)) w') (kids_c t _) ?_; rintro x w1 ⟨hs, hb⟩; obtain ⟨a, rfl, hcell⟩ := hs.uni; clear hs; have HC := Lib.hid hcell; clear hcell)
  have hT0 : Tally w1 w.heap.size 0 (cntTo t 0) := ((tally_made w).alloc _).below hb
  have hB0 : Below w.heap.size w w1 := (((Below.refl _ w).alloc (Nat.le_refl _) _).alloc (by simp) _).trans (hb.mono (by simp; omega))
  have hsz0 : w.heap.size + 2 ≤ w1.heap.size := by have := hb.size; simp at this; omega
  clear hb
  obtain ⟨W1, hW1⟩ : ∃ W1, w1 = W1 := ⟨_, rfl⟩
  subst hW1
  go_loopw [27] (fun i wr => ∃ k nf : Nat, k ≤ t.kids.length ∧ i = .int .i64 k ∧ nf + 1 ≤ (before t k).length ∧ Tally wr w.heap.size nf (cntTo t k) ∧ w1.grownBy wr (some w.heap.size)) (fun i _ => t.kids.length - (intOf i).toNat)
  case atStart => exact ⟨0, 0, Nat.zero_le _, rfl, by simp [before], hT0, World.grownBy.refl _ _⟩
  case round =>
    obtain ⟨k, nf, hkl2, rfl, hnf, hT, hG⟩ := hrel
    have hsz1 : w.heap.size + 2 ≤ w1.heap.size := hsz0
    have hszr := hG.size
    by_cases hlt : k < t.kids.length
    · obtain ⟨s, hs⟩ : ∃ s, t.kids[k]? = some s := ⟨_, List.getElem?_eq_getElem hlt⟩
      obtain ⟨g, rfl, hg1, hg2, hc⟩ := HC.out k (enc s) (by simp [hs])
      have hc2 := hG.cell (a := ⟨g, k, none⟩) hc (by simp at hg1 ⊢; omega)
      have hmem := List.mem_of_getElem? hs
      have hps := parts_kid_le hmem
      have hbs := before_succ t k s hs
      have hbl := before_le t (k + 1)
      have hbe : (before t (k + 1)).length = (before t k).length + (parts s).length := by rw [hbs, List.length_append]
      have C := ih s wr (by have := kid_depth hmem; omega) (by omega) (by omega) (Tm.kid_good hgd hmem)
      have hcs := fun x => share_all t k s hs x
      have HS := Lib.hid hcs
      have hall : ∀ x, cntTo t k x + share t k s (bindsOf t).length x ≤ 1000000 := fun x => by
        rw [hcs x]
        have := cntTo_le t x (k + 1)
        omega
      have HA := Lib.hid hall
      have hbk : (before t k).length ≤ 1000 := by omega
      clear hs hc HC hbs hmem hcs hall
      by_cases hlast : k + 1 = t.kids.length
      · go_wp2_with (first
          | (go_at_call 41; refine C.mono ?_; clear C; rintro e w2 ⟨bw, nw, rfl, hbw, hnw, hTw, hb2⟩)
          | (go_at_call 58; refine (KB w2).mono ?_; rintro e w3 ⟨v, rfl, hsv, hb3⟩; obtain ⟨a3, rfl, hcell3⟩ := hsv.uni; have HC3 := Lib.hid hcell3; clear hcell3 hsv))
        have hl2 := hTw.lt
        have hg12 := (hG.andThen (below_grown hb2) (fun j hj => by cases hj)).andThen (below_grown hb3) (fun j hj => by cases hj)
        obtain ⟨W3, hW3⟩ : ∃ W3, w3 = W3 := ⟨_, rfl⟩
        subst hW3
        go_loopw [42] (fun i wj => ∃ j : Nat, j ≤ (bindsOf t).length ∧ i = .int .i64 j ∧ Tally wj bw nw (share t k s j) ∧ w3.grownBy wj (some bw)) (fun i _ => (bindsOf t).length - (intOf i).toNat)
        case atStart => exact ⟨0, Nat.zero_le _, rfl, (hTw.below hb3).congr (fun x => (share_zero t k s x).symm), World.grownBy.refl _ _⟩
        case round =>
          obtain ⟨j, hj, rfl, hTj, hGj⟩ := hrel
          by_cases hltj : j < (bindsOf t).length
          · have hb2l := binds_len t
            obtain ⟨c, hc⟩ : ∃ c, (bindsOf t)[j]? = some c := ⟨_, List.getElem?_eq_getElem hltj⟩
            obtain ⟨g3, rfl, hg31, hg32, hc3⟩ := HC3.out j (bv c) (by simp [hc])
            have hc4 := hGj.cell (a := ⟨g3, j, none⟩) hc3 (by simp; omega)
            have hsh := fun x => share_succ t k s hlast j c hc x
            have HH := Lib.hid hsh
            clear hsh hc hc3 HC3
            go_wp2_with (at_delete; refine wpList_delete_tally rfl _ _ rfl rfl hTj c rfl ?_; intro w4 hT4 hg4; go_frame)
            exact ⟨⟨j + 1, by omega, by go_num, hT4.congr HH.out, hGj.andThen hg4 (fun j hj => Or.inr hj)⟩, by simp [intOf]; omega⟩
          · obtain rfl : j = (bindsOf t).length := by simp at hj hltj; omega
            have hT3 := (((hT.below hb2).below hb3).kept hGj (by simp; omega))
            go_wp2_with (go_at_call 59; refine (add_c w.heap.size bw nf nw (cntTo t k) (share t k s (bindsOf t).length) _ hT3 hTj (by omega) (by omega) HA.out).mono ?_; rintro e w5 ⟨rfl, hT5, hg5⟩)
            refine ⟨⟨k + 1, nf + nw, by omega, by go_num, by omega, hT5.congr HS.out, (hg12.andThen hGj (fun j hj => by cases hj; exact Or.inl (by omega))).andThen hg5 (fun j hj => Or.inr hj)⟩, by simp [intOf]; omega⟩
      · go_wp2_with (first
          | (go_at_call 41; refine C.mono ?_; clear C; rintro e w2 ⟨bw, nw, rfl, hbw, hnw, hTw, hb2⟩)
          | (go_at_call 59; refine (add_c w.heap.size bw nf nw (cntTo t k) (share t k s (bindsOf t).length) w2 (hT.below hb2) (hTw.congr (fun x => (share_not t k s hlast _ x).symm)) (by omega) (by omega) HA.out).mono ?_; rintro e w5 ⟨rfl, hT5, hg5⟩))
        refine ⟨⟨k + 1, nf + nw, by omega, by go_num, by omega, hT5.congr HS.out, (hG.andThen (below_grown hb2) (fun j hj => by cases hj)).andThen hg5 (fun j hj => Or.inr hj)⟩, by simp [intOf]; omega⟩
    · obtain rfl : k = t.kids.length := by omega
      have hk := hnf
      rw [before_all] at hk
      go_wp2_with fail
      go_ret
      exact ⟨_, nf, rfl, Nat.le_refl _, by omega, hT.congr (fun x => (cnt_kids t hkind x).symm), hB0.grown hG hB0.size (fun j hj => by cases hj; exact Nat.le_refl _)⟩
theorem freeIn_c : ∀ n, FreeInC n
  | 0 => fun t _ ht => absurd ht (by have := t.depth_pos; omega)
  | n + 1 => by
    intro t w ht hn hp hgd
    cases hv : isVar t with
    | true =>
      cases t with
      | var c => exact freeIn_var c w
      | _ => simp [isVar] at hv
    | false => exact freeIn_rest n (freeIn_c n) t w ht hn hp hgd hv
end Go.Proofs.Ytjeaadgfjnmfcaa
