/- The program's names that a term binds; adding tallies; the names of a tally in order. -/
import Derived.Test.YtjeaadgfjnmfcaaTal
import Derived.Test.YtjeaadgfjnmfcaaVal
namespace Go.Proofs.Ytjeaadgfjnmfcaa
open Go.RowKit
open Ff
set_option linter.unusedVariables false

def isLet : Tm → Bool
  | .bind _ _ _ => true | _ => false
def letV : Tm → Value
  | .bind c v b => pl (.bind c v b) | _ => .agg #[.int .u8 0, .nilIface, .nilIface]
theorem ta_let (t : Tm) (w : World) : (Instr.typeAssert (.iface (ty t) (pl t)) 44 99 true).run Try.prog w = .ok (.tuple #[letV t, .bool (isLet t)]) w := by
  cases t <;> kernel_rfl
/-- A name as a value. -/
abbrev bv (c : UInt8) : Value := .int .u8 (c.toNat : Int)

set_option maxHeartbeats 1000000 in
theorem boundBy_none (t : Tm) (h1 : isFun t = false) (h2 : isLet t = false) (w : World) :
    Calls Try.prog 58 #[enc t] w fun e w' => e = .returned (.slice none 0 0) ∧ w' = w := by
  have a1 := ta_fun t
  have a2 := ta_let t
  rw [h1] at a1
  rw [h2] at a2
  rw [enc_ty t]
  clear h1 h2
  go_enter Try.func58, Try.ntmps58
  go_wp2_with fail
  go_ret
  exact ⟨rfl, rfl⟩
set_option maxHeartbeats 1000000 in
theorem boundBy_fn (c : UInt8) (b : Tm) (w : World) :
    Calls Try.prog 58 #[enc (.fn c b)] w fun e w' => ∃ o, e = .returned (.slice (some ⟨w.heap.size + 1, 0, none⟩) 1 1) ∧ w' = (w.alloc o).alloc (.cells [bv c].toArray 5) := by
  have a1 := ta_fun (.fn c b)
  obtain ⟨n, v, hv⟩ := enc_gen b
  simp only [ty, pl, funV, isFun, hv] at a1
  simp only [enc, hv]
  go_enter Try.func58, Try.ntmps58
  go_wp2_with fail
  go_ret
  exact ⟨_, rfl, rfl⟩
set_option maxHeartbeats 1000000 in
theorem boundBy_fix (f c : UInt8) (b : Tm) (hf : f.toNat ≠ 0) (w : World) :
    Calls Try.prog 58 #[enc (.fix f c b)] w fun e w' => ∃ o, e = .returned (.slice (some ⟨w.heap.size + 1, 0, none⟩) 2 2) ∧ w' = (w.alloc o).alloc (.cells [bv f, bv c].toArray 5) := by
  have a1 := ta_fun (.fix f c b)
  obtain ⟨n, v, hv⟩ := enc_gen b
  simp only [ty, pl, funV, isFun, hv] at a1
  simp only [enc, hv]
  have b1 : ((f.toNat : Int) == 0) = false := by simp; omega
  go_enter Try.func58, Try.ntmps58
  go_wp2_with fail
  go_ret
  exact ⟨_, rfl, rfl⟩
set_option maxHeartbeats 1000000 in
theorem boundBy_bind (c : UInt8) (x b : Tm) (w : World) :
    Calls Try.prog 58 #[enc (.bind c x b)] w fun e w' => ∃ o, e = .returned (.slice (some ⟨w.heap.size + 1, 0, none⟩) 1 1) ∧ w' = (w.alloc o).alloc (.cells [bv c].toArray 5) := by
  have a1 := ta_fun (.bind c x b)
  have a2 := ta_let (.bind c x b)
  obtain ⟨n, v, hv⟩ := enc_gen b
  obtain ⟨n2, v2, hv2⟩ := enc_gen x
  simp only [ty, pl, funV, isFun, hv, hv2] at a1
  simp only [ty, pl, letV, isLet, hv, hv2] at a2
  simp only [enc, hv, hv2]
  go_enter Try.func58, Try.ntmps58
  go_wp2_with fail
  go_ret
  exact ⟨_, rfl, rfl⟩
theorem boundBy_c (t : Tm) (hgd : t.good) (w : World) :
    Calls Try.prog 58 #[enc t] w fun e w' => ∃ v, e = .returned v ∧ SliceOf w.heap.size w' v ((bindsOf t).map bv) ∧ Below w.heap.size w w' := by
  have none : ∀ s : Tm, isFun s = false → isLet s = false → bindsOf s = [] → Calls Try.prog 58 #[enc s] w fun e w' => ∃ v, e = .returned v ∧ SliceOf w.heap.size w' v ((bindsOf s).map bv) ∧ Below w.heap.size w w' := fun s h1 h2 h3 =>
    (boundBy_none s h1 h2 w).mono (by rintro e w' ⟨rfl, rfl⟩; exact ⟨_, rfl, .inl ⟨by rw [h3]; rfl, rfl⟩, Below.refl _ _⟩)
  cases t with
  | fn c b => exact (boundBy_fn c b w).mono (by rintro e w' ⟨o, rfl, rfl⟩; exact ⟨_, rfl, slice_new w o [bv c] _ (by simp), below_two w _ _⟩)
  | fix f c b =>
    have hf : f.toNat ≠ 0 := by
      have := hgd.1
      simp only [isNam, Bool.and_eq_true, decide_eq_true_eq] at this
      omega
    exact (boundBy_fix f c b hf w).mono (by rintro e w' ⟨o, rfl, rfl⟩; exact ⟨_, rfl, slice_new w o [bv f, bv c] _ (by simp), below_two w _ _⟩)
  | bind c x b => exact (boundBy_bind c x b w).mono (by rintro e w' ⟨o, rfl, rfl⟩; exact ⟨_, rfl, slice_new w o [bv c] _ (by simp), below_two w _ _⟩)
  | _ => exact none _ rfl rfl rfl

set_option maxRecDepth 100000 in
set_option maxHeartbeats 2000000 in
theorem add_c (b bm n0 nm : Nat) (m0 mm : UInt8 → Nat) (w : World) (hb : Tally w b n0 m0) (hbm : Tally w bm nm mm) (hne : b ≠ bm) (hn : n0 + nm ≤ 1000000) (hs : ∀ c, m0 c + mm c ≤ 1000000) :
    Calls Try.prog 59 #[.map (some b), .map (some bm)] w fun e w' => e = .returned (.tuple #[]) ∧ Tally w' b (n0 + nm) (fun c => m0 c + mm c) ∧ w.grownBy w' (some b) := by
  have hbl := hb.lt
  go_enter Try.func59, Try.ntmps59
  go_wp2_with (first
    | (at_range; refine wpList_range_tally rfl _ rfl rfl hbm ?_; intro w0 cnt0 hu0 hc0 hg0 hs0)
    | go_in)
  go_frame
  go_loopw [4] (fun _ wr => ∃ left cnt n', Under wr bm w.heap.size nm mm left cnt ∧ Tally wr b n' (fun c => m0 c + if left c = true then 0 else mm c) ∧ n' + cnt ≤ n0 + nm ∧ w.grownBy wr (some b))
    (fun _ wr => wr.rangeLeft bm w.heap.size)
  case atStart =>
    refine ⟨_, cnt0, n0, hu0, (hb.kept hg0 (by simp)).congr (fun c => ?_), by omega, hg0.but _⟩
    by_cases e : mm c = 0
    · simp [e]
    · simp [e]
  case round =>
    obtain ⟨left, cnt, n', hu, ht, hnc, hgr⟩ := hrel
    go_wp2_with (first
      | (at_next; refine wpList_next_tally rfl _ rfl rfl hu ?_ ?_)
      | go_in)
    · intro hl0
      go_wp2
      go_end0
      exact ⟨rfl, (ht.mono (by omega)).congr (fun c => by simp [hl0 c]), hgr⟩
    · intro c w1 cnt1 hlc hmc hu1 hlt hg1 hs1 hen
      have hul := hu.lt
      have hsz := hgr.size
      have ht1 := ht.kept hg1 (fun e => by have := Option.some.inj e; omega)
      have hv : m0 c + (if left c = true then 0 else mm c) = m0 c := by simp [hlc]
      have hsc := hs c
      go_wp2_with (first
        | (at_lookup; refine wpList_lookup_tally rfl _ _ rfl rfl ht1 c rfl ?_; rw [hv])
        | (at_mapUpdate; refine wpList_update_tally rfl _ _ _ rfl rfl ht1 c rfl (m0 c + mm c) (by go_num) (by unfold maxLen; omega) (by omega) (by omega) ?_; intro w2 ht2 hg2; go_frame)
        | go_in)
      have hu2 := hu1.kept hg2 (fun e => hne (Option.some.inj e).symm) (fun e => by have := Option.some.inj e; omega)
      go_roundw
      case rel =>
        refine ⟨_, cnt1, n' + 1, hu2, ht2.congr (fun x => ?_), by omega, (hgr.andThen hg1 (fun j hj => by cases hj; exact .inl (Nat.le_refl _))).andThen hg2 (fun j hj => Or.inr (hj ▸ rfl))⟩
        by_cases e : x = c
        · subst e; simp [upd]
        · simp [upd, e]
      case measure => rw [hu2.left_eq, hu.left_eq]; exact hlt
end Go.Proofs.Ytjeaadgfjnmfcaa
