import Derived.Test.YtefmmgccdpfnaaaGreatDoorMPt
import Derived.Test.YtefmmgccdpfnaaaGreatDoorMUq
import Derived.Lib.AppendIntMem
/- The program's small functions of putting: rows of names and kids, a part that is made anew. -/
namespace Go.Proofs.YtefmmgccdpfnaaaGreatDoor
open Go.RowKit
open Ff
set_option linter.unusedVariables false
attribute [local go_sem] Oper.semAt_some

/-- A slice whose first cells hold the values l. -/
def RowAt (w : World) (a : Option Addr) (l : List Value) : Prop := ∀ i x, l[i]? = some x → ∃ g, a = some ⟨g, 0, none⟩ ∧ g < w.heap.size ∧ w.cell? ⟨g, i, none⟩ = some x
theorem SliceOf.row {B : Nat} {w : World} {v : Value} {l : List Value} (h : SliceOf B w v l) : ∃ a, v = .slice a l.length l.length ∧ RowAt w a l := by
  obtain ⟨a, e, h⟩ := h.uni
  exact ⟨a, e, fun i x hx => by obtain ⟨g, h1, h2, h3, h4⟩ := h i x hx; exact ⟨g, h1, h3, h4⟩⟩
theorem RowAt.keep {w w' : World} {a : Option Addr} {l : List Value} (h : RowAt w a l) (hb : Below w.heap.size w w') : RowAt w' a l := fun i x hx => by
  obtain ⟨g, h1, h2, h3⟩ := h i x hx
  exact ⟨g, h1, by have := hb.size; omega, (hb.cell (p := ⟨g, i, none⟩) h2).trans h3⟩
theorem bv_eq (c d : UInt8) : ((c.toNat : Int) == (d.toNat : Int)) = decide (c = d) := by
  by_cases h : c = d
  · subst h; simp
  · have : (c.toNat : Int) ≠ d.toNat := fun e => h (UInt8.toNat_inj.1 (by omega))
    simp [h, this]
theorem findI_take {s : Text} {c : UInt8} (h : c ∉ s) : findI c s = -1 := findI_none h

set_option maxRecDepth 100000 in
set_option maxHeartbeats 2000000 in
theorem indexB_c (ns : Text) (c : UInt8) (a : Option Addr) (cap : Nat) (w : World) (hlen : ns.length ≤ 1000) (hrow : RowAt w a (ns.map bv)) :
    Calls Tryz.prog 144 #[.slice a ns.length cap, bv c] w fun e w' => e = .returned (.int .i64 (findI c ns)) ∧ w' = w := by
  have HA := Lib.hid hrow
  clear hrow
  go_enter Tryz.func144, Tryz.ntmps144
  go_wp2_with fail
  go_loopw [8] (fun ix wr => ∃ i : Nat, i ≤ ns.length ∧ ix = .int .i64 i ∧ c ∉ ns.take i ∧ wr = w) (fun ix _ => ns.length - (intOf ix).toNat)
  case atStart => exact ⟨0, Nat.zero_le _, rfl, by simp, rfl⟩
  case round =>
    obtain ⟨i, hi, rfl, hn, rfl⟩ := hrel
    have HN := Lib.hid hn
    clear hn
    by_cases hlt : i < ns.length
    · obtain ⟨x, hx⟩ : ∃ x, ns[i]? = some x := ⟨_, List.getElem?_eq_getElem hlt⟩
      obtain ⟨g, rfl, hg, hc⟩ := HA.out i (bv x) (by simp [hx])
      have HX := Lib.hid hx
      clear hx
      by_cases hk : c = x
      · subst hk
        go_wp2_with fail
        go_ret
        exact ⟨by rw [findI_at HX.out HN.out]; rfl, rfl⟩
      · have hk2 : ((c.toNat : Int) == (x.toNat : Int)) = false := by rw [bv_eq]; simp [hk]
        go_wp2_with fail
        refine ⟨⟨i + 1, by omega, by go_num, ?_, trivial⟩, by simp [intOf]; omega⟩
        rw [List.take_add_one, HX.out]
        simp only [Option.toList_some, List.mem_append, List.mem_singleton, not_or]
        exact ⟨HN.out, hk⟩
    · obtain rfl : i = ns.length := by omega
      go_wp2_with fail
      go_ret
      have hn := HN.out
      rw [List.take_length] at hn
      exact ⟨by rw [findI_none hn]; rfl, rfl⟩
set_option maxHeartbeats 1000000 in
theorem containsB_c (ns : Text) (c : UInt8) (a : Option Addr) (cap : Nat) (w : World) (hlen : ns.length ≤ 1000) (hrow : RowAt w a (ns.map bv)) :
    Calls Tryz.prog 140 #[.slice a ns.length cap, bv c] w fun e w' => e = .returned (.bool (decide (c ∈ ns))) ∧ w' = w := by
  have D := indexB_c ns c a cap w hlen hrow
  have hm : decide (0 ≤ findI c ns) = decide (c ∈ ns) := by
    rw [decide_eq_decide]
    have := findI_mem c ns
    constructor
    · intro h; apply Classical.byContradiction; intro hn; have := this.2 hn; omega
    · intro h; apply Classical.byContradiction; intro hn; exact (this.1 (by omega)) h
  rw [← hm]
  generalize findI c ns = z at D
  go_enter Tryz.func140, Tryz.ntmps140
  go_wp2_with fail
  refine D.mono ?_
  rintro e w2 ⟨rfl, rfl⟩
  go_wp2_with fail
  go_ret
  exact ⟨rfl, rfl⟩
set_option maxHeartbeats 1000000 in
theorem itself_c (t : Tm) (w : World) : Calls Tryz.prog 69 #[enc t] w fun e w' => e = .returned (enc t) ∧ w' = w := by
  obtain ⟨n, v, hv⟩ := enc_gen t
  rw [hv]
  go_enter Tryz.func69, Tryz.ntmps69
  go_wp2_with fail
  go_ret
  exact ⟨rfl, rfl⟩
/-- The last of the kids. -/
def lastK (t : Tm) : Tm := (t.kids.getLast?).getD t
set_option maxRecDepth 100000 in
set_option maxHeartbeats 2000000 in
theorem bodyOf_c (t : Tm) (hk : t.kids ≠ []) (w : World) : Calls Tryz.prog 145 #[enc t] w fun e w' => e = .returned (enc (lastK t)) ∧ Below w.heap.size w w' := by
  have hk0 : 0 < t.kids.length := List.length_pos_iff.2 hk
  have hk3 : t.kids.length ≤ 3 := by cases t <;> simp [Tm.kids]
  have hl : t.kids[t.kids.length - 1]? = some (lastK t) := by
    unfold lastK
    rw [List.getLast?_eq_getElem?]
    obtain ⟨x, hx⟩ : ∃ x, t.kids[t.kids.length - 1]? = some x := ⟨_, List.getElem?_eq_getElem (by omega)⟩
    rw [hx]; rfl
  rw [enc_ty t]
  go_enter Tryz.func145, Tryz.ntmps145
  go_wp2_with (refine wpList_invoke rfl _ _ (ty t) (pl t) rfl rfl (kf t) (kids_m t _ (by unfold KidsName; kernel_rfl) _) (kids_f t _) (fun v w' => SliceOf w.heap.size w' v (t.kids.map enc) ∧ Below w.heap.size w w') (kids_c t _) ?_; rintro x w1 ⟨hs, hb⟩; obtain ⟨a, rfl, hcell⟩ := hs.uni; clear hs; obtain ⟨g, rfl, hg1, hg2, hc⟩ := hcell (t.kids.length - 1) (enc (lastK t)) (by simp [hl]); clear hcell hl hk)
  obtain ⟨m, hm⟩ : ∃ m, t.kids.length = m + 1 := ⟨t.kids.length - 1, by omega⟩
  have e1 : (((t.kids.map enc).length : Nat) : Int) - 1 = ((m : Nat) : Int) := by simp [hm]
  simp only [List.length_map, hm, Nat.add_sub_cancel] at hc e1 ⊢
  rw [enc_ty (lastK t)] at hc ⊢
  go_wp2_with fail
  go_ret
  exact ⟨rfl, hb⟩
end Go.Proofs.YtefmmgccdpfnaaaGreatDoor
