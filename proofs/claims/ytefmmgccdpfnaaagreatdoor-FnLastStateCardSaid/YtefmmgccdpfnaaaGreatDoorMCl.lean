import Derived.Test.YtefmmgccdpfnaaaGreatDoorMCt
import Derived.Deep.RegionHeld3
import Derived.Test.YtefmmgccdpfnaaaGreatDoorMYi
import Derived.RangeFuncWrites
/- The specification's l1Count: how often a name stands free. -/
namespace Go.Proofs.YtefmmgccdpfnaaaGreatDoor
open Go.RowKit
open Ff
set_option linter.unusedVariables false

def CountC (n : Nat) : Prop := ∀ (t : Tm) (c : UInt8) (B : Nat) (v : Value) (w : World), t.depth ≤ n → n ≤ 4000 → (parts t).length ≤ 100000000 → Rep (fun g => g < B) w t v → B ≤ w.heap.size → t.good →
  Calls Tryz.prog 132 #[v, .string ⟨([c] : Text).toArray⟩] w fun e w' => e = .returned (.int .i64 (cntF t c : Int)) ∧ Below w.heap.size w w'
theorem binds_names (t : Tm) (h : kindOf t ≠ 118) : bindsOf t = namesOf t := by
  cases t with
  | var c => simp [kindOf] at h
  | _ => rfl
theorem cntTo_le0 (t : Tm) (x : UInt8) : ∀ k, cntTo t k x + 1 ≤ (before t k).length
  | 0 => by simp [cntTo, before]
  | k + 1 => by
    have ih := cntTo_le0 t x k
    rcases h : t.kids[k]? with _ | s
    · have e1 : cntTo t (k + 1) x = cntTo t k x := by simp [cntTo, h]
      have e2 : before t (k + 1) = before t k := by unfold before; rw [List.take_add_one, h]; simp
      rw [e1, e2]; exact ih
    · rw [cntTo_succ t k s h, before_succ t k s h, List.length_append]
      have := cnt_le s x
      split <;> omega
theorem names_len (t : Tm) : (namesOf t).length ≤ 2 := by cases t <;> simp [namesOf]

set_option maxRecDepth 100000 in
set_option maxHeartbeats 2000000 in
theorem count_var (d c : UInt8) (B : Nat) (v : Value) (w : World) (hrep : Rep (fun g => g < B) w (.var d) v) :
    Calls Tryz.prog 132 #[v, .string ⟨([c] : Text).toArray⟩] w fun e w' => e = .returned (.int .i64 (cntF (.var d) c : Int)) ∧ Below w.heap.size w w' := by
  cases hrep with
  | mk _ g cap cs hg hc hk =>
  clear hc hk
  unfold tmHead
  show Calls Tryz.prog 132 #[.agg #[.int .u8 118, .int .i64 0, .string ⟨([d] : Text).toArray⟩, .slice (some ⟨g, 0, none⟩) 0 cap], .string ⟨([c] : Text).toArray⟩] w _
  go_enter Tryz.func132, Tryz.ntmps132
  go_wp2_with fail
  have q0 := cell_new w [.int .u8 118, .int .i64 0, .string ⟨([d] : Text).toArray⟩, .slice (some ⟨g, 0, none⟩) 0 cap] 54 0
  have q2 := cell_new w [.int .u8 118, .int .i64 0, .string ⟨([d] : Text).toArray⟩, .slice (some ⟨g, 0, none⟩) 0 cap] 54 2
  have q3 := cell_new w [.int .u8 118, .int .i64 0, .string ⟨([d] : Text).toArray⟩, .slice (some ⟨g, 0, none⟩) 0 cap] 54 3
  have qB := (Below.refl w.heap.size w).alloc (Nat.le_refl _) (.cells #[.int .u8 118, .int .i64 0, .string ⟨([d] : Text).toArray⟩, .slice (some ⟨g, 0, none⟩) 0 cap] 54)
  have qs : w.heap.size < (w.alloc (.cells #[.int .u8 118, .int .i64 0, .string ⟨([d] : Text).toArray⟩, .slice (some ⟨g, 0, none⟩) 0 cap] 54)).heap.size := by simp
  simp only [List.getElem?_cons_succ, List.getElem?_cons_zero] at q0 q2 q3
  change (w.alloc (.cells #[.int .u8 118, .int .i64 0, .string ⟨([d] : Text).toArray⟩, .slice (some ⟨g, 0, none⟩) 0 cap] 54)).cell? _ = _ at q0 q2 q3
  generalize w.alloc (.cells #[.int .u8 118, .int .i64 0, .string ⟨([d] : Text).toArray⟩, .slice (some ⟨g, 0, none⟩) 0 cap] 54) = W1 at q0 q2 q3 qB qs ⊢
  go_region
  have r0 : W1.drew.cell? ⟨w.heap.size, 0, none⟩ = some (.int .u8 118) := q0
  have r2 : W1.drew.cell? ⟨w.heap.size, 2, none⟩ = some (.string ⟨([d] : Text).toArray⟩) := q2
  have r3 : W1.drew.cell? ⟨w.heap.size, 3, none⟩ = some (.slice (some ⟨g, 0, none⟩) 0 cap) := q3
  have rB := qB.drew
  have rs : w.heap.size < W1.drew.heap.size := qs
  clear q0 q2 q3 qB qs
  generalize W1.drew = W2 at *
  by_cases e : c = d
  · subst e
    go_wp2_with fail
    go_ret
    exact ⟨by simp [cntF], rB⟩
  · have hs : (d == c) = false := by
      rw [Bool.eq_false_iff]
      intro h
      exact e (by simpa using h : d = c).symm
    go_wp2_with fail
    refine wp_loop_rounds 1 ?_
    rw [rounds_succ]
    go_wp2_with fail
    go_ret
    exact ⟨by simp [cntF, e], rB⟩
set_option maxRecDepth 100000 in
set_option maxHeartbeats 4000000 in
theorem count_rest (n : Nat) (ih : CountC n) (t : Tm) (c : UInt8) (B : Nat) (v : Value) (w : World) (ht : t.depth ≤ n + 1) (hn : n + 1 ≤ 4000) (hp : (parts t).length ≤ 100000000) (hrep : Rep (fun g => g < B) w t v) (hB : B ≤ w.heap.size) (hgd : t.good) (h1 : kindOf t ≠ 118) :
    Calls Tryz.prog 132 #[v, .string ⟨([c] : Text).toArray⟩] w fun e w' => e = .returned (.int .i64 (cntF t c : Int)) ∧ Below w.heap.size w w' := by
  cases hrep with
  | mk _ g cap cs hg hc hk =>
  have hkl : t.kids.length ≤ 3 := by cases t <;> simp [Tm.kids]
  have HC := Lib.hid hc
  have HK := Lib.hid hk
  clear hc hk
  have hnl := names_len t
  have F : ∀ w', Calls Tryz.prog 118 #[.string ⟨(namesOf t).toArray⟩, .int .u8 (c.toNat : Int)] w' fun e w'' => e = .returned (.int .i64 (findI c (namesOf t))) ∧ w'' = w' := fun w' => find_c (namesOf t) c w' (by omega)
  unfold tmHead
  have k1 : ¬ ((kindOf t : Int) = 118) := by omega
  obtain ⟨kd, hkd⟩ : ∃ kd, (kindOf t : Int) = kd := ⟨_, rfl⟩
  rw [hkd] at k1 ⊢
  have HKD := Lib.hid hkd
  clear hkd
  have b1 : (kd == 118) = false := by simp [k1]
  have b0 : (kd != 118) = true := by simp [k1]
  go_enter Tryz.func132, Tryz.ntmps132
  go_wp2_with fail
  have q0 := cell_new w [.int .u8 kd, .int .i64 (numOf t : Int), .string ⟨(namesOf t).toArray⟩, .slice (some ⟨g, 0, none⟩) t.kids.length cap] 54 0
  have q2 := cell_new w [.int .u8 kd, .int .i64 (numOf t : Int), .string ⟨(namesOf t).toArray⟩, .slice (some ⟨g, 0, none⟩) t.kids.length cap] 54 2
  have q3 := cell_new w [.int .u8 kd, .int .i64 (numOf t : Int), .string ⟨(namesOf t).toArray⟩, .slice (some ⟨g, 0, none⟩) t.kids.length cap] 54 3
  have qB := (Below.refl w.heap.size w).alloc (Nat.le_refl _) (.cells #[.int .u8 kd, .int .i64 (numOf t : Int), .string ⟨(namesOf t).toArray⟩, .slice (some ⟨g, 0, none⟩) t.kids.length cap] 54)
  have qs : w.heap.size < (w.alloc (.cells #[.int .u8 kd, .int .i64 (numOf t : Int), .string ⟨(namesOf t).toArray⟩, .slice (some ⟨g, 0, none⟩) t.kids.length cap] 54)).heap.size := by simp
  simp only [List.getElem?_cons_succ, List.getElem?_cons_zero] at q0 q2 q3
  change (w.alloc (.cells #[.int .u8 kd, .int .i64 (numOf t : Int), .string ⟨(namesOf t).toArray⟩, .slice (some ⟨g, 0, none⟩) t.kids.length cap] 54)).cell? _ = _ at q0 q2 q3
  generalize w.alloc (.cells #[.int .u8 kd, .int .i64 (numOf t : Int), .string ⟨(namesOf t).toArray⟩, .slice (some ⟨g, 0, none⟩) t.kids.length cap] 54) = W1 at q0 q2 q3 qB qs ⊢
  have qd := qB.drew
  go_region_held3 (fun w' => w'.cell? ⟨w.heap.size, 0, none⟩ = some (.int .u8 kd) ∧ w'.cell? ⟨w.heap.size, 2, none⟩ = some (.string ⟨(namesOf t).toArray⟩) ∧ w'.cell? ⟨w.heap.size, 3, none⟩ = some (.slice (some ⟨g, 0, none⟩) t.kids.length cap) ∧ Below w.heap.size w w' ∧ w.heap.size < w'.heap.size)
    (first | go_keep | refine ⟨?_, ?_, ?_, ?_, ?_⟩ <;> assumption)
    (first | (go_at_call 118; refine (F _).mono ?_; rintro e w2 ⟨rfl, rfl⟩))
  have r0 : W1.drew.cell? ⟨w.heap.size, 0, none⟩ = some (.int .u8 kd) := q0
  have r2 : W1.drew.cell? ⟨w.heap.size, 2, none⟩ = some (.string ⟨(namesOf t).toArray⟩) := q2
  have r3 : W1.drew.cell? ⟨w.heap.size, 3, none⟩ = some (.slice (some ⟨g, 0, none⟩) t.kids.length cap) := q3
  have rB := qB.drew
  have rs : w.heap.size < W1.drew.heap.size := qs
  clear q0 q2 q3 qB qs
  generalize W1.drew = W2 at *
  by_cases hm : c ∈ namesOf t
  · have f0 : 0 ≤ findI c (namesOf t) := by
      have := findI_mem c (namesOf t)
      apply Classical.byContradiction
      intro h
      exact this.1 (by omega) hm
    have f1 : decide (0 ≤ findI c (namesOf t)) = true := by simp [f0]
    rw [f1]
    by_cases h61 : kd = 61
    · subst h61
      have hk := HKD.out
      cases t with
      | bind x u b =>
        have hr := HK.out 0 u rfl
        obtain ⟨x0, y0, st, aa, l, cc, he⟩ := hr.junk
        have hr2 : Rep (fun g => g < B) w u (.agg #[.int .u8 x0, .int .i64 y0, .string st, .slice aa l cc]) := by rw [← he]; exact hr
        unfold four at he
        simp only [Value.agg.injEq, Array.mk.injEq, List.cons.injEq, and_true, Nat.mul_zero, Nat.zero_add] at he
        obtain ⟨i0, i1, i2, i3⟩ := he
        have hce : ∀ j, j < 4 → W2.cell? ⟨g, j, none⟩ = some (cs j) := fun j hj => (rB.cell (p := ⟨g, j, none⟩) (by show g < w.heap.size; omega)).trans (HC.out j (by simp [Tm.kids]; omega))
        have e0 := hce 0 (by omega)
        have e1 := hce 1 (by omega)
        have e2 := hce 2 (by omega)
        have e3 := hce 3 (by omega)
        rw [i0] at e0
        rw [i1] at e1
        rw [i2] at e2
        rw [i3] at e3
        have C := ih u c B _ W2 (by simp [Tm.depth] at ht; omega) (by omega) (by simp [parts] at hp; omega) (hr2.keep (fun g' hg' => rB.block g' (by omega)) (fun g' hg' => hg')) (by omega) hgd.2.1
        clear hce i0 i1 i2 i3 hr hr2 HC HK hk ih
        go_wp2_with (go_at_call 132; refine C.mono ?_; clear C; rintro e w2 ⟨rfl, hb2⟩)
        go_ret
        simp only [namesOf] at hm
        exact ⟨by simp [cntF, hm], rB.trans (hb2.mono rB.size)⟩
      | op o u b => simp only [kindOf] at hk; simp [namesOf] at hm
      | _ => simp [kindOf] at hk
    · have b61 : (kd == 61) = false := by simp [h61]
      go_wp2_with fail
      go_ret
      refine ⟨?_, rB⟩
      have hk := HKD.out
      cases t with
      | fn x b => simp [namesOf] at hm; simp [cntF, hm]
      | fix f x b => simp [namesOf] at hm; simp [cntF, hm]
      | bind x u b => simp [kindOf] at hk; omega
      | var x => simp [kindOf] at h1
      | _ => simp [namesOf] at hm
  · have f0 : findI c (namesOf t) < 0 := (findI_mem c (namesOf t)).2 hm
    have f1 : decide (0 ≤ findI c (namesOf t)) = false := by simp; omega
    rw [f1]
    have hbn := binds_names t h1
    have HB := Lib.hid hbn
    clear hbn F f0
    rcases Classical.em (kd = 61) with rfl | h61
    all_goals
      try (have b61 : (kd == 61) = false := by simp [h61])
      go_wp2_with fail
      go_loopw [6, 48] (fun o i wr => ∃ k : Nat, k ≤ t.kids.length ∧ i = .int .i64 k ∧ o = .int .i64 (cntTo t k c : Int) ∧ Below w.heap.size w wr) (fun _ i _ => t.kids.length - (intOf i).toNat)
      case atStart => exact ⟨0, Nat.zero_le _, rfl, rfl, rB⟩
      case round =>
        obtain ⟨k, hkl2, rfl, rfl, hBl⟩ := hrel
        have hct := cntTo_le0 t c k
        by_cases hlt : k < t.kids.length
        · obtain ⟨s, hs⟩ : ∃ s, t.kids[k]? = some s := ⟨_, List.getElem?_eq_getElem hlt⟩
          have hr := HK.out k s hs
          obtain ⟨x, y, st, aa, l, cc, he⟩ := hr.junk
          have hcells : ∀ j, j < 4 → wr.cell? ⟨g, 4 * k + j, none⟩ = some (cs (4 * k + j)) := fun j hj => (hBl.cell (p := ⟨g, 4 * k + j, none⟩) (by show g < w.heap.size; omega)).trans (HC.out (4 * k + j) (by omega))
          have hr2 : Rep (fun g => g < B) w s (.agg #[.int .u8 x, .int .i64 y, .string st, .slice aa l cc]) := by rw [← he]; exact hr
          unfold four at he
          simp only [Value.agg.injEq, Array.mk.injEq, List.cons.injEq, and_true] at he
          obtain ⟨i0, i1, i2, i3⟩ := he
          have e0 : wr.cell? ⟨g, k * 4, none⟩ = some (.int .u8 x) := by rw [← i0]; have := hcells 0 (by omega); rwa [Nat.mul_comm k 4]
          have e1 : wr.cell? ⟨g, k * 4 + 1, none⟩ = some (.int .i64 y) := by rw [← i1]; have := hcells 1 (by omega); rwa [Nat.mul_comm k 4]
          have e2 : wr.cell? ⟨g, k * 4 + 2, none⟩ = some (.string st) := by rw [← i2]; have := hcells 2 (by omega); rwa [Nat.mul_comm k 4]
          have e3 : wr.cell? ⟨g, k * 4 + 3, none⟩ = some (.slice aa l cc) := by rw [← i3]; have := hcells 3 (by omega); rwa [Nat.mul_comm k 4]
          have hmem := List.mem_of_getElem? hs
          have hps := parts_kid_le hmem
          have hsc := cnt_le s c
          have hsucc := cntTo_succ t k s hs c
          rw [if_neg (by rw [HB.out]; exact fun h => hm h.2)] at hsucc
          have hsum : cntTo t k c + cntF s c ≤ 100000000 := by
            have := cntTo_le0 t c (k + 1)
            have := before_le t (k + 1)
            omega
          have HS := Lib.hid hsucc
          have hsz := hBl.size
          have hw2 : Below w.heap.size w (wr.alloc (.cells #[.int .u8 x, .int .i64 y, .string st, .slice aa l cc] 54)) := hBl.alloc hsz _
          have C := ih s c B (.agg #[.int .u8 x, .int .i64 y, .string st, .slice aa l cc]) (wr.alloc (.cells #[.int .u8 x, .int .i64 y, .string st, .slice aa l cc] 54)) (by have := kid_depth hmem; omega) (by omega) (by omega) (hr2.keep (fun g' hg' => hw2.block g' (by omega)) (fun g' hg' => hg')) (by simp; omega) (Tm.kid_good hgd hmem)
          clear hcells i0 i1 i2 i3 hs hr hr2 HC HK hmem hsucc
          go_wp2_with (go_at_call 132; refine C.mono ?_; clear C; rintro e w2 ⟨rfl, hb2⟩)
          refine ⟨⟨k + 1, by omega, by go_num, ?_, hw2.trans (hb2.mono (by simp; omega))⟩, by simp [intOf]; omega⟩
          rw [HS.out]
          go_num
        · obtain rfl : k = t.kids.length := by omega
          go_wp2_with fail
          go_ret
          exact ⟨by rw [cnt_kids t h1]; rfl, hBl⟩
theorem count_c : ∀ n, CountC n
  | 0 => fun t _ _ _ _ ht => absurd ht (by have := t.depth_pos; omega)
  | n + 1 => by
    intro t c B v w ht hn hp hrep hB hgd
    by_cases h1 : kindOf t = 118
    · cases t with
      | var d => exact count_var d c B v w hrep
      | op s l r => exact count_rest n (count_c n) _ c B v w ht hn hp hrep hB hgd (by rcases hgd.1 with h | h | h <;> subst h <;> simp [kindOf])
      | _ => simp [kindOf] at h1
    · exact count_rest n (count_c n) t c B v w ht hn hp hrep hB hgd h1
end Go.Proofs.YtefmmgccdpfnaaaGreatDoor

/- CountFree: the model's and the program's. -/
namespace Go.Proofs.YtefmmgccdpfnaaaGreatDoor
open Go.RowKit
open Ff
set_option linter.unusedVariables false

/-- A name, alone. -/
def nameOf : Text → Option UInt8
  | [c] => if isNam c = true then some c else none
  | _ => none
theorem name_some {s : Text} {c : UInt8} (h : nameOf s = some c) : s = [c] ∧ isNam c = true := by
  unfold nameOf at h
  split at h
  · split at h
    · rename_i h2; injection h with h; subst h; exact ⟨rfl, h2⟩
    · cases h
  · cases h
theorem name_one (c : UInt8) : (nameOf [c]).isSome = isNam c := by
  simp only [nameOf]
  cases isNam c <;> simp
theorem name_long {s : Text} (h : s.length ≠ 1) : (nameOf s).isSome = false := by
  unfold nameOf
  split
  · simp at h
  · rfl
/-- What the two texts are told as. -/
def cntI (o : Option Tm) (m : Option UInt8) : Int := match o, m with
  | some t, some c => (cntF t c : Int)
  | _, _ => -1
theorem cntI_none (m : Option UInt8) : cntI none m = -1 := by cases m <;> rfl
theorem cntI_none2 (o : Option Tm) : cntI o none = -1 := by cases o <;> rfl
end Go.Proofs.YtefmmgccdpfnaaaGreatDoor

/- The specification's l1Bound. -/
namespace Go.Proofs.YtefmmgccdpfnaaaGreatDoor
open Go.RowKit
open Ff
set_option linter.unusedVariables false

theorem binds_var (t : Tm) (h : kindOf t = 118) : bindsOf t = [] := by
  cases t with
  | var c => rfl
  | op s l r => rfl
  | _ => simp [kindOf] at h
end Go.Proofs.YtefmmgccdpfnaaaGreatDoor

/- The program's boundIn: how often each name is bound. -/
namespace Go.Proofs.YtefmmgccdpfnaaaGreatDoor
open Go.RowKit Go.Shelf
open Ff
set_option linter.unusedVariables false
attribute [local go_sem] Oper.semAt_some

/-- No block of cells. -/
abbrev NoT : World → Nat → Prop := fun _ _ => False
theorem told_no (n₀ : Nat) : Told n₀ NoT := ⟨fun _ _ _ _ _ h => h, fun _ _ _ h => h.elim⟩
theorem Tally.notCells {W : World} {b n : Nat} {m : UInt8 → Nat} (h : Tally W b n m) : ∀ o : Obj, W.heap[b]? = some o → o.isCells = false := by
  obtain ⟨D, ⟨es, clock, hb, _⟩, _⟩ := h
  intro o ho
  rw [hb] at ho
  injection ho with ho
  subst ho
  rfl
theorem Tally.keepT {W W' : World} {b n : Nat} {m : UInt8 → Nat} (h : Tally W b n m) (hg : W.grownBy W' (some b)) : KeepT NoT W W' := by
  refine ⟨hg.size, fun j o ho hc _ => ?_, fun _ h => h.elim⟩
  refine (hg.block j (Array.getElem?_eq_some_iff.1 ho).1 (fun e => ?_)).trans ho
  injection e with e
  subst e
  rw [h.notCells o ho] at hc
  cases hc
theorem keepT_putObj (W : World) (l : Nat) (o o' : Obj) (h : W.heap[l]? = some o) (ho : o.isCells = false) : KeepT NoT W (W.putObj l o') := by
  have hg := grownBy_putObj' W l o'
  refine ⟨hg.size, fun j oj hj hc _ => ?_, fun _ h => h.elim⟩
  refine (hg.block j (Array.getElem?_eq_some_iff.1 hj).1 (fun e => ?_)).trans hj
  injection e with e
  subst e
  rw [h] at hj
  injection hj with hj
  subst hj
  rw [ho] at hc
  cases hc
/-- How often in a list's first j. -/
theorem count_take (l : Text) (j : Nat) (c x : UInt8) (h : l[j]? = some c) : (l.take (j + 1)).count x = (l.take j).count x + (if x = c then 1 else 0) := by
  rw [List.take_add_one, h]
  simp only [Option.toList_some, List.count_append, List.count_singleton]
  by_cases e : x = c
  · subst e; simp
  · have : ¬ c = x := fun h => e h.symm
    simp [e, this]

/-- The names that the program takes a term to bind, whatever its names are. -/
def bindsP : Tm → Text
  | .fix f c _ => if f = 0 then [c] else [f, c]
  | t => bindsOf t
theorem bindsP_good {t : Tm} (h : t.good) : bindsP t = bindsOf t := by
  cases t with
  | fix f c b =>
    have hf : f ≠ 0 := by
      have := h.1
      simp only [isNam, Bool.and_eq_true, decide_eq_true_eq] at this
      intro e
      subst e
      exact absurd this.1 (by decide)
    simp [bindsP, bindsOf, hf]
  | _ => rfl
theorem bindsP_len (t : Tm) : (bindsP t).length ≤ 2 := by
  cases t with
  | fix f c b => simp only [bindsP]; split <;> simp
  | _ => simp [bindsP, bindsOf]
theorem boundByP_c (t : Tm) (w : World) :
    Calls Tryz.prog 71 #[enc t] w fun e w' => ∃ v, e = .returned v ∧ SliceOf w.heap.size w' v ((bindsP t).map bv) ∧ Below w.heap.size w w' := by
  have none : ∀ s : Tm, isFun s = false → isLet s = false → bindsP s = [] → Calls Tryz.prog 71 #[enc s] w fun e w' => ∃ v, e = .returned v ∧ SliceOf w.heap.size w' v ((bindsP s).map bv) ∧ Below w.heap.size w w' := fun s h1 h2 h3 =>
    (boundBy_none s h1 h2 w).mono (by rintro e w' ⟨rfl, rfl⟩; exact ⟨_, rfl, .inl ⟨by rw [h3]; rfl, rfl⟩, Below.refl _ _⟩)
  cases t with
  | fn c b => exact (boundBy_fn c b w).mono (by rintro e w' ⟨o, rfl, rfl⟩; exact ⟨_, rfl, slice_new w o [bv c] _ (by simp), below_two w _ _⟩)
  | fix f c b =>
    by_cases h : f = 0
    · subst h
      exact (boundBy_fn c b w).mono (by rintro e w' ⟨o, rfl, rfl⟩; exact ⟨_, rfl, slice_new w o [bv c] _ (by simp), below_two w _ _⟩)
    · have hf : f.toNat ≠ 0 := fun e => h (by apply UInt8.toNat_inj.1; simpa using e)
      have hb : bindsP (.fix f c b) = [f, c] := by simp [bindsP, h]
      rw [hb]
      exact (boundBy_fix f c b hf w).mono (by rintro e w' ⟨o, rfl, rfl⟩; exact ⟨_, rfl, slice_new w o [bv f, bv c] _ (by simp), below_two w _ _⟩)
  | bind c x b => exact (boundBy_bind c x b w).mono (by rintro e w' ⟨o, rfl, rfl⟩; exact ⟨_, rfl, slice_new w o [bv c] _ (by simp), below_two w _ _⟩)
  | _ => exact none _ rfl rfl rfl
/-- How often a name is bound in a list of terms, as the program counts. -/
def cntP (l : List Tm) (x : UInt8) : Nat := (l.flatMap bindsP).count x
theorem cntP_snoc (l : List Tm) (s : Tm) (x : UInt8) : cntP (l ++ [s]) x = cntP l x + (bindsP s).count x := by
  simp [cntP, List.count_append]
theorem cntP_le (l : List Tm) (x : UInt8) : cntP l x ≤ 2 * l.length := by
  refine Nat.le_trans List.count_le_length ?_
  induction l with
  | nil => simp
  | cons a r ih => have := bindsP_len a; simp only [List.flatMap_cons, List.length_append, List.length_cons]; omega
theorem cntP_good {l : List Tm} (h : ∀ s ∈ l, s.good) (x : UInt8) : cntP l x = cntB l x := by
  have e : l.flatMap bindsP = l.flatMap bindsOf := by
    induction l with
    | nil => rfl
    | cons a r ih => rw [List.flatMap_cons, List.flatMap_cons, bindsP_good (h a (by simp)), ih (fun s hs => h s (by simp [hs]))]
  unfold cntP cntB
  rw [e]

end Go.Proofs.YtefmmgccdpfnaaaGreatDoor

/- BoundOf: the model's and the program's. -/
namespace Go.Proofs.YtefmmgccdpfnaaaGreatDoor
open Go.RowKit
open Ff
set_option linter.unusedVariables false

theorem readS_parts' {s : Text} {t : Tm} (h : readS s = some t) : (parts t).length ≤ 120 := readS_parts h
theorem parts_good {t s : Tm} (h : t.good) (hs : s ∈ parts t) : s.good := by
  induction t with
  | num n => simp only [parts, List.mem_singleton] at hs; subst hs; exact h
  | var c => simp only [parts, List.mem_singleton] at hs; subst hs; exact h
  | fn c b ih => simp only [parts, List.mem_cons] at hs; rcases hs with rfl | hs; exact h; exact ih h.2 hs
  | fix f c b ih => simp only [parts, List.mem_cons] at hs; rcases hs with rfl | hs; exact h; exact ih h.2.2.2 hs
  | app f a h1 h2 => simp only [parts, List.mem_cons, List.mem_append] at hs; rcases hs with rfl | hs | hs; exact h; exact h1 h.1 hs; exact h2 h.2 hs
  | bind c f a h1 h2 => simp only [parts, List.mem_cons, List.mem_append] at hs; rcases hs with rfl | hs | hs; exact h; exact h1 h.2.1 hs; exact h2 h.2.2 hs
  | op c f a h1 h2 => simp only [parts, List.mem_cons, List.mem_append] at hs; rcases hs with rfl | hs | hs; exact h; exact h1 h.2.1 hs; exact h2 h.2.2 hs
  | sel a b c h1 h2 h3 => simp only [parts, List.mem_cons, List.mem_append] at hs; rcases hs with rfl | hs | hs | hs; exact h; exact h1 h.1 hs; exact h2 h.2.1 hs; exact h3 h.2.2 hs

end Go.Proofs.YtefmmgccdpfnaaaGreatDoor
