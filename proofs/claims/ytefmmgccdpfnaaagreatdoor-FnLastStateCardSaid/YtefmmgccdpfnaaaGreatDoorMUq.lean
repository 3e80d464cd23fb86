import Derived.Test.YtefmmgccdpfnaaaGreatDoorMCl
import Derived.Test.YtefmmgccdpfnaaaGreatDoorMYi
import Derived.Test.YtefmmgccdpfnaaaGreatDoorMTx
/- IsUnique: the model's. -/
namespace Go.Proofs.YtefmmgccdpfnaaaGreatDoor
open Go.RowKit
open Ff
set_option linter.unusedVariables false

/-- No name of a text is among those seen, nor twice in it. -/
def freshL (seen : Text) : Text → Bool
  | [] => true
  | c :: r => decide (c ∉ seen) && freshL (seen ++ [c]) r
/-- The names that the terms of a list bind, in order. -/
def allB (l : List Tm) : Text := l.flatMap bindsOf
theorem allB_drop (l : List Tm) (k : Nat) (s : Tm) (h : l[k]? = some s) : allB (l.drop k) = bindsOf s ++ allB (l.drop (k + 1)) := by
  obtain ⟨h1, h2⟩ := List.getElem?_eq_some_iff.1 h
  rw [List.drop_eq_getElem_cons h1, h2]
  rfl
theorem allB_end (l : List Tm) : allB (l.drop l.length) = [] := by simp [allB]
theorem allB_len (l : List Tm) (k : Nat) : (allB (l.take k)).length ≤ 2 * k := boundTo_len l k
theorem allB_take (l : List Tm) (k : Nat) (s : Tm) (h : l[k]? = some s) : allB (l.take (k + 1)) = allB (l.take k) ++ bindsOf s := boundTo_succ l k s h
theorem fresh_drop (seen nm rest : Text) (j : Nat) (c : UInt8) (h : nm[j]? = some c) : freshL seen (nm.drop j ++ rest) = (decide (c ∉ seen) && freshL (seen ++ [c]) (nm.drop (j + 1) ++ rest)) := by
  obtain ⟨h1, h2⟩ := List.getElem?_eq_some_iff.1 h
  rw [List.drop_eq_getElem_cons h1, h2]
  rfl
def uniqT (t : Tm) : Bool := freshL (sfree t) (allB (parts t))
def uniqB (o : Option Tm) : Bool := match o with | some t => uniqT t | none => false

end Go.Proofs.YtefmmgccdpfnaaaGreatDoor

/- IsUnique: the program's, and the statement's walk. -/
namespace Go.Proofs.YtefmmgccdpfnaaaGreatDoor
open Go.RowKit
open Ff
set_option linter.unusedVariables false

theorem fresh_iff : ∀ (l seen : Text), freshL seen l = true ↔ ∀ c, l.count c ≤ 1 ∧ (l.count c ≠ 0 → c ∉ seen) := by
  intro l
  induction l with
  | nil => intro seen; simp [freshL]
  | cons a r ih =>
    intro seen
    simp only [freshL, Bool.and_eq_true, decide_eq_true_eq, ih]
    constructor
    · rintro ⟨ha, h⟩ c
      obtain ⟨h1, h2⟩ := h c
      by_cases e : c = a
      · subst e
        have h0 : List.count c r = 0 := by
          apply Classical.byContradiction
          intro hn
          exact h2 hn (by simp)
        rw [List.count_cons_self]
        exact ⟨by omega, fun _ => ha⟩
      · have e2 : ¬ a = c := fun h => e h.symm
        rw [List.count_cons_of_ne e2]
        exact ⟨h1, fun hn hm => h2 hn (by simp [hm])⟩
    · intro h
      refine ⟨(h a).2 (by rw [List.count_cons_self]; omega), fun c => ?_⟩
      obtain ⟨h1, h2⟩ := h c
      by_cases e : c = a
      · subst e
        rw [List.count_cons_self] at h1
        exact ⟨by omega, fun hn => absurd (by omega) hn⟩
      · have e2 : ¬ a = c := fun h => e h.symm
        rw [List.count_cons_of_ne e2] at h1 h2
        exact ⟨h1, fun hn hm => by simp at hm; rcases hm with hm | hm; exact h2 hn hm; exact e hm⟩
theorem uniq_iff {t : Tm} (h : t.good) : uniqT t = true ↔ ∀ c, cntB (parts t) c ≤ 1 ∧ (cntB (parts t) c ≠ 0 → cntF t c = 0) := by
  unfold uniqT
  rw [fresh_iff]
  have e : ∀ c, List.count c (allB (parts t)) = cntB (parts t) c := fun c => rfl
  simp only [e]
  constructor
  · intro h1 c
    refine ⟨(h1 c).1, fun hn => ?_⟩
    apply Classical.byContradiction
    intro h0
    exact (h1 c).2 hn ((mem_free h c).2 h0)
  · intro h1 c
    exact ⟨(h1 c).1, fun hn hm => (mem_free h c).1 hm ((h1 c).2 hn)⟩
theorem parts_good' {t s : Tm} (h : t.good) (hs : s ∈ parts t) : s.good := by
  induction t with
  | num n => simp only [parts, List.mem_singleton] at hs; subst hs; exact h
  | var c => simp only [parts, List.mem_singleton] at hs; subst hs; exact h
  | fn c b ih => simp only [parts, List.mem_cons] at hs; rcases hs with rfl | hs; exact h; exact ih h.2 hs
  | fix f c b ih => simp only [parts, List.mem_cons] at hs; rcases hs with rfl | hs; exact h; exact ih h.2.2.2 hs
  | app f a h1 h2 => simp only [parts, List.mem_cons, List.mem_append] at hs; rcases hs with rfl | hs | hs; exact h; exact h1 h.1 hs; exact h2 h.2 hs
  | bind c f a h1 h2 => simp only [parts, List.mem_cons, List.mem_append] at hs; rcases hs with rfl | hs | hs; exact h; exact h1 h.2.1 hs; exact h2 h.2.2 hs
  | op c f a h1 h2 => simp only [parts, List.mem_cons, List.mem_append] at hs; rcases hs with rfl | hs | hs; exact h; exact h1 h.2.1 hs; exact h2 h.2.2 hs
  | sel a b c h1 h2 h3 => simp only [parts, List.mem_cons, List.mem_append] at hs; rcases hs with rfl | hs | hs | hs; exact h; exact h1 h.1 hs; exact h2 h.2.1 hs; exact h3 h.2.2 hs

end Go.Proofs.YtefmmgccdpfnaaaGreatDoor

/- The program's untaken: the first letter that a tally lacks. -/
namespace Go.Proofs.YtefmmgccdpfnaaaGreatDoor
open Go.RowKit Go.Shelf
open Ff
set_option linter.unusedVariables false
attribute [local go_sem] Oper.semAt_some

/-- The letters among the first k that a tally lacks. -/
def butTo (m : UInt8 → Nat) (k : Nat) : Text := (letters.take k).filter (fun c => decide (m c = 0))
theorem but_succ (m : UInt8 → Nat) (k : Nat) (c : UInt8) (h : letters[k]? = some c) : butTo m (k + 1) = butTo m k ++ (if m c = 0 then [c] else []) := by
  unfold butTo
  rw [List.take_add_one, h]
  simp only [Option.toList_some, List.filter_append, List.append_cancel_left_eq]
  by_cases h2 : m c = 0 <;> simp [h2]
theorem but_len (m : UInt8 → Nat) (k : Nat) : (butTo m k).length ≤ k := Nat.le_trans (List.length_filter_le _ _) (by simp; omega)
theorem but_pre (m : UInt8 → Nat) (k : Nat) (h : k ≤ 16) : butTo m k <+: butTo m 16 := by
  refine ⟨(letters.drop k).filter (fun c => decide (m c = 0)), ?_⟩
  unfold butTo
  rw [← List.filter_append, List.take_append_drop]
  rfl
theorem Tally.keepB {A B : World} {b n n₀ : Nat} {m : UInt8 → Nat} (h : Tally A b n m) (hb : b < n₀) (hk : Below n₀ A B) : Tally B b n m := by
  obtain ⟨D, ⟨es, clock, h1, h2⟩, h3⟩ := h
  exact ⟨D, ⟨es, clock, (hk.block b hb).trans h1, h2⟩, h3⟩
set_option maxRecDepth 100000 in
set_option maxHeartbeats 2000000 in
theorem namesBut_stops (n Bt b nm : Nat) (m : UInt8 → Nat) (w : World) (hBt : Bt < w.heap.size) (hc : w.cell? ⟨Bt, 0, none⟩ = some (.map (some b))) (hT : Tally w b nm m) :
    SeqStopsK Fence.wide n Tryz.prog 162 #[.pointer (some ⟨Bt, 0, none⟩)] (fun c : UInt8 => #[bv c]) (Below w.heap.size) (fun ys => ys = butTo m 16) (fun pre => pre <+: butTo m 16) 16 w := by
  intro l J Jx W hW hJ hJx hY h0
  have hbl := hT.lt
  show CallsIn Fence.wide n Tryz.prog 162 #[.func (.yield l) #[] #[], .pointer (some ⟨Bt, 0, none⟩)] W _
  refine callsIn_of_wp Tryz.func162 rfl trivial ?_ rfl
  simp only [Tryz.ntmps162, List.size_toArray, List.length_cons, List.length_nil, Nat.reduceAdd, Nat.reduceSub, Array.replicate_succ, Array.replicate_zero, List.push_toArray, List.append_toArray, List.nil_append, List.cons_append]
  gi_wp2
  gi_loopw [3] (fun i wr => ∃ k : Nat, k ≤ 16 ∧ i = .int .u8 (97 + k : Nat) ∧ J (butTo m k) wr ∧ Below w.heap.size w wr) (fun i _ => 113 - (intOf i).toNat)
  case atStart => exact ⟨0, Nat.zero_le _, rfl, h0, hW⟩
  case round =>
    obtain ⟨k, hk, rfl, hj, hB⟩ := hrel
    have hTr := hT.keepB hbl hB
    have hcr := (hB.cell (p := ⟨Bt, 0, none⟩) hBt).trans hc
    by_cases hlt : k < 16
    · obtain ⟨c, hc1, hcn⟩ := letters_at k hlt
      have hsucc := but_succ m k c hc1
      have hlen := but_len m k
      have hcn2 : (97 + (k : Int)) = (c.toNat : Int) := by rw [hcn]; simp
      have hpre := but_pre m (k + 1) (by omega)
      have HN := Lib.hid hcn2
      have HS := Lib.hid hsucc
      have HP := Lib.hid hpre
      clear hcn hcn2 hc1 hsucc hpre
      by_cases h0m : m c = 0
      · obtain ⟨fn, tmps, assign, body, hy, hR⟩ := hY (butTo m k) c wr hj (by omega)
        rw [← show Value.int .u8 (97 + (k : Int)) = bv c by rw [HN.out]] at hy
        gi_wp2_with (gi_at_lookup; refine wpListIn_lookup_tally rfl _ _ rfl rfl hTr c (by show Value.int .u8 (97 + (k : Int)) = _; rw [HN.out]) ?_; rw [h0m])
        refine ⟨fun h => (by cases h), ?_⟩
        refine hR.mono ?_
        clear hR hy
        rintro e W3 (⟨rfl, hJ3, hk3⟩ | ⟨rfl, hJx3⟩)
        · gi_wp2
          refine ⟨⟨k + 1, by omega, by go_num, by rw [HS.out, if_pos h0m]; exact hJ3, hB.trans hk3⟩, by simp [intOf]; omega⟩
        · gi_wp2
          refine bodyPost_ret (results_none rfl _ _ _) rfl ?_
          exact ⟨⟨_, rfl⟩, .inr ⟨_, by have := HP.out; rw [HS.out, if_pos h0m] at this; exact this, hJx3⟩⟩
      · have hpos : ¬ ((m c : Int) = 0) := by omega
        gi_wp2_with (gi_at_lookup; refine wpListIn_lookup_tally rfl _ _ rfl rfl hTr c (by show Value.int .u8 (97 + (k : Int)) = _; rw [HN.out]) ?_)
        refine ⟨fun f h => (by cases h), ?_⟩
        have hp2 : ((m c : Int) == 0) = false := by simp [h0m]
        rw [hp2]
        clear hp2
        gi_wp2
        refine ⟨⟨k + 1, by omega, by go_num, ?_, hB⟩, by simp [intOf]; omega⟩
        rw [HS.out, if_neg h0m, List.append_nil]
        exact hj
    · obtain rfl : k = 16 := by omega
      gi_wp2
      go_end0
      exact ⟨⟨_, rfl⟩, .inl ⟨_, rfl, hj⟩⟩
set_option maxHeartbeats 1000000 in
theorem namesBut_c (n b : Nat) (w : World) :
    CallsIn Fence.wide n Tryz.prog 159 #[.map (some b)] w fun e w' => e = .returned (.func (.func 162) #[] #[.pointer (some ⟨w.heap.size, 0, none⟩)]) ∧ w' = w.alloc (.cells #[.map (some b)] 69) := by
  refine callsIn_of_wp Tryz.func159 rfl trivial ?_ rfl
  simp only [Tryz.ntmps159, List.size_toArray, List.length_cons, List.length_nil, Nat.reduceAdd, Nat.reduceSub, Array.replicate_succ, Array.replicate_zero, List.push_toArray, List.append_toArray, List.nil_append, List.cons_append]
  gi_wp2
  go_ret
  exact ⟨rfl, rfl⟩
/-- What untaken returns. -/
def untV (m : UInt8 → Nat) : Value := match (butTo m 16).head? with
  | some c => .tuple #[bv c, .bool true]
  | none => .tuple #[.int .u8 0, .bool false]
set_option maxRecDepth 100000 in
set_option maxHeartbeats 4000000 in
theorem untaken_c (b nm : Nat) (m : UInt8 → Nat) (w : World) (hT : Tally w b nm m) :
    Calls Tryz.prog 153 #[.map (some b)] w fun e w' => e = .returned (untV m) ∧ Below w.heap.size w w' := by
  have hbl := hT.lt
  refine (callsIn_wide (n := 9)).1 ?_
  refine callsIn_of_wp_marks Tryz.func153 rfl trivial ?_ rfl
  simp only [Tryz.ntmps153, List.size_toArray, List.length_cons, List.length_nil, Nat.reduceAdd, Nat.reduceSub, Array.replicate_succ, Array.replicate_zero, List.push_toArray, List.append_toArray, List.nil_append, List.cons_append]
  obtain ⟨W1, hW1⟩ : ∃ W1, (w.alloc (.cells #[.int .u8 0] 5)).alloc (.cells #[.bool false] 4) = W1 := ⟨_, rfl⟩
  have P := namesBut_c 8 b W1
  gi_wp2_with (refine ⟨trivial, ?_⟩; gi_at_call 159; refine P.mono ?_; clear P; rintro e w2 ⟨rfl, rfl⟩)
  have k2 : W1.cell? ⟨w.heap.size, 0, none⟩ = some (.int .u8 0) ∧ W1.frozen? ⟨w.heap.size, 0, none⟩ = false := by
    rw [← hW1]
    have h := cell_new_v w (.int .u8 0) 5
    have hb := (Below.refl (w.heap.size + 1) (w.alloc (.cells #[.int .u8 0] 5))).alloc (by simp) (.cells #[.bool false] 4)
    exact ⟨(hb.cell (p := ⟨w.heap.size, 0, none⟩) (by simp)).trans h.1, (World.frozen?_of_block (hb.block _ (by simp))).trans h.2⟩
  have k3 : W1.cell? ⟨w.heap.size + 1, 0, none⟩ = some (.bool false) ∧ W1.frozen? ⟨w.heap.size + 1, 0, none⟩ = false := by
    rw [← hW1]
    have h := cell_new_v (w.alloc (.cells #[.int .u8 0] 5)) (.bool false) 4
    rw [World.size_alloc] at h
    exact h
  have hsz : W1.heap.size = w.heap.size + 2 := by rw [← hW1]; simp
  have hB1 : Below w.heap.size w W1 := by rw [← hW1]; exact ((Below.refl _ w).alloc (Nat.le_refl _) _).alloc (by simp) _
  have hT1 : Tally W1 b nm m := by rw [← hW1]; exact (hT.alloc _).alloc _
  clear hW1
  have hbx := (cell_new_v W1 (.map (some b)) 69).1
  have hg1 : W1.grownBy (W1.alloc (.cells #[.map (some b)] 69)) none := World.grownBy_alloc _ _ none
  have hT2 := hT1.alloc (.cells #[.map (some b)] 69)
  have hsz2 : (W1.alloc (.cells #[.map (some b)] 69)).heap.size = w.heap.size + 3 := by simp [hsz]
  obtain ⟨W2, hW2⟩ : ∃ W2, W1.alloc (.cells #[.map (some b)] 69) = W2 := ⟨_, rfl⟩
  rw [hW2] at hbx hg1 hT2 hsz2 ⊢
  clear hW2
  rw [hsz] at hbx ⊢
  have m2 := hg1.cell k2.1 (by simp)
  have m3 := hg1.cell k3.1 (by simp)
  have n2 := (World.frozen?_of_block (a := ⟨w.heap.size, 0, none⟩) (hg1.block _ (by show w.heap.size < _; omega) (by simp))).trans k2.2
  have n3 := (World.frozen?_of_block (a := ⟨w.heap.size + 1, 0, none⟩) (hg1.block _ (by show w.heap.size + 1 < _; omega) (by simp))).trans k3.2
  have hB2 : Below w.heap.size w W2 := hB1.grown hg1 hB1.size (fun j hj => by cases hj)
  refine wpIn_rangeFunc_ownF rfl (by decide) (gf := 162) (lb := #[.pointer (some ⟨w.heap.size + 2, 0, none⟩)]) rfl trivial (enters_of Tryz.func162 (by kernel_rfl) rfl)
    (namesBut_stops 8 (w.heap.size + 2) b nm m W2 (by omega) hbx hT2) belowK_t (belowK_b (Nat.le_refl _)) (Below.refl _ _) (fun _ => rfl)
    (fun pre W => pre = [] ∧ W2.grownBy W none)
    (fun c pre W => c = .ret ∧ ∃ x, pre = [x] ∧ W.cell? ⟨w.heap.size, 0, none⟩ = some (bv x) ∧ W.cell? ⟨w.heap.size + 1, 0, none⟩ = some (.bool true) ∧ Below w.heap.size w W)
    (fun pre W W' row h hg hr => ⟨h.1, h.2.andThen hg (fun j hj => .inl (hr j hj).1)⟩)
    (fun c pre W W' row ⟨hc, x, hp, h1, h2, hB⟩ hg hr => ⟨hc, x, hp, hg.cell h1 (fun e => by have := (hr _ e.symm).1; simp at this; omega), hg.cell h2 (fun e => by have := (hr _ e.symm).1; simp at this; omega), hB.grown hg hB.size (fun j hj => by have := (hr j hj).1; omega)⟩)
    ⟨rfl, World.grownBy.refl _ _⟩
    (fun x => { tmps := #[.map (some b), undef, .pointer (some ⟨w.heap.size, 0, none⟩), .pointer (some ⟨w.heap.size + 1, 0, none⟩), bv x, .map (some b), .func (.func 162) #[] #[.pointer (some ⟨w.heap.size + 2, 0, none⟩)], bv x, undef], defers := [] }) ?assign ?body ?done ?stop
  case assign =>
    intro l x W K hK
    have ez : (#[7] : Array Tmp).zip #[bv x] = #[(7, bv x)] := by simp
    rw [ez]
    gi_wp2
    exact hK
  case body =>
    rintro l pre x W ⟨rfl, hG⟩ hlt
    have a2 := hG.cell m2 (by simp)
    have a3 := hG.cell m3 (by simp)
    have f2 := (World.frozen?_of_block (a := ⟨w.heap.size, 0, none⟩) (hG.block _ (by show w.heap.size < _; omega) (by simp))).trans n2
    have f3 := (World.frozen?_of_block (a := ⟨w.heap.size + 1, 0, none⟩) (hG.block _ (by show w.heap.size + 1 < _; omega) (by simp))).trans n3
    have hB : Below w.heap.size w W := hB2.grown hG hB2.size (fun j hj => by cases hj)
    gi_wp2
    have s3 : ∀ v, ((W.setCell ⟨w.heap.size, 0, none⟩ v).cell? ⟨w.heap.size + 1, 0, none⟩).isSome = true := fun v => by rw [World.cell?_setCell_far _ _ _ _ (by simp), a3]; rfl
    refine ⟨(KeepsOthers.setCell _ _ _).trans (KeepsOthers.setCell _ _ _), rfl, x, rfl, ?_, World.cell?_setCell_same' _ _ _ (s3 _), (hB.setCell (p := ⟨w.heap.size, 0, none⟩) (Nat.le_refl _) _).setCell (p := ⟨w.heap.size + 1, 0, none⟩) (by simp) _⟩
    rw [World.cell?_setCell_far _ _ _ _ (by simp), World.cell?_setCell_same' _ _ _ (by rw [a2]; rfl)]
  case done =>
    rintro D ys W hD rfl ⟨hn, hG⟩ hK
    have a2 := hG.cell m2 (by simp)
    have a3 := hG.cell m3 (by simp)
    have f2 := (World.frozen?_of_block (a := ⟨w.heap.size, 0, none⟩) (hG.block _ (by show w.heap.size < _; omega) (by simp))).trans n2
    have f3 := (World.frozen?_of_block (a := ⟨w.heap.size + 1, 0, none⟩) (hG.block _ (by show w.heap.size + 1 < _; omega) (by simp))).trans n3
    gi_wp2
    have s3 : ∀ v, ((W.setCell ⟨w.heap.size, 0, none⟩ v).cell? ⟨w.heap.size + 1, 0, none⟩).isSome = true := fun v => by rw [World.cell?_setCell_far _ _ _ _ (by simp), a3]; rfl
    have hB : Below w.heap.size w W := hB2.grown hG hB2.size (fun j hj => by cases hj)
    have hX : ((W.setCell ⟨w.heap.size, 0, none⟩ (.int .u8 0)).setCell ⟨w.heap.size + 1, 0, none⟩ (.bool false)).heap[D]? = some (.deferred (some [])) := by
      rw [Below.heap_setCell _ _ _ _ (by simp; omega), Below.heap_setCell _ _ _ _ (by simp; omega)]
      exact hK
    have x3 := World.cell?_setCell_same' (W.setCell ⟨w.heap.size, 0, none⟩ (.int .u8 0)) ⟨w.heap.size + 1, 0, none⟩ (.bool false) (s3 _)
    have x2 : ((W.setCell ⟨w.heap.size, 0, none⟩ (.int .u8 0)).setCell ⟨w.heap.size + 1, 0, none⟩ (.bool false)).cell? ⟨w.heap.size, 0, none⟩ = some (.int .u8 0) := by
      rw [World.cell?_setCell_far _ _ _ _ (by simp), World.cell?_setCell_same' _ _ _ (by rw [a2]; rfl)]
    have xB : Below w.heap.size w ((W.setCell ⟨w.heap.size, 0, none⟩ (.int .u8 0)).setCell ⟨w.heap.size + 1, 0, none⟩ (.bool false)) := (hB.setCell (p := ⟨w.heap.size, 0, none⟩) (Nat.le_refl _) _).setCell (p := ⟨w.heap.size + 1, 0, none⟩) (by simp) _
    have hu : untV m = .tuple #[.int .u8 0, .bool false] := by unfold untV; rw [hn]; rfl
    rw [hu]
    generalize (W.setCell ⟨w.heap.size, 0, none⟩ (.int .u8 0)).setCell ⟨w.heap.size + 1, 0, none⟩ (.bool false) = X at *
    refine ⟨by simp, .inl ⟨_, _, rfl, run_takeDeferred hX, ?_⟩⟩
    have y2 := (grownBy_putObj' X D (.deferred none)).cell x2 (by simp; omega)
    have y3 := (grownBy_putObj' X D (.deferred none)).cell x3 (by simp; omega)
    refine ⟨.tuple #[.int .u8 0, .bool false], by simp [results, Tryz.results153, go_sem, y2, y3], rfl, xB.trans (belowK_b (w := w) (Nat.le_refl _) X D _ _ (by omega) hX rfl rfl)⟩
  case stop =>
    rintro D c pre W hD hpre ⟨rfl, x, rfl, h1, h2, hB⟩ hK
    gi_wp2
    have hu : untV m = .tuple #[bv x, .bool true] := by
      obtain ⟨r, hr⟩ := hpre
      unfold untV
      rw [← hr]
      rfl
    rw [hu]
    refine ⟨by simp, .inl ⟨_, _, rfl, run_takeDeferred hK, ?_⟩⟩
    have y2 := (grownBy_putObj' W D (.deferred none)).cell h1 (by simp; omega)
    have y3 := (grownBy_putObj' W D (.deferred none)).cell h2 (by simp; omega)
    refine ⟨.tuple #[bv x, .bool true], by simp [results, Tryz.results153, go_sem, y2, y3], rfl, hB.trans (belowK_b (w := w) (Nat.le_refl _) W D _ _ (by omega) hK rfl rfl)⟩
end Go.Proofs.YtefmmgccdpfnaaaGreatDoor

/- NewName: the model's and the program's. -/
namespace Go.Proofs.YtefmmgccdpfnaaaGreatDoor
open Go.RowKit
open Ff
set_option linter.unusedVariables false

set_option maxRecDepth 100000 in
set_option maxHeartbeats 1000000 in
theorem find_big (s : Text) (c : UInt8) (w : World) (hl : s.length ≤ 2000000) :
    Calls Tryz.prog 118 #[.string ⟨s.toArray⟩, .int .u8 (c.toNat : Int)] w fun e w' => e = .returned (.int .i64 (findI c s)) ∧ w' = w := by
  go_enter Tryz.func118, Tryz.ntmps118
  go_wp2_with fail
  go_loopw [5] (fun i wr => ∃ k : Nat, k ≤ s.length ∧ i = .int .i64 k ∧ c ∉ s.take k ∧ wr = w) (fun i _ => s.length - (intOf i).toNat)
  case atStart => exact ⟨0, Nat.zero_le _, rfl, by simp, rfl⟩
  case round =>
    obtain ⟨k, hk, rfl, hn, rfl⟩ := hrel
    have HN := Lib.hid hn
    clear hn
    by_cases hlt : k < s.length
    · obtain ⟨d, hd⟩ : ∃ d, s[k]? = some d := ⟨_, List.getElem?_eq_getElem hlt⟩
      go_wp2_with fail
      · rename_i hc
        rw [byte_eq s k c d hd (by rw [size_data]; exact hlt), decide_eq_true_iff] at hc
        subst hc
        go_ret
        exact ⟨by rw [findI_at hd HN.out]; rfl, rfl⟩
      · rename_i hc
        rw [byte_eq s k c d hd (by rw [size_data]; exact hlt), decide_eq_false_iff_not] at hc
        refine ⟨⟨k + 1, by omega, by go_num, ?_, trivial⟩, by simp [intOf]; omega⟩
        rw [List.take_add_one, hd]
        simp only [Option.toList_some, List.mem_append, List.mem_singleton, not_or]
        exact ⟨HN.out, fun e => hc e.symm⟩
    · have hk2 : s.take k = s := List.take_of_length_le (by omega)
      rw [hk2] at HN
      go_wp2_with fail
      go_ret
      exact ⟨by rw [findI_none HN.out]; rfl, rfl⟩

/-- The first letter that is not in a text. -/
def newO (s : Text) : Option UInt8 := letters.find? (fun c => decide (c ∉ s))
def newT (s : Text) : Text := match newO s with | some c => [c] | none => []
theorem find_at {s : Text} {k : Nat} {c : UInt8} (hc : letters[k]? = some c) (h : ∀ d ∈ letters.take k, d ∈ s) (hm : c ∉ s) : newO s = some c := by
  unfold newO
  obtain ⟨h1, h2⟩ := List.getElem?_eq_some_iff.1 hc
  rw [← List.take_append_drop k letters, List.find?_append, List.find?_eq_none.2 (fun d hd => by simpa using h d hd), List.drop_eq_getElem_cons h1, h2]
  simp [hm]
theorem find_none {s : Text} (h : ∀ d ∈ letters, d ∈ s) : newO s = none := by
  unfold newO
  rw [List.find?_eq_none]
  intro d hd
  simpa using h d hd
set_option maxRecDepth 100000 in
set_option maxHeartbeats 1000000 in
theorem sl2New_c (s : Text) (w : World) (hl : s.length ≤ 2000000) :
    Calls Tryz.prog 133 #[.string ⟨s.toArray⟩] w fun e w' => e = .returned (.string ⟨(newT s).toArray⟩) ∧ Below w.heap.size w w' := by
  go_enter Tryz.func133, Tryz.ntmps133
  go_wp2_with fail
  go_loopw [3] (fun i wr => ∃ k : Nat, k ≤ 16 ∧ i = .int .u8 (97 + k : Nat) ∧ (∀ d ∈ letters.take k, d ∈ s) ∧ wr = w) (fun i _ => 113 - (intOf i).toNat)
  case atStart => exact ⟨0, Nat.zero_le _, rfl, by simp, rfl⟩
  case round =>
    obtain ⟨k, hk, rfl, hall, rfl⟩ := hrel
    have HA := Lib.hid hall
    clear hall
    by_cases hlt : k < 16
    · obtain ⟨c, hc, hcn⟩ := letters_at k hlt
      have F := find_big s c wr hl
      rw [hcn] at F
      have hcn2 : (97 + (k : Int)) = (c.toNat : Int) := by rw [hcn]; simp
      have k1 : (convert 22 9 (.slice (some ⟨wr.heap.size, 0, none⟩) 1 1)).run Tryz.prog (wr.alloc (.cells #[.int .u8 (97 + (k : Int))] 5)) = .ok (.string ⟨[c].toArray⟩) (wr.alloc (.cells #[.int .u8 (97 + (k : Int))] 5)) := by
        rw [hcn2]
        exact str1 _ c _ (cell_new_at _ _ _ _ rfl)
      have HC := Lib.hid hc
      clear hcn2 hcn hc
      go_wp2_with (go_at_call 118; refine F.mono ?_; clear F; rintro e w1 ⟨rfl, rfl⟩)
      · rename_i hf
        have hm : c ∉ s := (findI_mem c s).1 (by omega)
        go_ret
        refine ⟨?_, (Below.refl _ w1).alloc (Nat.le_refl _) _⟩
        unfold newT
        rw [find_at HC.out HA.out hm]
        rfl
      · rename_i hf
        have hm : c ∈ s := by
          apply Classical.byContradiction
          intro h
          have := (findI_mem c s).2 h
          omega
        refine ⟨⟨k + 1, by omega, by go_num, fun d hd => ?_, trivial⟩, by simp [intOf]; omega⟩
        rw [List.take_add_one, HC.out] at hd
        simp only [Option.toList_some, List.mem_append, List.mem_singleton] at hd
        rcases hd with hd | rfl
        · exact HA.out d hd
        · exact hm
    · obtain rfl : k = 16 := by omega
      go_wp2_with fail
      go_ret
      refine ⟨?_, Below.refl _ _⟩
      unfold newT
      rw [find_none HA.out]
      rfl
/-- What NewName tells. -/
def newV (s : Text) : Value := match newO s with
  | some c => .tuple #[.string ⟨#[c]⟩, .bool true]
  | none => .tuple #[.string ⟨#[]⟩, .bool false]
theorem newV_shape (s : Text) : ∃ (x : ByteArray) (b : Bool), newV s = .tuple #[.string x, .bool b] := by
  unfold newV
  split <;> exact ⟨_, _, rfl⟩
theorem but_new (s : Text) : (butTo (fun c => s.count c) 16).head? = newO s := by
  unfold butTo newO
  rw [List.take_of_length_le (by decide), ← List.head?_filter]
  congr 1
  refine List.filter_congr fun c _ => ?_
  have : s.count c = 0 ↔ c ∉ s := List.count_eq_zero
  simp [this]
end Go.Proofs.YtefmmgccdpfnaaaGreatDoor
