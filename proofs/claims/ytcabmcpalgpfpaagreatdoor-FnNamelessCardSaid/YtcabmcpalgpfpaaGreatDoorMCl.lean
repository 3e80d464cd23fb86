import Derived.Test.YtcabmcpalgpfpaaGreatDoorMCt
import Derived.Deep.RegionHeld3
import Derived.Test.YtcabmcpalgpfpaaGreatDoorMYi
import Derived.RangeFuncWrites
/- The specification's l1Count: how often a name stands free. -/
namespace Go.Proofs.YtcabmcpalgpfpaaGreatDoor
open Go.RowKit
open Ff
set_option linter.unusedVariables false

theorem binds_names (t : Tm) (h : kindOf t ≠ 118) : bindsOf t = namesOf t := by
  cases t with
  | var c => simp [kindOf] at h
  | _ => rfl
theorem cntTo_le0 (t : Tm) (x : UInt8) : ∀ k, cntTo t k x + 1 ≤ (before t k).length
  | 0 => by simp [cntTo, before]
  | k + 1 => by
    have ih := cntTo_le0 t x k
    rcases h : t.kids[k]? with _ | s
    · have e1 : cntTo t (k + 1) x = cntTo t k x := by simp [cntTo, h]
      have e2 : before t (k + 1) = before t k := by unfold before; rw [List.take_add_one, h]; simp
      rw [e1, e2]; exact ih
    · rw [cntTo_succ t k s h, before_succ t k s h, List.length_append]
      have := cnt_le s x
      split <;> omega
theorem names_len (t : Tm) : (namesOf t).length ≤ 2 := by cases t <;> simp [namesOf]

end Go.Proofs.YtcabmcpalgpfpaaGreatDoor

/- CountFree: the model's and the program's. -/
namespace Go.Proofs.YtcabmcpalgpfpaaGreatDoor
open Go.RowKit
open Ff
set_option linter.unusedVariables false

/-- A name, alone. -/
def nameOf : Text → Option UInt8
  | [c] => if isNam c = true then some c else none
  | _ => none
theorem name_some {s : Text} {c : UInt8} (h : nameOf s = some c) : s = [c] ∧ isNam c = true := by
  unfold nameOf at h
  split at h
  · split at h
    · rename_i h2; injection h with h; subst h; exact ⟨rfl, h2⟩
    · cases h
  · cases h
theorem name_one (c : UInt8) : (nameOf [c]).isSome = isNam c := by
  simp only [nameOf]
  cases isNam c <;> simp
theorem name_long {s : Text} (h : s.length ≠ 1) : (nameOf s).isSome = false := by
  unfold nameOf
  split
  · simp at h
  · rfl
/-- What the two texts are told as. -/
def cntI (o : Option Tm) (m : Option UInt8) : Int := match o, m with
  | some t, some c => (cntF t c : Int)
  | _, _ => -1
theorem cntI_none (m : Option UInt8) : cntI none m = -1 := by cases m <;> rfl
theorem cntI_none2 (o : Option Tm) : cntI o none = -1 := by cases o <;> rfl
end Go.Proofs.YtcabmcpalgpfpaaGreatDoor

/- The specification's l1Bound. -/
namespace Go.Proofs.YtcabmcpalgpfpaaGreatDoor
open Go.RowKit
open Ff
set_option linter.unusedVariables false

theorem binds_var (t : Tm) (h : kindOf t = 118) : bindsOf t = [] := by
  cases t with
  | var c => rfl
  | op s l r => rfl
  | _ => simp [kindOf] at h
end Go.Proofs.YtcabmcpalgpfpaaGreatDoor

/- The program's boundIn: how often each name is bound. -/
namespace Go.Proofs.YtcabmcpalgpfpaaGreatDoor
open Go.RowKit Go.Shelf
open Ff
set_option linter.unusedVariables false
attribute [local go_sem] Oper.semAt_some

/-- No block of cells. -/
abbrev NoT : World → Nat → Prop := fun _ _ => False
theorem told_no (n₀ : Nat) : Told n₀ NoT := ⟨fun _ _ _ _ _ h => h, fun _ _ _ h => h.elim⟩
theorem Tally.notCells {W : World} {b n : Nat} {m : UInt8 → Nat} (h : Tally W b n m) : ∀ o : Obj, W.heap[b]? = some o → o.isCells = false := by
  obtain ⟨D, ⟨es, clock, hb, _⟩, _⟩ := h
  intro o ho
  rw [hb] at ho
  injection ho with ho
  subst ho
  rfl
theorem Tally.keepT {W W' : World} {b n : Nat} {m : UInt8 → Nat} (h : Tally W b n m) (hg : W.grownBy W' (some b)) : KeepT NoT W W' := by
  refine ⟨hg.size, fun j o ho hc _ => ?_, fun _ h => h.elim⟩
  refine (hg.block j (Array.getElem?_eq_some_iff.1 ho).1 (fun e => ?_)).trans ho
  injection e with e
  subst e
  rw [h.notCells o ho] at hc
  cases hc
theorem keepT_putObj (W : World) (l : Nat) (o o' : Obj) (h : W.heap[l]? = some o) (ho : o.isCells = false) : KeepT NoT W (W.putObj l o') := by
  have hg := grownBy_putObj' W l o'
  refine ⟨hg.size, fun j oj hj hc _ => ?_, fun _ h => h.elim⟩
  refine (hg.block j (Array.getElem?_eq_some_iff.1 hj).1 (fun e => ?_)).trans hj
  injection e with e
  subst e
  rw [h] at hj
  injection hj with hj
  subst hj
  rw [ho] at hc
  cases hc
/-- How often in a list's first j. -/
theorem count_take (l : Text) (j : Nat) (c x : UInt8) (h : l[j]? = some c) : (l.take (j + 1)).count x = (l.take j).count x + (if x = c then 1 else 0) := by
  rw [List.take_add_one, h]
  simp only [Option.toList_some, List.count_append, List.count_singleton]
  by_cases e : x = c
  · subst e; simp
  · have : ¬ c = x := fun h => e h.symm
    simp [e, this]

/-- The names that the program takes a term to bind, whatever its names are. -/
def bindsP : Tm → Text
  | .fix f c _ => if f = 0 then [c] else [f, c]
  | t => bindsOf t
theorem bindsP_good {t : Tm} (h : t.good) : bindsP t = bindsOf t := by
  cases t with
  | fix f c b =>
    have hf : f ≠ 0 := by
      have := h.1
      simp only [isNam, Bool.and_eq_true, decide_eq_true_eq] at this
      intro e
      subst e
      exact absurd this.1 (by decide)
    simp [bindsP, bindsOf, hf]
  | _ => rfl
theorem bindsP_len (t : Tm) : (bindsP t).length ≤ 2 := by
  cases t with
  | fix f c b => simp only [bindsP]; split <;> simp
  | _ => simp [bindsP, bindsOf]
theorem boundByP_c (t : Tm) (w : World) :
    Calls Tryz.prog 44 #[enc t] w fun e w' => ∃ v, e = .returned v ∧ SliceOf w.heap.size w' v ((bindsP t).map bv) ∧ Below w.heap.size w w' := by
  have none : ∀ s : Tm, isFun s = false → isLet s = false → bindsP s = [] → Calls Tryz.prog 44 #[enc s] w fun e w' => ∃ v, e = .returned v ∧ SliceOf w.heap.size w' v ((bindsP s).map bv) ∧ Below w.heap.size w w' := fun s h1 h2 h3 =>
    (boundBy_none s h1 h2 w).mono (by rintro e w' ⟨rfl, rfl⟩; exact ⟨_, rfl, .inl ⟨by rw [h3]; rfl, rfl⟩, Below.refl _ _⟩)
  cases t with
  | fn c b => exact (boundBy_fn c b w).mono (by rintro e w' ⟨o, rfl, rfl⟩; exact ⟨_, rfl, slice_new w o [bv c] _ (by simp), below_two w _ _⟩)
  | fix f c b =>
    by_cases h : f = 0
    · subst h
      exact (boundBy_fn c b w).mono (by rintro e w' ⟨o, rfl, rfl⟩; exact ⟨_, rfl, slice_new w o [bv c] _ (by simp), below_two w _ _⟩)
    · have hf : f.toNat ≠ 0 := fun e => h (by apply UInt8.toNat_inj.1; simpa using e)
      have hb : bindsP (.fix f c b) = [f, c] := by simp [bindsP, h]
      rw [hb]
      exact (boundBy_fix f c b hf w).mono (by rintro e w' ⟨o, rfl, rfl⟩; exact ⟨_, rfl, slice_new w o [bv f, bv c] _ (by simp), below_two w _ _⟩)
  | bind c x b => exact (boundBy_bind c x b w).mono (by rintro e w' ⟨o, rfl, rfl⟩; exact ⟨_, rfl, slice_new w o [bv c] _ (by simp), below_two w _ _⟩)
  | _ => exact none _ rfl rfl rfl
/-- How often a name is bound in a list of terms, as the program counts. -/
def cntP (l : List Tm) (x : UInt8) : Nat := (l.flatMap bindsP).count x
theorem cntP_snoc (l : List Tm) (s : Tm) (x : UInt8) : cntP (l ++ [s]) x = cntP l x + (bindsP s).count x := by
  simp [cntP, List.count_append]
theorem cntP_le (l : List Tm) (x : UInt8) : cntP l x ≤ 2 * l.length := by
  refine Nat.le_trans List.count_le_length ?_
  induction l with
  | nil => simp
  | cons a r ih => have := bindsP_len a; simp only [List.flatMap_cons, List.length_append, List.length_cons]; omega
theorem cntP_good {l : List Tm} (h : ∀ s ∈ l, s.good) (x : UInt8) : cntP l x = cntB l x := by
  have e : l.flatMap bindsP = l.flatMap bindsOf := by
    induction l with
    | nil => rfl
    | cons a r ih => rw [List.flatMap_cons, List.flatMap_cons, bindsP_good (h a (by simp)), ih (fun s hs => h s (by simp [hs]))]
  unfold cntP cntB
  rw [e]

set_option maxRecDepth 100000 in
set_option maxHeartbeats 4000000 in
theorem boundIn_c (t : Tm) (hgd : ∀ s ∈ parts t, s.good) (hp : (parts t).length ≤ 4000) (w : World) :
    Calls Tryz.prog 24 #[enc t] w fun e w' => ∃ b k, e = .returned (.map (some b)) ∧ w.heap.size ≤ b ∧ k ≤ 2 * (parts t).length ∧ Tally w' b k (cntB (parts t)) ∧ Below w.heap.size w w' := by
  have hmm := @run_makeMap Tryz.prog
  refine (callsIn_wide (n := 9)).1 ?_
  refine callsIn_of_wp_marks Tryz.func24 rfl trivial ?_ rfl
  simp only [Tryz.ntmps24, List.size_toArray, List.length_cons, List.length_nil, Nat.reduceAdd, Nat.reduceSub, Array.replicate_succ, Array.replicate_zero, List.push_toArray, List.append_toArray, List.nil_append, List.cons_append]
  obtain ⟨W1, hW1⟩ : ∃ W1, (w.alloc (.map #[] 0)).alloc (.cells #[.map (some w.heap.size)] 54) = W1 := ⟨_, rfl⟩
  have P := partsOf_c 8 t W1
  rw [enc_ty t] at P ⊢
  gi_wp2_with (refine ⟨trivial, ?_⟩; gi_at_call 28; refine P.mono ?_; clear P; rintro e w2 ⟨rfl, rfl⟩)
  have hsz : W1.heap.size = w.heap.size + 2 := by rw [← hW1]; simp
  have hT1 : Tally W1 w.heap.size 0 (fun _ => 0) := by rw [← hW1]; exact (tally_made w).alloc _
  have hx1 : W1.cell? ⟨w.heap.size + 1, 0, none⟩ = some (.map (some w.heap.size)) := by
    rw [← hW1]
    have := (cell_new_v (w.alloc (.map #[] 0)) (.map (some w.heap.size)) 54).1
    rw [World.size_alloc] at this
    exact this
  have hB1 : Below w.heap.size w W1 := by rw [← hW1]; exact ((Below.refl _ w).alloc (Nat.le_refl _) _).alloc (by simp) _
  clear hW1
  have hb := cell_new_v W1 (.iface (ty t) (pl t)) 36
  have hgr0 : W1.grownBy (W1.alloc (.cells #[.iface (ty t) (pl t)] 36)) none := World.grownBy_alloc _ _ none
  have hT2 := hT1.alloc (.cells #[.iface (ty t) (pl t)] 36)
  have hsz2 : (W1.alloc (.cells #[.iface (ty t) (pl t)] 36)).heap.size = w.heap.size + 3 := by simp [hsz]
  obtain ⟨W2, hW2⟩ : ∃ W2, W1.alloc (.cells #[.iface (ty t) (pl t)] 36) = W2 := ⟨_, rfl⟩
  rw [hW2] at hb hgr0 hT2 hsz2 ⊢
  clear hW2
  rw [hsz] at hb ⊢
  have HG := Lib.hid hgd
  clear hgd
  refine wpIn_rangeFunc_ownG rfl (by decide) (gf := 48) (lb := #[.pointer (some ⟨w.heap.size + 2, 0, none⟩)]) rfl trivial (enters_of Tryz.func48 (by kernel_rfl) rfl)
    (parts_stops 8 (w.heap.size + 2) W2.heap.size NoT (told_no _) t W2 (by omega) (Nat.le_refl _) (by rw [enc_ty t]; exact hb.1)) KeepT.trans (fun W l o o' _ h ho _ => keepT_putObj W l o o' h ho) (Below.refl _ _) (fun _ => rfl)
    (fun pre W => W2.grownBy W (some w.heap.size) ∧ Tally W w.heap.size (2 * pre.length) (cntP pre))
    (fun _ _ _ => False)
    (fun pre W W' row h hg hr => ⟨h.1.andThen hg (fun j hj => .inl (hr j hj).1), h.2.kept hg (fun e => by have := (hr _ e.symm).1; omega)⟩)
    (fun _ _ _ _ _ hs _ _ => hs)
    ⟨World.grownBy.refl _ _, hT2.congr (fun c => by simp [cntP])⟩
    (fun x => { tmps := #[.iface (ty t) (pl t), undef, .map none, .pointer (some ⟨w.heap.size + 1, 0, none⟩), enc x, undef, undef, .map (some w.heap.size), .iface (ty t) (pl t), .func (.func 48) #[] #[.pointer (some ⟨w.heap.size + 2, 0, none⟩)], enc x, undef, undef, undef, undef, undef, undef, undef, undef, undef, undef, undef, undef, undef], defers := [] }) ?assign ?body ?done ?stop
  case assign =>
    intro l x W K hK
    have ez : (#[10] : Array Tmp).zip #[enc x] = #[(10, enc x)] := by simp
    rw [ez]
    gi_wp2
    exact hK
  case body =>
    rintro l pre x W ⟨hG, hT⟩ hlt
    have hx := hG.cell (hgr0.cell hx1 (by simp)) (by simp)
    have KB := boundByP_c x W
    have hN : pre.length < 4000 := by omega
    have hszW := hG.size
    rw [enc_ty x] at KB ⊢
    gi_wp2_with (refine ⟨trivial, ?_⟩; gi_at_call 44; refine (CallsIn.inRound l (callsIn_wide.2 KB)).mono ?_; rintro e w3 ⟨v, rfl, hsv, hb3⟩; obtain ⟨a3, rfl, hcell3⟩ := hsv.uni; have HC3 := Lib.hid hcell3; clear hcell3 hsv)
    have hT3 := hT.below hb3
    have hG3 := hG.andThen (below_grown hb3) (fun j hj => by cases hj)
    have hx3 := (hb3.cell (p := ⟨w.heap.size + 1, 0, none⟩) (by simp; omega)).trans hx
    have hbl := bindsP_len x
    have hcp := cntP_le pre
    have hs3 := hb3.size
    clear KB
    obtain ⟨W3, hW3⟩ : ∃ W3, w3 = W3 := ⟨_, rfl⟩
    subst hW3
    gi_loopw [14] (fun i wj => ∃ j : Nat, j ≤ (bindsP x).length ∧ i = .int .i64 j ∧ Tally wj w.heap.size (2 * pre.length + j) (fun c => cntP pre c + ((bindsP x).take j).count c) ∧ w3.grownBy wj (some w.heap.size)) (fun i _ => (bindsP x).length - (intOf i).toNat)
    case atStart => exact ⟨0, Nat.zero_le _, rfl, hT3.congr (fun c => by simp), World.grownBy.refl _ _⟩
    case round =>
      obtain ⟨j, hj, rfl, hTj, hGj⟩ := hrel
      by_cases hltj : j < (bindsP x).length
      · obtain ⟨c, hc⟩ : ∃ c, (bindsP x)[j]? = some c := ⟨_, List.getElem?_eq_getElem hltj⟩
        obtain ⟨g3, rfl, hg31, hg32, hc3⟩ := HC3.out j (bv c) (by simp [hc])
        have hc4 := hGj.cell (a := ⟨g3, j, none⟩) hc3 (by simp; omega)
        have hx4 := hGj.cell hx3 (by simp)
        have hct : ((bindsP x).take j).count c ≤ 2 := Nat.le_trans List.count_le_length (by simp; omega)
        have hcpc := hcp c
        have HH := Lib.hid (fun y => count_take (bindsP x) j c y hc)
        have HCP := Lib.hid hcp
        clear hc hc3 HC3 hcp
        gi_wp2_with (first
          | (gi_at_lookup; refine wpListIn_lookup_tally rfl _ _ rfl rfl hTj c rfl ?_)
          | (gi_at_mapUpdate; refine wpListIn_update_tally rfl _ _ _ rfl rfl hTj c rfl (cntP pre c + ((bindsP x).take j).count c + 1) (by go_num) (by unfold maxLen; omega) (by omega) (by omega) ?_; intro w4 hT4 hg4; go_frame))
        refine ⟨⟨j + 1, by omega, by go_num, hT4.congr (fun y => ?_), hGj.andThen hg4 (fun j hj => Or.inr hj)⟩, by simp [intOf]; omega⟩
        rw [HH.out y]
        by_cases e : y = c
        · subst e; simp [upd]; omega
        · simp [upd, e]
      · obtain rfl : j = (bindsP x).length := by omega
        gi_wp2
        have hGr := (below_grown hb3 |>.but (some w.heap.size)).trans hGj
        refine ⟨KeepsFrom.of_grownBy hGr (fun j hj => by cases hj; omega), hT.keepT hGr, hG3.andThen hGj (fun j hj => Or.inr hj), (hTj.mono (by simp; omega)).congr (fun y => ?_)⟩
        rw [List.take_length, cntP_snoc]
  case done =>
    rintro D ys W hD rfl ⟨hG, hT⟩ hK
    have hx := hG.cell (hgr0.cell hx1 (by simp)) (by simp)
    gi_wp2
    refine ⟨by simp, .inl ⟨_, _, rfl, run_takeDeferred hK, ?_⟩⟩
    refine ⟨_, results_tmp rfl _ _ _, w.heap.size, _, rfl, Nat.le_refl _, Nat.le_refl _, (hT.congr (fun x => cntP_good HG.out x)).kept (grownBy_putObj' _ _ _) (fun e => by have := Option.some.inj e; omega), ?_⟩
    exact ((hB1.grown hgr0 hB1.size (fun j hj => by cases hj)).grown hG (by omega) (fun j hj => by cases hj; exact Nat.le_refl _)).trans (belowK_b (w := w) (Nat.le_refl _) W D _ _ (by omega) hK rfl rfl)
  case stop =>
    rintro D c pre W _ _ h _
    exact h.elim
end Go.Proofs.YtcabmcpalgpfpaaGreatDoor

/- BoundOf: the model's and the program's. -/
namespace Go.Proofs.YtcabmcpalgpfpaaGreatDoor
open Go.RowKit
open Ff
set_option linter.unusedVariables false

theorem readS_parts' {s : Text} {t : Tm} (h : readS s = some t) : (parts t).length ≤ 120 := readS_parts h
theorem parts_good {t s : Tm} (h : t.good) (hs : s ∈ parts t) : s.good := by
  induction t with
  | num n => simp only [parts, List.mem_singleton] at hs; subst hs; exact h
  | var c => simp only [parts, List.mem_singleton] at hs; subst hs; exact h
  | fn c b ih => simp only [parts, List.mem_cons] at hs; rcases hs with rfl | hs; exact h; exact ih h.2 hs
  | fix f c b ih => simp only [parts, List.mem_cons] at hs; rcases hs with rfl | hs; exact h; exact ih h.2.2.2 hs
  | app f a h1 h2 => simp only [parts, List.mem_cons, List.mem_append] at hs; rcases hs with rfl | hs | hs; exact h; exact h1 h.1 hs; exact h2 h.2 hs
  | bind c f a h1 h2 => simp only [parts, List.mem_cons, List.mem_append] at hs; rcases hs with rfl | hs | hs; exact h; exact h1 h.2.1 hs; exact h2 h.2.2 hs
  | op c f a h1 h2 => simp only [parts, List.mem_cons, List.mem_append] at hs; rcases hs with rfl | hs | hs; exact h; exact h1 h.2.1 hs; exact h2 h.2.2 hs
  | sel a b c h1 h2 h3 => simp only [parts, List.mem_cons, List.mem_append] at hs; rcases hs with rfl | hs | hs | hs; exact h; exact h1 h.1 hs; exact h2 h.2.1 hs; exact h3 h.2.2 hs

end Go.Proofs.YtcabmcpalgpfpaaGreatDoor
