import Derived.Test.YtefmmgccdpfnaaaGreatDoorMSc
import Derived.Test.YtefmmgccdpfnaaaGreatDoorMFr
import Derived.Test.YtefmmgccdpfnaaaGreatDoorMCt
/- States: what a text is as one, by the model and by the program; StateValid. Written by genSt.py. -/
namespace Go.Proofs.YtefmmgccdpfnaaaGreatDoor
open Go.RowKit
open Ff
set_option linter.unusedVariables false

/-- What a text is as a long term, to the model. -/
def read4 (s : Text) : Option Tm := if s.length ≤ 1500 then (parse 1500 s).bind fun x => if x.2 = [] then some x.1 else none else none
theorem read4_eq (s : Text) : read4 s = readU 1500 s := by
  unfold read4 readU
  split
  · rename_i hl
    rcases h1 : parse 1500 s with _ | ⟨t, r⟩
    · rcases h2 : parse (s.length + 1) s with _ | ⟨t, r⟩
      · rfl
      · have h3 := parse_any _ _ _ _ h2
        rw [h3.2 1500 (by omega)] at h1
        cases h1
    · rw [(parse_any _ _ _ _ h1).2 (s.length + 1) (by have := (parse_any _ _ _ _ h1).1; omega)]
  · rfl
theorem readU_some {mo : Nat} {s : Text} {t : Tm} (h : readU mo s = some t) : parse (s.length + 1) s = some (t, []) ∧ s.length ≤ mo := by
  unfold readU at h
  split at h
  · rename_i hl
    rcases hp : parse (s.length + 1) s with _ | ⟨t', r⟩
    · rw [hp] at h; simp at h
    · rw [hp] at h
      simp only [Option.bind_some] at h
      split at h
      · rename_i hr
        simp only [Option.some.injEq] at h
        subst h
        have hr2 : r = [] := hr
        rw [hr2]
        exact ⟨rfl, hl⟩
      · simp at h
  · simp at h
theorem readU_good {mo : Nat} {s : Text} {t : Tm} (h : readU mo s = some t) : t.good := parse_good _ _ _ _ (readU_some h).1
theorem readU_parts {mo : Nat} {s : Text} {t : Tm} (h : readU mo s = some t) : (parts t).length ≤ mo := by
  have h1 := parse_parts _ _ _ _ (readU_some h).1
  have h2 := (readU_some h).2
  rw [List.length_nil] at h1
  omega
theorem readU_deep {mo : Nat} {s : Text} {t : Tm} (h : readU mo s = some t) : t.depth ≤ mo := by
  have h1 := (parse_any _ _ _ _ (readU_some h).1).1
  have h2 := (readU_some h).2
  rw [List.length_nil] at h1
  omega

set_option maxRecDepth 100000 in
set_option maxHeartbeats 4000000 in
theorem any4_c (s : Text) (w : World) (hl : s.length ≤ 1500) :
    Calls Tryz.prog 60 #[.string ⟨s.toArray⟩] w (LongPost w ((parse 1500 s).bind fun x => if x.2 = [] then some x.1 else none)) := by
  have S0 : SR (w.heap.size + 1) s ((0 : Nat) : Int) false (-1476) ((w.alloc (.cells #[.int .u8 0, .int .i64 0, .string ⟨#[]⟩, .slice none 0 0] 54)).alloc (.cells #[.string ⟨s.toArray⟩, .int .i64 0, .bool false, .int .i64 (-1476), .bool false, .bool false] 125)) := by
    constructor <;> simp [go_sem]
  have G0 : Good (w.heap.size + 1) s s (24 - ((1500 : Nat) : Int)) ((w.alloc (.cells #[.int .u8 0, .int .i64 0, .string ⟨#[]⟩, .slice none 0 0] 54)).alloc (.cells #[.string ⟨s.toArray⟩, .int .i64 0, .bool false, .int .i64 (-1476), .bool false, .bool false] 125)) := ⟨0, Nat.zero_le _, rfl, S0⟩
  have C := sterm_c 1500 (by omega) (w.heap.size + 1) s s _ G0 (by omega)
  clear G0 S0
  go_enter Tryz.func60, Tryz.ntmps60
  go_wp2_with fail
  refine C.mono ?_
  clear C
  rcases hp : parse 1500 s with _ | ⟨t, r⟩
  · rintro e w1 ⟨v, rfl, hg, ⟨a, d, ha, hsr⟩, k, n, st, aa, l, c, rfl⟩
    have Z := (((Fz_new w).keepNe (b := w.heap.size + 1) (grownBy_alloc (World.grownBy.refl _ _) _) (by omega)).keepNe hg (by omega)).keepNe (b := w.heap.size + 1) (grownBy_alloc (World.grownBy.refl _ _) (.cells #[.int .u8 k, .int .i64 n, .string st, .slice aa l c] 54)) (by omega)
    have A := hsr.alloc (.cells #[.int .u8 k, .int .i64 n, .string st, .slice aa l c] 54)
    have hgs := hg.size
    have hb1 : Below w.heap.size w w1 := (below_two w _ _).trans (below_of_grown hg (by omega) (by simp; omega))
    obtain ⟨p0, p1, p2, p3, q0, q1, q2, q3, sz⟩ := id Z
    obtain ⟨c0, c1, c2, c3, c4, c5, f1, f2, f3⟩ := id A
    have E := Lib.hid (show ((parse 1500 s).bind fun x => if x.2 = [] then some x.1 else none) = none by rw [hp]; rfl)
    clear hp
    go_wp2_with fail
    rw [E.out]
    refine bodyPost_ret (v := .tuple #[zeroTm, .bool false]) (by simp [results, Tryz.results60, go_sem, zeroTm, p0, p1, p2, p3]) rfl ?_
    exact ⟨rfl, ((((hb1.alloc (by have := hb1.size; omega) _).setCell (p := ⟨w.heap.size, 0, none⟩) (Nat.le_refl _) _).setCell (p := ⟨w.heap.size, 1, none⟩) (Nat.le_refl _) _).setCell (p := ⟨w.heap.size, 2, none⟩) (Nat.le_refl _) _).setCell (p := ⟨w.heap.size, 3, none⟩) (Nat.le_refl _) _⟩
  · rintro e w1 ⟨v, rfl, hg, ⟨a, ha, hd, hsr⟩, hrep⟩
    obtain ⟨k, n, st, aa, l, c, rfl⟩ := hrep.junk
    have Z := (((Fz_new w).keepNe (b := w.heap.size + 1) (grownBy_alloc (World.grownBy.refl _ _) _) (by omega)).keepNe hg (by omega)).keepNe (b := w.heap.size + 1) (grownBy_alloc (World.grownBy.refl _ _) (.cells #[.int .u8 k, .int .i64 n, .string st, .slice aa l c] 54)) (by omega)
    have A := hsr.alloc (.cells #[.int .u8 k, .int .i64 n, .string st, .slice aa l c] 54)
    have hgs := hg.size
    have hb1 : Below w.heap.size w w1 := (below_two w _ _).trans (below_of_grown hg (by omega) (by simp; omega))
    obtain ⟨p0, p1, p2, p3, q0, q1, q2, q3, sz⟩ := id Z
    obtain ⟨c0, c1, c2, c3, c4, c5, f1, f2, f3⟩ := id A
    have hbf := fun x0 x1 x2 x3 => ((((hb1.alloc (by have := hb1.size; omega) (.cells #[.int .u8 k, .int .i64 n, .string st, .slice aa l c] 54)).setCell (p := ⟨w.heap.size, 0, none⟩) (Nat.le_refl _) x0).setCell (p := ⟨w.heap.size, 1, none⟩) (Nat.le_refl _) x1).setCell (p := ⟨w.heap.size, 2, none⟩) (Nat.le_refl _) x2).setCell (p := ⟨w.heap.size, 3, none⟩) (Nat.le_refl _) x3
    cases r with
    | cons x r =>
      have hq : ((a : Int) != (s.length : Int)) = true := by
        rw [bne_iff_ne]
        intro h9
        have : a = s.length := by omega
        rw [this] at hd
        simp at hd
      have hq2 : (a != s.length) = true := by rw [bne_iff_ne]; intro h9; rw [h9] at hd; simp at hd
      have HD := Lib.hid hd
      have E := Lib.hid (show ((parse 1500 s).bind fun x => if x.2 = [] then some x.1 else none) = none by rw [hp]; rfl)
      clear hd hp
      go_wp2_with fail
      rw [E.out]
      refine bodyPost_ret (v := .tuple #[zeroTm, .bool false]) (by simp [results, Tryz.results60, go_sem, zeroTm, p0, p1, p2, p3]) rfl ?_
      exact ⟨rfl, hbf _ _ _ _⟩
    | nil =>
      have he : a = s.length := by
        have := congrArg List.length hd
        simp at this
        omega
      have hq : ((a : Int) != (s.length : Int)) = false := by rw [he]; simp
      have hq2 : (a != s.length) = false := by rw [he]; simp
      have HD := Lib.hid hd
      have E := Lib.hid (show ((parse 1500 s).bind fun x => if x.2 = [] then some x.1 else none) = some t by rw [hp]; rfl)
      have HE := Lib.hid he
      clear hd hp he
      go_wp2_with fail
      rw [E.out]
      refine bodyPost_ret (v := .tuple #[.agg #[.int .u8 k, .int .i64 n, .string st, .slice aa l c], .bool true]) (by simp [results, Tryz.results60, go_sem, p0, p1, p2, p3]) rfl ?_
      refine ⟨_, rfl, hbf _ _ _ _, ?_⟩
      refine hrep.keep (fun g' hg' => ?_) (fun g' hg' => ⟨by have := hg'.1; simp at this; omega, ?_⟩)
      · have h1 := hg'.1
        have h2 := hg'.2
        simp at h1
        exact (Wf_heap _ _ _ _ _ _ _ (by omega)).trans (Below.heap_alloc _ _ _ h2)
      · have h2 := hg'.2
        simp [World.setCell]
        omega

set_option maxRecDepth 100000 in
set_option maxHeartbeats 4000000 in
theorem l4Any_c (s : Text) (w : World) (hl : s.length ≤ 9223372036854775807) :
    Calls Tryz.prog 60 #[.string ⟨s.toArray⟩] w (LongPost w (read4 s)) := by
  by_cases h : s.length ≤ 1500
  · have C := any4_c s w h
    have e : read4 s = (parse 1500 s).bind fun x => if x.2 = [] then some x.1 else none := by simp only [read4, if_pos h]
    rw [e]
    exact C
  · have e : read4 s = none := by simp only [read4, if_neg h]
    rw [e]
    have hlt : 1500 < (s.length : Int) := by omega
    go_enter Tryz.func60, Tryz.ntmps60
    go_wp2_with fail
    refine bodyPost_ret (v := .tuple #[zeroTm, .bool false]) (by simp [results, Tryz.results60, go_sem, zeroTm]) rfl ?_
    exact ⟨rfl, (Below.refl _ w).alloc (Nat.le_refl _) _⟩
/-- The state that a text is, if it is one. -/
def stateO (s : Text) : Option Tm := (readU 1500 s).bind fun t => if sfree t = [] then some t else none
/-- A term that may be there, as the program holds it. -/
def encO : Option Tm → Value
  | some t => enc t
  | none => .nilIface
/-- What the model's reading of a state comes to: the term, whatever it is, and whether it is a state. -/
def L4Post (w : World) (o : Option Tm) (e : Ending) (w' : World) : Prop :=
  ∃ v, e = .returned (.tuple #[v, .bool o.isSome]) ∧ Junk v ∧ Below w.heap.size w w' ∧ ∀ t, o = some t → Rep (New w w') w' t v
set_option maxRecDepth 100000 in
set_option maxHeartbeats 4000000 in
theorem l4Read_c (s : Text) (w : World) (hl : s.length ≤ 9223372036854775807) :
    Calls Tryz.prog 35 #[.string ⟨s.toArray⟩] w (L4Post w (stateO s)) := by
  have C := l4Any_c s (w.alloc (.cells #[.int .u8 0, .int .i64 0, .string ⟨#[]⟩, .slice none 0 0] 54)) hl
  rw [read4_eq] at C
  have Z := Fz_new w
  have hb0 : Below w.heap.size w (w.alloc (.cells #[.int .u8 0, .int .i64 0, .string ⟨#[]⟩, .slice none 0 0] 54)) := (Below.refl _ w).alloc (Nat.le_refl _) _
  unfold stateO
  go_enter Tryz.func35, Tryz.ntmps35
  go_wp2_with fail
  refine C.mono ?_
  clear C
  rcases hr : readU 1500 s with _ | t
  · rintro e w1 ⟨rfl, hb1⟩
    have HR := Lib.hid hr
    clear hr
    unfold zeroTm
    have hsz : w.heap.size < w1.heap.size := by have := hb1.size; simp at this; omega
    have hB := hb0.trans (hb1.mono (by simp))
    obtain ⟨p0, p1, p2, p3, q0, q1, q2, q3, sz⟩ := (Z.keepBelow hb1 (by simp)).keepBelow ((Below.refl w1.heap.size w1).alloc (Nat.le_refl _) (.cells #[.int .u8 0, .int .i64 0, .string ⟨#[]⟩, .slice none 0 0] 54)) hsz
    have z := World.alloc_heap_new w1 (.cells #[.int .u8 0, .int .i64 0, .string ⟨#[]⟩, .slice none 0 0] 54)
    have hBd' := (hB.alloc hB.size (.cells #[.int .u8 0, .int .i64 0, .string ⟨#[]⟩, .slice none 0 0] 54))
    go_wp2_with fail
    generalize w1.alloc (.cells #[.int .u8 0, .int .i64 0, .string ⟨#[]⟩, .slice none 0 0] 54) = W at *
    obtain ⟨a0, a1, a2, a3⟩ : W.cell? ⟨w1.heap.size, 0, none⟩ = some (.int .u8 0) ∧ W.cell? ⟨w1.heap.size, 1, none⟩ = some (.int .i64 0) ∧ W.cell? ⟨w1.heap.size, 2, none⟩ = some (.string ⟨#[]⟩) ∧ W.cell? ⟨w1.heap.size, 3, none⟩ = some (.slice none 0 0) := by
      refine ⟨?_, ?_, ?_, ?_⟩ <;> simp [World.cell?, z]
    go_region
    go_wp2_with fail
    refine bodyPost_ret (v := .tuple #[zeroTm, .bool false]) (by simp [results, Tryz.results35, go_sem, zeroTm, p0, p1, p2, p3]) rfl ?_
    rw [HR.out]
    refine ⟨_, rfl, ⟨_, _, _, _, _, _, rfl⟩, ?_, fun t h => by cases h⟩
    exact ((((hBd'.setCell (p := ⟨w.heap.size, 0, none⟩) (Nat.le_refl _) _).setCell (p := ⟨w.heap.size, 1, none⟩) (Nat.le_refl _) _).setCell (p := ⟨w.heap.size, 2, none⟩) (Nat.le_refl _) _).setCell (p := ⟨w.heap.size, 3, none⟩) (Nat.le_refl _) _).drew
  · rintro e w1 ⟨v, rfl, hb1, hrep⟩
    have hd := readU_deep hr
    have hgd := readU_good hr
    have HR := Lib.hid hr
    clear hr
    obtain ⟨x, y, st, aa, l, cc, rfl⟩ := hrep.junk
    have hsz : w.heap.size < w1.heap.size := by have := hb1.size; simp at this; omega
    have hB := hb0.trans (hb1.mono (by simp))
    have hrep1 : Rep (fun g => w.heap.size < g ∧ g < w1.heap.size) w1 t (.agg #[.int .u8 x, .int .i64 y, .string st, .slice aa l cc]) := hrep.keep (fun g h => rfl) (fun g h => ⟨by have := h.1; simp at this; omega, h.2⟩)
    clear hrep
    obtain ⟨p0, p1, p2, p3, q0, q1, q2, q3, sz⟩ := (Z.keepBelow hb1 (by simp)).keepBelow ((Below.refl w1.heap.size w1).alloc (Nat.le_refl _) (.cells #[.int .u8 x, .int .i64 y, .string st, .slice aa l cc] 54)) hsz
    have z := World.alloc_heap_new w1 (.cells #[.int .u8 x, .int .i64 y, .string st, .slice aa l cc] 54)
    have hBd' := (hB.alloc hB.size (.cells #[.int .u8 x, .int .i64 y, .string st, .slice aa l cc] 54))
    have hB1 := (Below.refl w1.heap.size w1).alloc (Nat.le_refl _) (.cells #[.int .u8 x, .int .i64 y, .string st, .slice aa l cc] 54)
    have hs1 : w1.heap.size < (w1.alloc (.cells #[.int .u8 x, .int .i64 y, .string st, .slice aa l cc] 54)).heap.size := by simp
    go_wp2_with fail
    generalize w1.alloc (.cells #[.int .u8 x, .int .i64 y, .string st, .slice aa l cc] 54) = W at *
    obtain ⟨a0, a1, a2, a3⟩ : W.cell? ⟨w1.heap.size, 0, none⟩ = some (.int .u8 x) ∧ W.cell? ⟨w1.heap.size, 1, none⟩ = some (.int .i64 y) ∧ W.cell? ⟨w1.heap.size, 2, none⟩ = some (.string st) ∧ W.cell? ⟨w1.heap.size, 3, none⟩ = some (.slice aa l cc) := by
      refine ⟨?_, ?_, ?_, ?_⟩ <;> simp [World.cell?, z]
    have D : Calls Tryz.prog 61 #[.agg #[.int .u8 x, .int .i64 y, .string st, .slice aa l cc]] W.drew fun e W2 => e = .returned (.string ⟨(sfree t).toArray⟩) ∧ Below W.heap.size W W2 ∧
        (W2.cell? ⟨w1.heap.size, 0, none⟩ = some (.int .u8 x) ∧ W2.cell? ⟨w1.heap.size, 1, none⟩ = some (.int .i64 y) ∧ W2.cell? ⟨w1.heap.size, 2, none⟩ = some (.string st) ∧ W2.cell? ⟨w1.heap.size, 3, none⟩ = some (.slice aa l cc)) ∧
        (W2.cell? ⟨w.heap.size, 0, none⟩ = some (.int .u8 0) ∧ W2.cell? ⟨w.heap.size, 1, none⟩ = some (.int .i64 0) ∧ W2.cell? ⟨w.heap.size, 2, none⟩ = some (.string ⟨#[]⟩) ∧ W2.cell? ⟨w.heap.size, 3, none⟩ = some (.slice none 0 0)) ∧
        (W2.frozen? ⟨w.heap.size, 0, none⟩ = false ∧ W2.frozen? ⟨w.heap.size, 1, none⟩ = false ∧ W2.frozen? ⟨w.heap.size, 2, none⟩ = false ∧ W2.frozen? ⟨w.heap.size, 3, none⟩ = false) :=
      (free_c 4000 t w1.heap.size _ W.drew (by omega) (by omega) (hrep1.keep (fun g h => hB1.drew.block g h.2) (fun g h => h.2)) (by show _ ≤ W.heap.size; omega) hgd).mono fun e W2 ⟨h1, h2⟩ => by
        have hb : Below W.heap.size W W2 := (Below.refl _ W).drew.trans h2
        exact ⟨h1, hb, ⟨(hb.cell (p := ⟨w1.heap.size, 0, none⟩) hs1).trans a0, (hb.cell (p := ⟨w1.heap.size, 1, none⟩) hs1).trans a1, (hb.cell (p := ⟨w1.heap.size, 2, none⟩) hs1).trans a2, (hb.cell (p := ⟨w1.heap.size, 3, none⟩) hs1).trans a3⟩,
          ⟨(hb.cell (p := ⟨w.heap.size, 0, none⟩) sz).trans p0, (hb.cell (p := ⟨w.heap.size, 1, none⟩) sz).trans p1, (hb.cell (p := ⟨w.heap.size, 2, none⟩) sz).trans p2, (hb.cell (p := ⟨w.heap.size, 3, none⟩) sz).trans p3⟩,
          ⟨(hb.frozen (p := ⟨w.heap.size, 0, none⟩) sz).trans q0, (hb.frozen (p := ⟨w.heap.size, 1, none⟩) sz).trans q1, (hb.frozen (p := ⟨w.heap.size, 2, none⟩) sz).trans q2, (hb.frozen (p := ⟨w.heap.size, 3, none⟩) sz).trans q3⟩⟩
    have HRep := Lib.hid hrep1
    clear hrep1 z
    go_region_with (first | (go_at_call 61; refine D.mono ?_; clear D; rintro e W2 ⟨rfl, hb2, ⟨b0, b1, b2, b3⟩, ⟨c0, c1, c2, c3⟩, f0, f1, f2, f3⟩))
    all_goals
      go_wp2_with fail
      refine bodyPost_ret (v := .tuple #[.agg #[.int .u8 x, .int .i64 y, .string st, .slice aa l cc], .bool (sfree t).isEmpty]) (by simp [results, Tryz.results35, go_sem, c0, c1, c2, c3]) rfl ?_
      rw [HR.out]
      have e9 : ((some t).bind fun t => if sfree t = [] then some t else none).isSome = (sfree t).isEmpty := by cases h : sfree t <;> simp [h]
      refine ⟨_, by rw [e9], ⟨_, _, _, _, _, _, rfl⟩, ?_, fun t' h' => ?_⟩
      · have h9 := hBd'.trans (hb2.mono hBd'.size)
        exact (((h9.setCell (p := ⟨w.heap.size, 0, none⟩) (Nat.le_refl _) _).setCell (p := ⟨w.heap.size, 1, none⟩) (Nat.le_refl _) _).setCell (p := ⟨w.heap.size, 2, none⟩) (Nat.le_refl _) _).setCell (p := ⟨w.heap.size, 3, none⟩) (Nat.le_refl _) _
      · have e8 : t' = t := by
          simp only [Option.bind_some] at h'
          split at h'
          · exact (Option.some.inj h').symm
          · cases h'
        subst e8
        refine HRep.out.keep (fun g hg => ?_) (fun g hg => ⟨by omega, ?_⟩)
        · have h1 := hg.1
          have h2 := hg.2
          exact (Below.heap_setCell _ _ _ _ (by simp; omega)).trans ((Below.heap_setCell _ _ _ _ (by simp; omega)).trans ((Below.heap_setCell _ _ _ _ (by simp; omega)).trans ((Below.heap_setCell _ _ _ _ (by simp; omega)).trans ((hb2.block _ (by omega)).trans (hB1.block _ h2)))))
        · have h2 := hg.2
          have h3 := hb2.size
          simp [World.setCell]
          omega
set_option maxRecDepth 100000 in
set_option maxHeartbeats 2000000 in
theorem readState_c (s : Text) (w : World) (hl : s.length ≤ 9223372036854775807) :
    Calls Tryz.prog 33 #[.string ⟨s.toArray⟩] w fun e w' => e = .returned (.tuple #[.agg #[encO (stateO s)], .bool (stateO s).isSome]) ∧ Below w.heap.size w w' := by
  have C := upto_c 1500 (by omega) s (w.alloc (.cells #[.nilIface] 46)) hl
  have hb0 := (Below.refl _ w).alloc (Nat.le_refl _) (.cells #[.nilIface] 46)
  have hs0 : w.heap.size < (w.alloc (.cells #[.nilIface] 46)).heap.size := by simp
  have z := World.alloc_heap_new w (.cells #[.nilIface] 46)
  unfold stateO
  go_enter Tryz.func33, Tryz.ntmps33
  generalize hW0 : w.alloc (.cells #[.nilIface] 46) = W0 at *
  go_wp2_with fail
  refine C.mono ?_
  clear C
  rcases hr : readU 1500 s with _ | t
  · rintro e w1 ⟨rfl, hb1⟩
    have HR := Lib.hid hr
    clear hr
    obtain ⟨p0, pf⟩ : w1.cell? ⟨w.heap.size, 0, none⟩ = some .nilIface ∧ w1.frozen? ⟨w.heap.size, 0, none⟩ = false := by
      have h := (hb1.block _ hs0).trans z
      constructor <;> simp [World.cell?, World.frozen?, h]
    go_wp2_with fail
    refine bodyPost_ret (v := .tuple #[.agg #[.nilIface], .bool false]) (by simp [results, Tryz.results33, go_sem, p0]) rfl ?_
    rw [HR.out]
    exact ⟨rfl, (hb0.trans (hb1.mono hb0.size)).setCell (p := ⟨w.heap.size, 0, none⟩) (Nat.le_refl _) _⟩
  · rintro e w1 ⟨rfl, hb1⟩
    have hd := readU_deep hr
    have hgd := readU_good hr
    have hpp := readU_parts hr
    have HR := Lib.hid hr
    clear hr
    have D := freeIn_c 4000 t w1 (by omega) (Nat.le_refl _) (by omega) hgd
    obtain ⟨n, v, hv⟩ := enc_gen t
    have HV := Lib.hid hv
    rw [hv] at D ⊢
    clear hv
    by_cases hz : sfree t = []
    · have hall := (free_nil hgd).1 hz
      have E := Lib.hid (show ((some t : Option Tm).bind fun t => if sfree t = [] then some t else none) = some t by simp [hz])
      have HA := Lib.hid hall
      clear hz hall
      go_wp2_with (go_at_call 41; refine D.mono ?_; clear D; rintro e w2 ⟨b, k, rfl, hbb, hk, hT, hb2⟩; obtain ⟨n0, hn0, hn1, hlen⟩ := hT.len; (have h00 := hn0.2 HA.out); subst h00; clear hn0; obtain ⟨p0, pf⟩ : w2.cell? ⟨w.heap.size, 0, none⟩ = some .nilIface ∧ w2.frozen? ⟨w.heap.size, 0, none⟩ = false := (by have h := (hb2.block _ (Nat.lt_of_lt_of_le hs0 hb1.size)).trans ((hb1.block _ hs0).trans z); constructor <;> simp [World.cell?, World.frozen?, h]))
      refine bodyPost_ret (v := .tuple #[.agg #[.iface n v], .bool true]) (by simp [results, Tryz.results33, go_sem, p0]) rfl ?_
      rw [HR.out, E.out]
      exact ⟨by rw [encO, HV.out]; rfl, (((hb0.trans (hb1.mono hb0.size)).trans (hb2.mono (by have := hb0.size; have := hb1.size; omega))).setCell (p := ⟨w.heap.size, 0, none⟩) (Nat.le_refl _) _)⟩
    · have hall : ¬ ∀ x, cntF t x = 0 := fun h => hz ((free_nil hgd).2 h)
      have E := Lib.hid (show ((some t : Option Tm).bind fun t => if sfree t = [] then some t else none) = none by simp [hz])
      have HA := Lib.hid hall
      clear hz hall
      go_wp2_with (go_at_call 41; refine D.mono ?_; clear D; rintro e w2 ⟨b, k, rfl, hbb, hk, hT, hb2⟩; obtain ⟨n0, hn0, hn1, hlen⟩ := hT.len; have hpos : 0 < n0 := Nat.pos_of_ne_zero (fun e => HA.out (hn0.1 e)); clear hn0; obtain ⟨p0, pf⟩ : w2.cell? ⟨w.heap.size, 0, none⟩ = some .nilIface ∧ w2.frozen? ⟨w.heap.size, 0, none⟩ = false := (by have h := (hb2.block _ (Nat.lt_of_lt_of_le hs0 hb1.size)).trans ((hb1.block _ hs0).trans z); constructor <;> simp [World.cell?, World.frozen?, h]))
      refine bodyPost_ret (v := .tuple #[.agg #[.nilIface], .bool false]) (by simp [results, Tryz.results33, go_sem, p0]) rfl ?_
      rw [HR.out, E.out]
      exact ⟨rfl, (((hb0.trans (hb1.mono hb0.size)).trans (hb2.mono (by have := hb0.size; have := hb1.size; omega))).setCell (p := ⟨w.heap.size, 0, none⟩) (Nat.le_refl _) _)⟩
set_option maxHeartbeats 1000000 in
theorem sStateValid_c (s : Text) (w : World) (hl : s.length ≤ 9223372036854775807) :
    Calls Tryz.prog 28 #[.string ⟨s.toArray⟩] w fun e w' => e = .returned (.bool (stateO s).isSome) ∧ Below w.heap.size w w' := by
  have C := l4Read_c s w hl
  go_enter Tryz.func28, Tryz.ntmps28
  go_wp2_with fail
  refine C.mono ?_
  rintro e w1 ⟨v, rfl, ⟨k, n, st, aa, l, c, rfl⟩, hb1, _⟩
  go_wp2_with fail
  go_ret
  exact ⟨rfl, hb1.alloc hb1.size _⟩
set_option maxHeartbeats 1000000 in
theorem iStateValid_c (s : Text) (w : World) (hl : s.length ≤ 9223372036854775807) :
    Calls Tryz.prog 13 #[.string ⟨s.toArray⟩] w fun e w' => e = .returned (.bool (stateO s).isSome) ∧ Below w.heap.size w w' := by
  have C := readState_c s w hl
  obtain ⟨v, hv⟩ : ∃ v : Value, encO (stateO s) = v ∧ (v = .nilIface ∨ ∃ n u, v = .iface n u) := by
    rcases stateO s with _ | t
    · exact ⟨_, rfl, .inl rfl⟩
    · exact ⟨_, rfl, .inr (enc_gen t)⟩
  rw [hv.1] at C
  rcases hv.2 with rfl | ⟨n, u, rfl⟩
  all_goals
    go_enter Tryz.func13, Tryz.ntmps13
    go_wp2_with fail
    refine C.mono ?_
    rintro e w1 ⟨rfl, hb1⟩
    go_wp2_with fail
    go_ret
    exact ⟨rfl, hb1.alloc hb1.size _⟩
end Go.Proofs.YtefmmgccdpfnaaaGreatDoor
