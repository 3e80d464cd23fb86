import Derived.Test.YtefmmgccdpfnaaaGreatDoorStP
import Derived.Test.YtefmmgccdpfnaaaGreatDoorMPe
import Derived.Test.YtefmmgccdpfnaaaGreatDoorMSc
/- The specification's l4Next and l4At: the path to the part that is next, and what lies there. -/
namespace Go.Proofs.YtefmmgccdpfnaaaGreatDoor
open Go.RowKit
open Ff
set_option linter.unusedVariables false

theorem Rep.kind {S : Nat → Prop} {w : World} {t : Tm} {k n : Int} {s : ByteArray} {a : Option Addr} {l c : Nat} (h : Rep S w t (.agg #[.int .u8 k, .int .i64 n, .string s, .slice a l c])) : k = (kindOf t : Int) ∧ n = (numOf t : Int) ∧ s = ⟨(namesOf t).toArray⟩ ∧ l = t.kids.length := by
  generalize hv : Value.agg #[.int .u8 k, .int .i64 n, .string s, .slice a l c] = v at h
  cases h with
  | mk g cap c' hg hc hk =>
    unfold tmHead at hv
    simp only [Value.agg.injEq, Array.mk.injEq, List.cons.injEq, and_true] at hv
    obtain ⟨h1, h2, h3, h4⟩ := hv
    injection h1 with _ h1
    injection h2 with _ h2
    injection h3 with h3
    injection h4 with _ h4 _
    exact ⟨h1, h2, h3, h4⟩
theorem val_c {S : Nat → Prop} {w : World} {t : Tm} {k n : Int} {s : ByteArray} {a : Option Addr} {l c : Nat} (hg : t.good) (h : Rep S w t (.agg #[.int .u8 k, .int .i64 n, .string s, .slice a l c])) (W : World) :
    Calls Tryz.prog 51 #[.agg #[.int .u8 k, .int .i64 n, .string s, .slice a l c]] W fun e w' => e = .returned (.bool t.isVal) ∧ Below W.heap.size W w' := by
  have := h.kind.1
  subst this
  have K := l1Value_c (kindOf t : Int) n s a l c W
  rw [kind_val hg] at K
  exact K
/-- A path's numbers. -/
abbrev iV (k : Nat) : Value := .int .i64 (k : Int)
/-- A path lies in a block. -/
def PathAt (W : World) (g : Nat) (p : List Nat) : Prop := g < W.heap.size ∧ ∀ (j : Nat) (u : Value), (p.map iV)[j]? = some u → W.cell? ⟨g, j, none⟩ = some u
theorem Tryz.infoIntS : (Tryz.prog.info? 3).map (fun i => (i.zero, i.size, i.bytes)) = some (some (.int .i64 0), 1, 8) := by kernel_rfl
/-- And the row has room for it. -/
def PathC (c : Nat) (W : World) (g : Nat) (p : List Nat) : Prop := PathAt W g p ∧ p.length ≤ c
/-- What the search for the next part comes to. -/
def NextC (n : Nat) : Prop := ∀ (S : Nat → Prop) (t : Tm) (v : Value) (w : World), t.depth ≤ n → n ≤ 4000 → t.good → (∀ x, cntF t x = 0) → (∀ g, S g → g < w.heap.size) → Rep S w t v →
  Calls Tryz.prog 55 #[v] w fun e w' => ∃ g cap, e = .returned (.tuple #[.slice (some ⟨g, 0, none⟩) (redexP t).length cap, .bool (!t.isVal)]) ∧ PathC cap w' g (redexP t) ∧ Below w.heap.size w w'
theorem path_new (W : World) : PathAt (W.alloc (.cells #[] 3)) W.heap.size [] := ⟨by simp, fun j u h => by simp at h⟩
set_option maxRecDepth 100000 in
set_option maxHeartbeats 2000000 in
theorem next_val (S : Nat → Prop) (t : Tm) (v : Value) (w : World) (hg : t.good) (hS : ∀ g, S g → g < w.heap.size) (hrep : Rep S w t v) (hv : t.isVal = true) :
    Calls Tryz.prog 55 #[v] w fun e w' => ∃ g cap, e = .returned (.tuple #[.slice (some ⟨g, 0, none⟩) (redexP t).length cap, .bool (!t.isVal)]) ∧ PathC cap w' g (redexP t) ∧ Below w.heap.size w w' := by
  obtain ⟨x0, x1, x2, x3, x4, x5, rfl⟩ := hrep.junk
  have K := fun W => val_c hg hrep W
  rw [redexP_val hv, hv]
  rw [hv] at K
  have hb0 := (Below.refl _ w).alloc (Nat.le_refl _) (tmO x0 x1 x2 x3 x4 x5)
  go_enter Tryz.func55, Tryz.ntmps55
  go_wp2_with (go_at_call 51; refine (K _).mono ?_; clear K; rintro e w2 ⟨rfl, hb2⟩)
  go_ret2
  have hB : Below w.heap.size w w2 := hb0.trans (hb2.mono (by simp))
  exact ⟨_, _, rfl, ⟨path_new w2, Nat.zero_le _⟩, hB.alloc hB.size _⟩
/-- The box of the part at the head of a round. -/
structure NxW (w : World) (k n : Int) (s : ByteArray) (a : Option Addr) (l c : Nat) (W : World) : Prop where
  box : W.heap[w.heap.size]? = some (tmO k n s a l c)
  below : Below w.heap.size w W
theorem NxW.keep {w W W' : World} {k n : Int} {s : ByteArray} {a : Option Addr} {l c : Nat} (h : NxW w k n s a l c W) (hb : Below W.heap.size W W') : NxW w k n s a l c W' :=
  ⟨(hb.block _ (Array.getElem?_eq_some_iff.1 h.box).1).trans h.box, h.below.trans (hb.mono h.below.size)⟩
theorem one_path {W : World} {base m : Nat} {v' : Value} {k : Nat} {p : List Nat} (h : W.ownsRow base 3 1 v' m ([iV k] ++ p.map iV)) (hm : m = p.length + 1) (hv : v' ≠ .slice none 0 0) : ∃ g cap, v' = .slice (some ⟨g, 0, none⟩) (k :: p).length cap ∧ PathC cap W g (k :: p) := by
  have h0 := h
  obtain ⟨_, ⟨h1, _⟩ | ⟨g, cap, cur, h1, h2, h3, h4, _⟩⟩ := h
  · exact absurd h1 hv
  · refine ⟨g, cap, by rw [h1, hm]; rfl, ⟨(Array.getElem?_eq_some_iff.1 h3).1, fun j u hj => ?_⟩, by rw [List.length_cons, ← hm]; exact h4⟩
    subst h1
    have c := h0.cells (g := g) rfl j u (by simpa using hj)
    rw [Addr.add_lit, Nat.zero_add] at c
    exact c
/- GEN nodes -/
set_option maxRecDepth 100000 in
set_option maxHeartbeats 8000000 in
theorem next_one (n : Nat) (ih : NextC n) (S : Nat → Prop) (t : Tm) (v : Value) (w : World) (hd : t.depth ≤ n + 1) (hn : n + 1 ≤ 4000) (hg : t.good) (hc0 : ∀ x, cntF t x = 0) (hS : ∀ g, S g → g < w.heap.size) (hrep : Rep S w t v) (hv : t.isVal = false) (hm : (evalK t).length = 1) (b1 b3 : Bool) (h1 : ((kindOf t : Int) == 61) = b1) (h3 : ((kindOf t : Int) == 63) = b3) (hb : (b1 || b3) = true) (h0 : ((kindOf t : Int) == 118) = false) :
    Calls Tryz.prog 55 #[v] w fun e w' => ∃ g cap, e = .returned (.tuple #[.slice (some ⟨g, 0, none⟩) (redexP t).length cap, .bool (!t.isVal)]) ∧ PathC cap w' g (redexP t) ∧ Below w.heap.size w w' := by
  obtain ⟨i0, hi, hz0, hz1, hz2⟩ := info_parts Tryz.infoIntS
  have hml := evalK_len t
  have hL3 : t.kids.length ≤ 3 := by cases t <;> simp [Tm.kids]
  have hrl := redexP_len t
  have hmk : 1 ≤ t.kids.length := by
    rcases Nat.eq_zero_or_pos (1) with h | h
    · omega
    · have h9 : (evalK t)[1 - 1]? = some ((evalK t)[1 - 1]'(by omega)) := List.getElem?_eq_getElem _
      have := (List.getElem?_eq_some_iff.1 (evalK_kid h9)).1
      omega
  have KV0 := fun W => (by obtain ⟨x0, x1, x2, x3, x4, x5, rfl⟩ := hrep.junk; exact ⟨x0, x1, x2, x3, x4, x5, rfl, val_c hg hrep W⟩ : ∃ (x0 x1 : Int) (x2 : ByteArray) (x3 : Option Addr) (x4 x5 : Nat), v = .agg #[.int .u8 x0, .int .i64 x1, .string x2, .slice x3 x4 x5] ∧ Calls Tryz.prog 51 #[.agg #[.int .u8 x0, .int .i64 x1, .string x2, .slice x3 x4 x5]] W fun e w' => e = .returned (.bool t.isVal) ∧ Below W.heap.size W w')
  cases hrep with
  | mk _ g cap c hgS hc hkr =>
  have hgw := hS g hgS
  have KV : ∀ W, Calls Tryz.prog 51 #[.agg #[.int .u8 (kindOf t : Int), .int .i64 (numOf t : Int), .string ⟨(namesOf t).toArray⟩, .slice (some ⟨g, 0, none⟩) t.kids.length cap]] W fun e w' => e = .returned (.bool t.isVal) ∧ Below W.heap.size W w' := fun W => by
    obtain ⟨x0, x1, x2, x3, x4, x5, he, K⟩ := KV0 W
    rw [← he] at K
    exact K
  clear KV0
  have KC := fun (k : Nat) (s : Tm) (hs : t.kids[k]? = some s) => kid_cells hgw hc hkr hs
  have KN := fun (k : Nat) (s : Tm) (hs : (evalK t)[k]? = some s) (y0 y1 : Int) (y2 : ByteArray) (y3 : Option Addr) (y4 y5 : Nat) (hr : Rep S w s (.agg #[.int .u8 y0, .int .i64 y1, .string y2, .slice y3 y4 y5])) (W : World) (hW : Below w.heap.size w W) =>
    ih S s _ W (by have := kid_depth (List.mem_of_getElem? (evalK_kid hs)); omega) (by omega) (Tm.kid_good hg (List.mem_of_getElem? (evalK_kid hs))) (evalK_closed hs hc0) (fun g hg => by have := hS g hg; have := hW.size; omega) (hr.keep (fun g hg => hW.block g (hS g hg)) (fun g hg => hg))
  have KK := fun (k : Nat) (s : Tm) (hs : (evalK t)[k]? = some s) => Tm.kid_good hg (List.mem_of_getElem? (evalK_kid hs))
  clear hc hkr hc0
  unfold tmHead
  rw [hv] at KV ⊢
  have z0 := alloc_here w (tmO (kindOf t : Int) (numOf t : Int) ⟨(namesOf t).toArray⟩ (some ⟨g, 0, none⟩) t.kids.length cap)
  have hb0 := (Below.refl _ w).alloc (Nat.le_refl _) (tmO (kindOf t : Int) (numOf t : Int) ⟨(namesOf t).toArray⟩ (some ⟨g, 0, none⟩) t.kids.length cap)
  have HM := Lib.hid hm
  have HV := Lib.hid hv
  clear hm hv
  cases b1 <;> cases b3
  · cases hb
  all_goals
    go_enter Tryz.func55, Tryz.ntmps55
    go_wp2_with (go_at_call 51; refine (KV _).mono ?_; clear KV; rintro e w2 ⟨rfl, hb2⟩; have hX : NxW w (kindOf t : Int) (numOf t : Int) ⟨(namesOf t).toArray⟩ (some ⟨g, 0, none⟩) t.kids.length cap w2 := (NxW.keep ⟨z0, hb0⟩ hb2); obtain ⟨c0, c1, c2, c3, _⟩ := cells4 hX.box)
    clear z0 hb0 c0 c1 c2 c3
    go_loopw [28] (fun ix wr => ∃ (k : Nat), k ≤ 1 ∧ ix = .int .i64 k ∧ (∀ (j : Nat) (r : Tm), j < k → (evalK t)[j]? = some r → r.isVal = true) ∧ NxW w (kindOf t : Int) (numOf t : Int) ⟨(namesOf t).toArray⟩ (some ⟨g, 0, none⟩) t.kids.length cap wr) (fun ix _ => 1 - (intOf ix).toNat)
    case atStart => exact ⟨0, Nat.zero_le _, rfl, fun j r h => by omega, hX⟩
    case round =>
      obtain ⟨k, hkl, rfl, hprev, hX⟩ := hrel
      obtain ⟨c0, c1, c2, c3, _⟩ := cells4 hX.box
      have hBl := hX.below
      by_cases hlt : k < 1
      · obtain ⟨s, hs⟩ : ∃ s, (evalK t)[k]? = some s := ⟨_, List.getElem?_eq_getElem (by rw [HM.out]; exact hlt)⟩
        have hltL : (k : Int) < (t.kids.length : Int) := by omega
        obtain ⟨y0, y1, y2, y3, y4, y5, hrs, hcc⟩ := KC k s (evalK_kid hs)
        obtain ⟨e0, e1, e2, e3⟩ := hcc wr hBl
        have KS := val_c (KK k s hs) hrs wr
        have KN2 := fun W hW => KN k s hs y0 y1 y2 y3 y4 y5 hrs W hW
        have HSS := Lib.hid hs
        have HPV := Lib.hid hprev
        have HLT := Lib.hid hlt
        clear hs hprev KC KN KK
        cases hsv : s.isVal
        · have hpth := redexP_some HSS.out hsv HPV.out
          have hpl : (redexP t).length = (redexP s).length + 1 := by rw [hpth]; rfl
          have hps : (redexP s).length ≤ 4000 := by omega
          have HPL := Lib.hid hpl
          clear hpl
          rw [hsv] at KS
          simp only [hsv] at KN2
          have HPT := Lib.hid hpth
          clear hsv hpth
          go_wp2_with (first
            | (go_at_call 51; refine KS.mono ?_; clear KS; rintro e w3 ⟨rfl, hb3⟩
               have hB3 : Below w.heap.size w w3 := hBl.trans (hb3.mono hBl.size)
               obtain ⟨a0, a1, a2, a3, _⟩ := cells4 (hX.keep hb3).box
               obtain ⟨d0, d1, d2, d3⟩ := hcc w3 hB3
               have C := KN2 w3 hB3
               clear KN2)
            | (go_at_call 55; refine C.mono ?_; clear C; rintro e w4 ⟨gp, cp, rfl, hp4, hb4⟩
               have hB4 : Below w.heap.size w w4 := hB3.trans (hb4.mono hB3.size)
               have hown := World.ownsRow_lit (base := w4.heap.size) (e := 3) (size := 1) w4 #[iV k] 1 (Nat.le_refl _) (by unfold maxLen; omega) rfl
               have hnw : ∀ (j : Nat) (u : Value), ((redexP s).map iV)[j]? = some u → (w4.alloc (.cells #[iV k] 3)).cell? ((⟨gp, 0, none⟩ : Addr).add j) = some u := fun j u hj => by
                 rw [Addr.add_lit, Nat.zero_add, World.cell?_of_block (a := ⟨gp, j, none⟩) (alloc_far w4 _ hp4.1.1)]
                 exact hp4.1.2 j u hj
               have q6 : ∀ u ∈ (redexP s).map iV, u.oneCell' = true := by
                 intro u hu
                 obtain ⟨k, _, rfl⟩ := List.mem_map.1 hu
                 rfl
               have q7 : ((redexP s).map iV).length = (redexP s).length * 1 := by simp
               have q8 : 1 + (redexP s).length ≤ maxLen := by unfold maxLen; omega
               have q9 : w4.heap.size ≤ (w4.alloc (.cells #[iV k] 3)).heap.size := by simp)
            | (at_builtin; (refine wpList_append_own_at _ rfl _ _ 75 rfl w4.heap.size 3 i0 _ 1 8 Tryz.underlying75 hi hz0 hz1 hz2 rfl (by decide) _ _ _ rfl hown ⟨gp, 0, none⟩ _ _ _ rfl q7 hnw q6 q8 (by omega) q9 ?_); intro v' w5 hown' hgrow hnil _
               obtain ⟨g5, c5, hv5, hp5⟩ := one_path hown' (Nat.add_comm _ _) (fun e => by have h9 := (hnil.1 e).1; cases h9)
               rw [← HPT.out] at hv5 hp5
               subst hv5))
          refine bodyPost_ret (v := .tuple #[.slice (some ⟨g5, 0, none⟩) (redexP t).length c5, .bool true]) (by simp [results, Tryz.results55, go_sem]) rfl ?_
          refine ⟨g5, c5, rfl, hp5, ?_⟩
          exact (hB4.alloc hB4.size _).grown hgrow (hB4.alloc hB4.size _).size (fun j hj => by have : w4.heap.size = j := Option.some.inj hj; have := hB4.size; omega)
        · rw [hsv] at KS
          have HSV := Lib.hid hsv
          clear hsv KN2
          go_wp2_with (go_at_call 51; refine KS.mono ?_; clear KS; rintro e w3 ⟨rfl, hb3⟩)
          refine ⟨⟨k + 1, by have := HLT.out; omega, by go_num, fun j r hj hr => ?_, hX.keep hb3⟩, by have := HLT.out; simp [intOf]; omega⟩
          by_cases hjk : j < k
          · exact HPV.out j r hjk hr
          · obtain rfl : j = k := by omega
            rw [HSS.out] at hr
            injection hr with hr
            rw [← hr]
            exact HSV.out
      · have hnone := redexP_none (t := t) (fun j s hs => hprev j s (by have := (List.getElem?_eq_some_iff.1 hs).1; have := HM.out; omega) hs)
        have HNO := Lib.hid hnone
        clear hnone hprev KC KN KK
        go_wp2_with fail
        refine bodyPost_ret (v := .tuple #[.slice (some ⟨wr.heap.size, 0, none⟩) 0 0, .bool true]) (by simp [results, Tryz.results55, go_sem]) rfl ?_
        rw [HNO.out]
        exact ⟨_, _, rfl, ⟨path_new wr, Nat.zero_le _⟩, hBl.alloc hBl.size _⟩
set_option maxRecDepth 100000 in
set_option maxHeartbeats 8000000 in
theorem next_all (n : Nat) (ih : NextC n) (S : Nat → Prop) (t : Tm) (v : Value) (w : World) (hd : t.depth ≤ n + 1) (hn : n + 1 ≤ 4000) (hg : t.good) (hc0 : ∀ x, cntF t x = 0) (hS : ∀ g, S g → g < w.heap.size) (hrep : Rep S w t v) (hv : t.isVal = false) (hm : (evalK t).length = t.kids.length) (h1 : ((kindOf t : Int) == 61) = false) (h3 : ((kindOf t : Int) == 63) = false) (h0 : ((kindOf t : Int) == 118) = false) :
    Calls Tryz.prog 55 #[v] w fun e w' => ∃ g cap, e = .returned (.tuple #[.slice (some ⟨g, 0, none⟩) (redexP t).length cap, .bool (!t.isVal)]) ∧ PathC cap w' g (redexP t) ∧ Below w.heap.size w w' := by
  obtain ⟨i0, hi, hz0, hz1, hz2⟩ := info_parts Tryz.infoIntS
  have hml := evalK_len t
  have hL3 : t.kids.length ≤ 3 := by cases t <;> simp [Tm.kids]
  have hrl := redexP_len t
  have hmk : t.kids.length ≤ t.kids.length := by
    rcases Nat.eq_zero_or_pos (t.kids.length) with h | h
    · omega
    · have h9 : (evalK t)[t.kids.length - 1]? = some ((evalK t)[t.kids.length - 1]'(by omega)) := List.getElem?_eq_getElem _
      have := (List.getElem?_eq_some_iff.1 (evalK_kid h9)).1
      omega
  have KV0 := fun W => (by obtain ⟨x0, x1, x2, x3, x4, x5, rfl⟩ := hrep.junk; exact ⟨x0, x1, x2, x3, x4, x5, rfl, val_c hg hrep W⟩ : ∃ (x0 x1 : Int) (x2 : ByteArray) (x3 : Option Addr) (x4 x5 : Nat), v = .agg #[.int .u8 x0, .int .i64 x1, .string x2, .slice x3 x4 x5] ∧ Calls Tryz.prog 51 #[.agg #[.int .u8 x0, .int .i64 x1, .string x2, .slice x3 x4 x5]] W fun e w' => e = .returned (.bool t.isVal) ∧ Below W.heap.size W w')
  cases hrep with
  | mk _ g cap c hgS hc hkr =>
  have hgw := hS g hgS
  have KV : ∀ W, Calls Tryz.prog 51 #[.agg #[.int .u8 (kindOf t : Int), .int .i64 (numOf t : Int), .string ⟨(namesOf t).toArray⟩, .slice (some ⟨g, 0, none⟩) t.kids.length cap]] W fun e w' => e = .returned (.bool t.isVal) ∧ Below W.heap.size W w' := fun W => by
    obtain ⟨x0, x1, x2, x3, x4, x5, he, K⟩ := KV0 W
    rw [← he] at K
    exact K
  clear KV0
  have KC := fun (k : Nat) (s : Tm) (hs : t.kids[k]? = some s) => kid_cells hgw hc hkr hs
  have KN := fun (k : Nat) (s : Tm) (hs : (evalK t)[k]? = some s) (y0 y1 : Int) (y2 : ByteArray) (y3 : Option Addr) (y4 y5 : Nat) (hr : Rep S w s (.agg #[.int .u8 y0, .int .i64 y1, .string y2, .slice y3 y4 y5])) (W : World) (hW : Below w.heap.size w W) =>
    ih S s _ W (by have := kid_depth (List.mem_of_getElem? (evalK_kid hs)); omega) (by omega) (Tm.kid_good hg (List.mem_of_getElem? (evalK_kid hs))) (evalK_closed hs hc0) (fun g hg => by have := hS g hg; have := hW.size; omega) (hr.keep (fun g hg => hW.block g (hS g hg)) (fun g hg => hg))
  have KK := fun (k : Nat) (s : Tm) (hs : (evalK t)[k]? = some s) => Tm.kid_good hg (List.mem_of_getElem? (evalK_kid hs))
  clear hc hkr hc0
  unfold tmHead
  rw [hv] at KV ⊢
  have z0 := alloc_here w (tmO (kindOf t : Int) (numOf t : Int) ⟨(namesOf t).toArray⟩ (some ⟨g, 0, none⟩) t.kids.length cap)
  have hb0 := (Below.refl _ w).alloc (Nat.le_refl _) (tmO (kindOf t : Int) (numOf t : Int) ⟨(namesOf t).toArray⟩ (some ⟨g, 0, none⟩) t.kids.length cap)
  have HM := Lib.hid hm
  have HV := Lib.hid hv
  clear hm hv
  all_goals
    go_enter Tryz.func55, Tryz.ntmps55
    go_wp2_with (go_at_call 51; refine (KV _).mono ?_; clear KV; rintro e w2 ⟨rfl, hb2⟩; have hX : NxW w (kindOf t : Int) (numOf t : Int) ⟨(namesOf t).toArray⟩ (some ⟨g, 0, none⟩) t.kids.length cap w2 := (NxW.keep ⟨z0, hb0⟩ hb2); obtain ⟨c0, c1, c2, c3, _⟩ := cells4 hX.box)
    clear z0 hb0 c0 c1 c2 c3
    go_loopw [28] (fun ix wr => ∃ (k : Nat), k ≤ t.kids.length ∧ ix = .int .i64 k ∧ (∀ (j : Nat) (r : Tm), j < k → (evalK t)[j]? = some r → r.isVal = true) ∧ NxW w (kindOf t : Int) (numOf t : Int) ⟨(namesOf t).toArray⟩ (some ⟨g, 0, none⟩) t.kids.length cap wr) (fun ix _ => t.kids.length - (intOf ix).toNat)
    case atStart => exact ⟨0, Nat.zero_le _, rfl, fun j r h => by omega, hX⟩
    case round =>
      obtain ⟨k, hkl, rfl, hprev, hX⟩ := hrel
      obtain ⟨c0, c1, c2, c3, _⟩ := cells4 hX.box
      have hBl := hX.below
      by_cases hlt : k < t.kids.length
      · obtain ⟨s, hs⟩ : ∃ s, (evalK t)[k]? = some s := ⟨_, List.getElem?_eq_getElem (by rw [HM.out]; exact hlt)⟩
        have hltL : (k : Int) < (t.kids.length : Int) := by omega
        obtain ⟨y0, y1, y2, y3, y4, y5, hrs, hcc⟩ := KC k s (evalK_kid hs)
        obtain ⟨e0, e1, e2, e3⟩ := hcc wr hBl
        have KS := val_c (KK k s hs) hrs wr
        have KN2 := fun W hW => KN k s hs y0 y1 y2 y3 y4 y5 hrs W hW
        have HSS := Lib.hid hs
        have HPV := Lib.hid hprev
        have HLT := Lib.hid hlt
        clear hs hprev KC KN KK
        cases hsv : s.isVal
        · have hpth := redexP_some HSS.out hsv HPV.out
          have hpl : (redexP t).length = (redexP s).length + 1 := by rw [hpth]; rfl
          have hps : (redexP s).length ≤ 4000 := by omega
          have HPL := Lib.hid hpl
          clear hpl
          rw [hsv] at KS
          simp only [hsv] at KN2
          have HPT := Lib.hid hpth
          clear hsv hpth
          go_wp2_with (first
            | (go_at_call 51; refine KS.mono ?_; clear KS; rintro e w3 ⟨rfl, hb3⟩
               have hB3 : Below w.heap.size w w3 := hBl.trans (hb3.mono hBl.size)
               obtain ⟨a0, a1, a2, a3, _⟩ := cells4 (hX.keep hb3).box
               obtain ⟨d0, d1, d2, d3⟩ := hcc w3 hB3
               have C := KN2 w3 hB3
               clear KN2)
            | (go_at_call 55; refine C.mono ?_; clear C; rintro e w4 ⟨gp, cp, rfl, hp4, hb4⟩
               have hB4 : Below w.heap.size w w4 := hB3.trans (hb4.mono hB3.size)
               have hown := World.ownsRow_lit (base := w4.heap.size) (e := 3) (size := 1) w4 #[iV k] 1 (Nat.le_refl _) (by unfold maxLen; omega) rfl
               have hnw : ∀ (j : Nat) (u : Value), ((redexP s).map iV)[j]? = some u → (w4.alloc (.cells #[iV k] 3)).cell? ((⟨gp, 0, none⟩ : Addr).add j) = some u := fun j u hj => by
                 rw [Addr.add_lit, Nat.zero_add, World.cell?_of_block (a := ⟨gp, j, none⟩) (alloc_far w4 _ hp4.1.1)]
                 exact hp4.1.2 j u hj
               have q6 : ∀ u ∈ (redexP s).map iV, u.oneCell' = true := by
                 intro u hu
                 obtain ⟨k, _, rfl⟩ := List.mem_map.1 hu
                 rfl
               have q7 : ((redexP s).map iV).length = (redexP s).length * 1 := by simp
               have q8 : 1 + (redexP s).length ≤ maxLen := by unfold maxLen; omega
               have q9 : w4.heap.size ≤ (w4.alloc (.cells #[iV k] 3)).heap.size := by simp)
            | (at_builtin; (refine wpList_append_own_at _ rfl _ _ 75 rfl w4.heap.size 3 i0 _ 1 8 Tryz.underlying75 hi hz0 hz1 hz2 rfl (by decide) _ _ _ rfl hown ⟨gp, 0, none⟩ _ _ _ rfl q7 hnw q6 q8 (by omega) q9 ?_); intro v' w5 hown' hgrow hnil _
               obtain ⟨g5, c5, hv5, hp5⟩ := one_path hown' (Nat.add_comm _ _) (fun e => by have h9 := (hnil.1 e).1; cases h9)
               rw [← HPT.out] at hv5 hp5
               subst hv5))
          refine bodyPost_ret (v := .tuple #[.slice (some ⟨g5, 0, none⟩) (redexP t).length c5, .bool true]) (by simp [results, Tryz.results55, go_sem]) rfl ?_
          refine ⟨g5, c5, rfl, hp5, ?_⟩
          exact (hB4.alloc hB4.size _).grown hgrow (hB4.alloc hB4.size _).size (fun j hj => by have : w4.heap.size = j := Option.some.inj hj; have := hB4.size; omega)
        · rw [hsv] at KS
          have HSV := Lib.hid hsv
          clear hsv KN2
          go_wp2_with (go_at_call 51; refine KS.mono ?_; clear KS; rintro e w3 ⟨rfl, hb3⟩)
          refine ⟨⟨k + 1, by have := HLT.out; omega, by go_num, fun j r hj hr => ?_, hX.keep hb3⟩, by have := HLT.out; simp [intOf]; omega⟩
          by_cases hjk : j < k
          · exact HPV.out j r hjk hr
          · obtain rfl : j = k := by omega
            rw [HSS.out] at hr
            injection hr with hr
            rw [← hr]
            exact HSV.out
      · have hnone := redexP_none (t := t) (fun j s hs => hprev j s (by have := (List.getElem?_eq_some_iff.1 hs).1; have := HM.out; omega) hs)
        have HNO := Lib.hid hnone
        clear hnone hprev KC KN KK
        go_wp2_with fail
        refine bodyPost_ret (v := .tuple #[.slice (some ⟨wr.heap.size, 0, none⟩) 0 0, .bool true]) (by simp [results, Tryz.results55, go_sem]) rfl ?_
        rw [HNO.out]
        exact ⟨_, _, rfl, ⟨path_new wr, Nat.zero_le _⟩, hBl.alloc hBl.size _⟩
end Go.Proofs.YtefmmgccdpfnaaaGreatDoor
