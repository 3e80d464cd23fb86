import Derived.Test.YtcabmcpalgpfpaaGreatDoorNa
import Derived.Test.YtcabmcpalgpfpaaGreatDoorMUd
import Derived.Test.YtcabmcpalgpfpaaGreatDoorMTx
import Derived.Laws.EntriesVeiled
import Derived.Test.YtcabmcpalgpfpaaGreatDoorPuW
/- Nameless: the program's small functions; how knots lie in memory. -/
namespace Go.Proofs.YtcabmcpalgpfpaaGreatDoor
open Go.RowKit
open Ff
set_option linter.unusedVariables false
attribute [local go_sem] Oper.semAt_some

/-- Three cells, as a knot's value. -/
def three (c : Nat → Value) (i : Nat) : Value := .agg #[c (3 * i), c (3 * i + 1), c (3 * i + 2)]
/-- How a knot lies in memory; its rows lie in blocks of which S is true. -/
inductive KRep (S : Nat → Prop) (w : World) : Knot → Value → Prop where
  | mk (s : UInt8) (v : Int) (ks : List Knot) (g cap : Nat) (c : Nat → Value) : S g → (∀ k, k < 3 * ks.length → w.cell? ⟨g, k, none⟩ = some (c k)) → (∀ i x, ks[i]? = some x → KRep S w x (three c i)) →
      KRep S w (.mk s v ks) (.agg #[.int .u8 (s.toNat : Int), .int .i64 v, .slice (some ⟨g, 0, none⟩) ks.length cap])
theorem KRep.keep {S S' : Nat → Prop} {w w' : World} {k : Knot} {v : Value} (h : KRep S w k v) (hb : ∀ g, S g → w'.heap[g]? = w.heap[g]?) (hS : ∀ g, S g → S' g) : KRep S' w' k v := by
  induction h with
  | mk s v ks g cap c hg hc _ ih => exact .mk s v ks g cap c (hS g hg) (fun k hk => (World.cell?_of_block (a := ⟨g, k, none⟩) (hb g hg)).trans (hc k hk)) ih
theorem KRep.junk {S : Nat → Prop} {w : World} {k : Knot} {v : Value} (h : KRep S w k v) : ∃ (s v' : Int) (a : Option Addr) (l c : Nat), v = .agg #[.int .u8 s, .int .i64 v', .slice a l c] := by
  cases h; exact ⟨_, _, _, _, _, rfl⟩
theorem row_setS {W : World} {base size : Nat} {e : TypeId} {n g cap : Nat} {xs : List Value} (h : W.ownsRow base e size (.slice (some ⟨g, 0, none⟩) n cap) n xs) (j : Nat) (u : Value) : (W.setCell ⟨g, j, none⟩ u).ownsRow base e size (.slice (some ⟨g, 0, none⟩) n cap) n (xs.set j u) := by
  obtain ⟨h1, h2⟩ := h
  refine ⟨by simpa using h1, ?_⟩
  rcases h2 with ⟨h2, _⟩ | ⟨g', cap', cur, hv, hb, hh, hn, hm, hc, ht⟩
  · cases h2
  · injection hv with hv1 hv2 hv3
    injection hv1 with hv1
    injection hv1 with hv1
    subst hv1 hv3
    refine .inr ⟨g, cap, cur.setIfInBounds j u, rfl, hb, ?_, hn, hm, by simpa using hc, ?_⟩
    · obtain ⟨hlt, hk⟩ := Array.getElem?_eq_some_iff.1 hh
      show (W.heap.modify g _)[g]? = _
      rw [Array.getElem?_eq_getElem (by rw [Array.size_modify]; exact hlt), Array.getElem_modify_self, hk]
      rfl
    · rw [Array.toList_setIfInBounds, List.take_set, ht]
/-- What tells how many names are bound further inwards. -/
def Within (w : World) (fv : Value) (f : UInt8 → Int) : Prop :=
  ∃ (i : FuncId) (cap : Array Value), fv = .func (.func i) #[] cap ∧ (∀ (W : World) (v : Value), (callFunc i (#[v] ++ cap)).run Tryz.prog W = .ok (.enter i (#[v] ++ cap)) W) ∧
    ∀ (W : World), Below w.heap.size w W → ∀ c, Calls Tryz.prog i (#[bv c] ++ cap) W fun e W' => e = .returned (.int .i64 (f c)) ∧ Below W.heap.size W W'
theorem Within.keep {w w' : World} {fv : Value} {f : UInt8 → Int} (h : Within w fv f) (hb : Below w.heap.size w w') : Within w' fv f := by
  obtain ⟨i, cap, h1, h2, h3⟩ := h
  exact ⟨i, cap, h1, h2, fun W hW => h3 W (hb.trans (hW.mono hb.size))⟩
theorem enter_none (w : World) (v : Value) : (callFunc 36 (#[v] ++ #[])).run Tryz.prog w = .ok (.enter 36 (#[v] ++ #[])) w := by kernel_rfl
theorem enter_deep (a b : Value) (w : World) (v : Value) : (callFunc 53 (#[v] ++ #[a, b])).run Tryz.prog w = .ok (.enter 53 (#[v] ++ #[a, b])) w := by kernel_rfl
set_option maxHeartbeats 1000000 in
theorem none_c (c : UInt8) (w : World) : Calls Tryz.prog 36 #[bv c] w fun e w' => e = .returned (.int .i64 (-1)) ∧ Below w.heap.size w w' := by
  go_enter Tryz.func36, Tryz.ntmps36
  go_wp2_with fail
  go_ret
  exact ⟨rfl, Below.refl _ w⟩
theorem within_free (w : World) : Within w (.func (.func 36) #[] #[]) (fun _ => -1) := ⟨_, _, rfl, enter_none, fun W _ c => none_c c W⟩
set_option maxRecDepth 100000 in
set_option maxHeartbeats 2000000 in
theorem deep_c (ns : Text) (q0 q1 : Nat) (an : Option Addr) (cn : Nat) (fv : Value) (f : UInt8 → Int) (w W : World) (c : UInt8) (hlen : ns.length ≤ 2) (hf : ∀ c, f c = -1 ∨ (0 ≤ f c ∧ f c ≤ 99)) (hS : Within w fv f) (hB : Below w.heap.size w W)
    (h0 : W.cell? ⟨q0, 0, none⟩ = some (.slice an ns.length cn)) (h1 : W.cell? ⟨q1, 0, none⟩ = some fv) (hrn : RowAt W an (ns.map bv)) :
    Calls Tryz.prog 53 #[bv c, .pointer (some ⟨q0, 0, none⟩), .pointer (some ⟨q1, 0, none⟩)] W fun e W' => e = .returned (.int .i64 (deeper ns f c)) ∧ Below W.heap.size W W' := by
  obtain ⟨i, cap, rfl, hcf, hC⟩ := hS
  have KI := indexB_c ns c an cn W (by omega) hrn
  have hft := findI_lt c ns
  have hq0 := World.block_lt_of_cell? W _ h0
  generalize hx : findI c ns = x at KI
  have HX := Lib.hid hx
  by_cases hc : 0 ≤ x
  · have e : deeper ns f c = (ns.length : Int) - 1 - x := by unfold deeper; rw [hx, if_pos hc]
    have hl0 : x < ns.length := by
      rcases hft with h | h
      · omega
      · subst h; rw [← hx, findI_none (by simp)] at hc; omega
    have hw1 : IntKind.i64.wrap ((ns.length : Int) - 1) = (ns.length : Int) - 1 := by rw [IntKind.wrap_i64]; omega
    have hw2 : IntKind.i64.wrap ((ns.length : Int) - 1 - x) = (ns.length : Int) - 1 - x := by rw [IntKind.wrap_i64]; omega
    rw [e]
    clear hx hft e hrn hC hcf h1
    go_enter Tryz.func53, Tryz.ntmps53
    go_wp2_with (go_at_call 54; refine KI.mono ?_; clear KI; rintro e w1 ⟨rfl, rfl⟩)
    go_ret
    exact ⟨rfl, Below.refl _ _⟩
  · have K := hC W hB c
    have h3 := hf c
    by_cases h4 : f c = -1
    · have e : deeper ns f c = -1 := by unfold deeper; rw [hx, if_neg hc, if_pos h4]
      rw [e]
      rw [h4] at K
      clear hx hft e hrn hC h3 h4
      go_enter Tryz.func53, Tryz.ntmps53
      go_wp2_with (go_at_call 54; refine KI.mono ?_; clear KI; rintro e w1 ⟨rfl, rfl⟩)
      refine K.mono ?_
      clear K hcf
      rintro e w2 ⟨rfl, hb2⟩
      go_wp2_with fail
      go_ret
      exact ⟨rfl, hb2⟩
    · have e : deeper ns f c = f c + ns.length := by unfold deeper; rw [hx, if_neg hc, if_neg h4]
      rw [e]
      generalize f c = y at *
      have hw1 : IntKind.i64.wrap (y + (ns.length : Int)) = y + ns.length := by rw [IntKind.wrap_i64]; omega
      have hy : (y == -1) = false := by rw [beq_eq_false_iff_ne]; exact h4
      clear hx hft e hrn hC h3
      go_enter Tryz.func53, Tryz.ntmps53
      go_wp2_with (go_at_call 54; refine KI.mono ?_; clear KI; rintro e w1 ⟨rfl, rfl⟩)
      refine K.mono ?_
      clear K hcf
      rintro e w2 ⟨rfl, hb2⟩
      have h02 := (hb2.cell (p := ⟨q0, 0, none⟩) hq0).trans h0
      go_wp2_with fail
      go_ret
      exact ⟨rfl, hb2⟩
def signK : Knot → UInt8
  | .mk s _ _ => s
def valK : Knot → Int
  | .mk _ v _ => v
/-- A mark's value. -/
abbrev markV (k : Knot) : Value := .agg #[.int .u8 ((signK k).toNat : Int), .int .i64 (valK k)]
set_option maxRecDepth 100000 in
set_option maxHeartbeats 2000000 in
theorem mark_num (n k : Nat) (f : UInt8 → Int) (fv : Value) (w : World) (hW : Within w fv f) :
    Calls Tryz.prog 57 #[enc (.num k), fv] w fun e w' => e = .returned (markV (knT (n + 1) f (.num k))) ∧ Below w.heap.size w w' := by
  have a0 := ta_num (.num k)
  simp only [ty, pl, numV, isNum] at a0
  obtain ⟨i, cap, rfl, _, _⟩ := hW
  simp only [enc]
  go_enter Tryz.func57, Tryz.ntmps57
  go_wp2_with fail
  refine bodyPost_ret (v := .agg #[.int .u8 35, .int .i64 (k : Int)]) (by simp [results, Tryz.results57, go_sem]) rfl ?_
  exact ⟨rfl, below_two w _ _⟩
set_option maxRecDepth 100000 in
set_option maxHeartbeats 2000000 in
theorem mark_var (n : Nat) (c : UInt8) (f : UInt8 → Int) (fv : Value) (w : World) (hW : Within w fv f) :
    Calls Tryz.prog 57 #[enc (.var c), fv] w fun e w' => e = .returned (markV (knT (n + 1) f (.var c))) ∧ Below w.heap.size w w' := by
  have a0 := ta_num (.var c)
  have a1 := ta_var (.var c)
  simp only [ty, pl, numV, isNum, varV, isVar] at a0 a1
  obtain ⟨i, cap, rfl, hcf, hC⟩ := hW
  simp only [enc]
  have hb2 := below_two w (.cells #[.int .u8 0, .int .i64 0] 40) (.cells #[bv c] 79)
  have K := hC _ hb2 c
  have z0 : ((w.alloc (.cells #[.int .u8 0, .int .i64 0] 40)).alloc (.cells #[bv c] 79)).cell? ⟨w.heap.size, 0, none⟩ = some (.int .u8 0) := by simp [go_sem]
  have z1 : ((w.alloc (.cells #[.int .u8 0, .int .i64 0] 40)).alloc (.cells #[bv c] 79)).cell? ⟨w.heap.size, 1, none⟩ = some (.int .i64 0) := by simp [go_sem]
  have z2 : ((w.alloc (.cells #[.int .u8 0, .int .i64 0] 40)).alloc (.cells #[bv c] 79)).cell? ⟨w.heap.size + 1, 0, none⟩ = some (bv c) := by simp [go_sem]
  have y0 : ∀ k, ((w.alloc (.cells #[.int .u8 0, .int .i64 0] 40)).alloc (.cells #[bv c] 79)).frozen? ⟨w.heap.size, k, none⟩ = false := fun k => by simp [go_sem]
  have hz : ((w.alloc (.cells #[.int .u8 0, .int .i64 0] 40)).alloc (.cells #[bv c] 79)).heap.size = w.heap.size + 2 := by simp
  have HY := Lib.hid y0
  clear hC y0
  by_cases h : f c = -1
  · have e1 : markV (knT (n + 1) f (.var c)) = .agg #[bv c, .int .i64 0] := by simp only [knT, if_pos h]; rfl
    rw [e1]
    rw [h] at K
    clear h e1
    go_enter Tryz.func57, Tryz.ntmps57
    go_wp2_with fail
    generalize (w.alloc (.cells #[.int .u8 0, .int .i64 0] 40)).alloc (.cells #[bv c] 79) = W0 at *
    refine K.mono ?_
    clear K hcf
    rintro e w2 ⟨rfl, hb3⟩
    have x0 := (hb3.cell (p := ⟨w.heap.size, 0, none⟩) (by show w.heap.size < _; omega)).trans z0
    have x1 := (hb3.cell (p := ⟨w.heap.size, 1, none⟩) (by show w.heap.size < _; omega)).trans z1
    have x2 := (hb3.cell (p := ⟨w.heap.size + 1, 0, none⟩) (by show w.heap.size + 1 < _; omega)).trans z2
    have f0 := (hb3.frozen (p := ⟨w.heap.size, 0, none⟩) (by show w.heap.size < _; omega)).trans (HY.out 0)
    have f1 := (hb3.frozen (p := ⟨w.heap.size, 1, none⟩) (by show w.heap.size < _; omega)).trans (HY.out 1)
    clear z0 z1 z2 hz
    go_wp2_with fail
    refine bodyPost_ret (v := .agg #[bv c, .int .i64 0]) (by simp [results, Tryz.results57, go_sem, x0, x1]) rfl ?_
    exact ⟨rfl, ((hb2.trans (hb3.mono hb2.size)).setCell (p := ⟨w.heap.size, 0, none⟩) (Nat.le_refl _) _).setCell (p := ⟨w.heap.size, 1, none⟩) (Nat.le_refl _) _⟩
  · have e1 : markV (knT (n + 1) f (.var c)) = .agg #[.int .u8 36, .int .i64 (f c)] := by simp only [knT, if_neg h]; rfl
    rw [e1]
    clear e1
    generalize f c = y at *
    have hy : (y == -1) = false := by rw [beq_eq_false_iff_ne]; exact h
    clear h
    go_enter Tryz.func57, Tryz.ntmps57
    go_wp2_with fail
    generalize (w.alloc (.cells #[.int .u8 0, .int .i64 0] 40)).alloc (.cells #[bv c] 79) = W0 at *
    refine K.mono ?_
    clear K hcf
    rintro e w2 ⟨rfl, hb3⟩
    have x0 := (hb3.cell (p := ⟨w.heap.size, 0, none⟩) (by show w.heap.size < _; omega)).trans z0
    have x1 := (hb3.cell (p := ⟨w.heap.size, 1, none⟩) (by show w.heap.size < _; omega)).trans z1
    have f0 := (hb3.frozen (p := ⟨w.heap.size, 0, none⟩) (by show w.heap.size < _; omega)).trans (HY.out 0)
    have f1 := (hb3.frozen (p := ⟨w.heap.size, 1, none⟩) (by show w.heap.size < _; omega)).trans (HY.out 1)
    clear z0 z1 z2 hz
    go_wp2_with fail
    refine bodyPost_ret (v := .agg #[.int .u8 36, .int .i64 y]) (by simp [results, Tryz.results57, go_sem, x0, x1]) rfl ?_
    exact ⟨rfl, ((hb2.trans (hb3.mono hb2.size)).setCell (p := ⟨w.heap.size, 0, none⟩) (Nat.le_refl _) _).setCell (p := ⟨w.heap.size, 1, none⟩) (Nat.le_refl _) _⟩
attribute [local irreducible] Calls
set_option maxRecDepth 100000 in
set_option maxHeartbeats 2000000 in
theorem mark_node (n : Nat) (t : Tm) (f : UInt8 → Int) (fv : Value) (w : World) (hd : t.depth ≤ 4000) (hg : t.good) (hp : (parts t).length ≤ 4000) (hk : t.kids ≠ []) (hW : Within w fv f) :
    Calls Tryz.prog 57 #[enc t, fv] w fun e w' => e = .returned (markV (knT (n + 1) f t)) ∧ Below w.heap.size w w' := by
  have a0 := ta_num t
  have a1 := ta_var t
  have h1 : isNum t = false ∧ numV t = .agg #[.int .i64 0] ∧ isVar t = false := by cases t <;> simp [Tm.kids] at hk <;> exact ⟨rfl, rfl, rfl⟩
  obtain ⟨z, hz⟩ := var_shape t
  rw [h1.1, h1.2.1] at a0
  rw [h1.2.2, hz] at a1
  obtain ⟨i, cap, rfl, _, _⟩ := hW
  obtain ⟨k1, k2⟩ := kind_node hg hk
  have hsh := text_shape hg k1 k2
  have e1 : markV (knT (n + 1) f t) = .agg #[.int .u8 ((headN t).toNat : Int), .int .i64 0] := by rw [knT_node n f hg hk]; rfl
  rw [e1, enc_ty t]
  obtain ⟨T, hT⟩ : ∃ T, T = textN t := ⟨_, rfl⟩
  have hl : 0 < T.length := by rw [hT, hsh]; simp
  have hix := index_byte T 0 (headN t) (by rw [hT, hsh]; rfl) (by rw [size_data]; exact hl)
  have KT := text_c 4000 t hd hg (by omega) (w.alloc (.cells #[.int .u8 0, .int .i64 0] 40))
  rw [← hT] at KT
  have hb0 := (Below.refl _ w).alloc (Nat.le_refl _) (.cells #[.int .u8 0, .int .i64 0] 40)
  have z0 : (w.alloc (.cells #[.int .u8 0, .int .i64 0] 40)).cell? ⟨w.heap.size, 0, none⟩ = some (.int .u8 0) := by simp [go_sem]
  have z1 : (w.alloc (.cells #[.int .u8 0, .int .i64 0] 40)).cell? ⟨w.heap.size, 1, none⟩ = some (.int .i64 0) := by simp [go_sem]
  have y0 : ∀ k, (w.alloc (.cells #[.int .u8 0, .int .i64 0] 40)).frozen? ⟨w.heap.size, k, none⟩ = false := fun k => by simp [go_sem]
  have hzz : (w.alloc (.cells #[.int .u8 0, .int .i64 0] 40)).heap.size = w.heap.size + 1 := by simp
  have HY := Lib.hid y0
  have HHH := Lib.hid hT
  clear hT hsh e1 h1 hz hp hd k1 k2 y0
  generalize (headN t) = hd0 at *
  go_enter Tryz.func57, Tryz.ntmps57
  generalize hW0 : w.alloc (.cells #[.int .u8 0, .int .i64 0] 40) = W0 at *
  go_wp2_with (refine wpList_invoke rfl _ _ (ty t) (pl t) rfl rfl (tf t) (text_m t _ (by unfold TextName; kernel_rfl) _) (text_f t _) (fun rv w' => rv = .string ⟨T.toArray⟩ ∧ Below W0.heap.size W0 w') (KT.mono fun e w' ⟨h1, h2⟩ => ⟨_, h1, rfl, h2⟩) ?_; rintro rv w2 ⟨rfl, hb3⟩; have x0 := (hb3.cell (p := ⟨w.heap.size, 0, none⟩) (by show w.heap.size < _; omega)).trans z0; have x1 := (hb3.cell (p := ⟨w.heap.size, 1, none⟩) (by show w.heap.size < _; omega)).trans z1; have f0 := (hb3.frozen (p := ⟨w.heap.size, 0, none⟩) (by show w.heap.size < _; omega)).trans (HY.out 0); have f1 := (hb3.frozen (p := ⟨w.heap.size, 1, none⟩) (by show w.heap.size < _; omega)).trans (HY.out 1))
  refine bodyPost_ret (v := .agg #[.int .u8 (hd0.toNat : Int), .int .i64 0]) (by simp [results, Tryz.results57, go_sem, x0, x1]) rfl ?_
  exact ⟨rfl, ((hb0.trans (hb3.mono (by omega))).setCell (p := ⟨w.heap.size, 0, none⟩) (Nat.le_refl _) _).setCell (p := ⟨w.heap.size, 1, none⟩) (Nat.le_refl _) _⟩
theorem markOf_c (n : Nat) (t : Tm) (f : UInt8 → Int) (fv : Value) (w : World) (hd : t.depth ≤ 4000) (hg : t.good) (hp : (parts t).length ≤ 4000) (hW : Within w fv f) :
    Calls Tryz.prog 57 #[enc t, fv] w fun e w' => e = .returned (markV (knT (n + 1) f t)) ∧ Below w.heap.size w w' := by
  by_cases hk : t.kids = []
  · cases t with
    | num k => exact mark_num n k f fv w hW
    | var c => exact mark_var n c f fv w hW
    | _ => simp [Tm.kids] at hk
  · exact mark_node n t f fv w hd hg hp hk hW
end Go.Proofs.YtcabmcpalgpfpaaGreatDoor

/- Nameless: the program's visit of the kids, as knots; knotOf. -/
namespace Go.Proofs.YtcabmcpalgpfpaaGreatDoor
open Go.RowKit
open Ff
set_option linter.unusedVariables false
attribute [local go_sem] Oper.semAt_some

theorem Tryz.infoKnot : (Tryz.prog.info? 43).map (fun i => (i.zero, i.size, i.bytes)) = some (some (.agg #[.int .u8 0, .int .i64 0, .slice none 0 0]), 3, 40) := by kernel_rfl
/-- A visitor. -/
def VisK (w0 : World) (fv : Value) (s : Tm) (k : Knot) : Prop :=
  ∃ (f : FuncId) (cap : Array Value), fv = .func (.func f) #[] cap ∧ (∀ (W : World) (v : Value), (callFunc f (#[v] ++ cap)).run Tryz.prog W = .ok (.enter f (#[v] ++ cap)) W) ∧
    ∀ W, Below w0.heap.size w0 W → Calls Tryz.prog f (#[enc s] ++ cap) W fun e W' => ∃ v, e = .returned v ∧ Below W.heap.size W W' ∧ KRep (New W W') W' k v
/-- Where the knots of a row lie. -/
def KIn (B r : Nat) (W : World) (g : Nat) : Prop := (B ≤ g ∧ g < W.heap.size) ∧ g ≠ r
set_option maxRecDepth 100000 in
set_option maxHeartbeats 8000000 in
theorem visitN_c (t : Tm) (K : Nat → Tm → Knot) (fo fi : Value) (w : World) (hv : ∀ k s, t.kids[k]? = some s → VisK w (if k + 1 = t.kids.length then fi else fo) s (K k s)) :
    Calls Tryz.prog 58 #[enc t, fo, fi] w fun e w' => ∃ g cap c, e = .returned (.slice (some ⟨g, 0, none⟩) t.kids.length cap) ∧ Below w.heap.size w w' ∧ New w w' g ∧
      (∀ k, k < 3 * t.kids.length → w'.cell? ⟨g, k, none⟩ = some (c k)) ∧ ∀ i x, (t.kids.mapIdx K)[i]? = some x → KRep (New w w') w' x (three c i) := by
  obtain ⟨i0, hi, hz0, hz1, hz2⟩ := info_parts Tryz.infoKnot
  have hk3 : t.kids.length ≤ 3 := by cases t <;> simp [Tm.kids]
  rw [enc_ty t]
  have HV := Lib.hid hv
  clear hv
  obtain ⟨n, hn⟩ : ∃ n, t.kids.length = n := ⟨_, rfl⟩
  go_enter Tryz.func58, Tryz.ntmps58
  go_wp2_with (refine wpList_invoke rfl _ _ (ty t) (pl t) rfl rfl (kf t) (kids_m t _ (by unfold KidsName; kernel_rfl) _) (kids_f t _) (fun v w' => SliceOf w.heap.size w' v (t.kids.map enc) ∧ Below w.heap.size w w') (kids_c t _) ?_; rintro x w1 ⟨hs, hb⟩; obtain ⟨a, rfl, hcell⟩ := hs.uni; clear hs; have HC := Lib.hid hcell; clear hcell; rw [List.length_map, hn]; obtain ⟨w2, hrun, hown, hgrow⟩ := run_make_full (P := Tryz.prog) w1 w1.heap.size 41 43 i0 (.agg #[.int .u8 0, .int .i64 0, .slice none 0 0]) 3 Tryz.underlying41 hi hz0 hz1 .i64 .i64 n (by rw [hz2]; omega) (by unfold maxLen; omega) (Nat.le_refl _))
  have hb2 : Below w.heap.size w w2 := hb.grown hgrow hb.size (fun j hj => by cases hj)
  have hs1 := hb.size
  have hs12 := hgrow.size
  have HC2 : Hid (∀ i x, (t.kids.map enc)[i]? = some x → ∃ g, a = some ⟨g, 0, none⟩ ∧ w.heap.size ≤ g ∧ g < w1.heap.size ∧ w2.cell? ⟨g, i, none⟩ = some x) := Lib.hid fun i x hx => by
    obtain ⟨g, h1, h2, h3, h4⟩ := HC.out i x hx
    exact ⟨g, h1, h2, h3, hgrow.cell h4 (by simp)⟩
  have HO := Lib.hid hown
  have HN := Lib.hid hn
  clear hown hrun HC
  go_loopw [18] (fun i wr => ∃ (k : Nat) (ys : List Value), k ≤ n ∧ i = .int .i64 k ∧ wr.ownsRow w1.heap.size 43 3 (.slice (some ⟨w1.heap.size, 0, none⟩) n n) n ys ∧ Below w.heap.size w wr ∧ w2.grownBy wr (some w1.heap.size) ∧ ∀ (j : Nat) (s : Tm), j < k → t.kids[j]? = some s → KRep (KIn w.heap.size w1.heap.size wr) wr (K j s) (three (fun i => (ys[i]?).getD undef) j)) (fun i _ => n - (intOf i).toNat)
  case atStart => exact ⟨0, _, Nat.zero_le _, rfl, HO.out, hb2, World.grownBy.refl _ _, fun j s h => by omega⟩
  case round =>
    obtain ⟨k, ys, hk, rfl, hO, hBr, hG, hys⟩ := hrel
    have hyl : ys.length = n * 3 := hO.1
    by_cases hlt : k < n
    · obtain ⟨s, hs⟩ : ∃ s, t.kids[k]? = some s := ⟨_, List.getElem?_eq_getElem (by have := HN.out; omega)⟩
      obtain ⟨y0, hy0⟩ : ∃ y, ys[k * 3]? = some y := ⟨_, List.getElem?_eq_getElem (by omega)⟩
      obtain ⟨y1, hy1⟩ : ∃ y, ys[k * 3 + 1]? = some y := ⟨_, List.getElem?_eq_getElem (by omega)⟩
      obtain ⟨y2, hy2⟩ : ∃ y, ys[k * 3 + 2]? = some y := ⟨_, List.getElem?_eq_getElem (by omega)⟩
      obtain ⟨g, rfl, hg1, hg2, hc⟩ := HC2.out k (enc s) (by simp [hs])
      have hc2 := hG.cell hc (by simp; omega)
      have hvis := HV.out k s hs
      rw [HN.out] at hvis
      have hsr : w1.heap.size < wr.heap.size := (hO.lt w1.heap.size rfl).2
      have c0 := hO.cells (g := w1.heap.size) rfl (k * 3) y0 hy0
      have c1 := hO.cells (g := w1.heap.size) rfl (k * 3 + 1) y1 hy1
      have c2 := hO.cells (g := w1.heap.size) rfl (k * 3 + 2) y2 hy2
      rw [Addr.add_lit, Nat.zero_add] at c0 c1 c2
      have f0 := Ints.frozen hO (k * 3)
      have f1 := Ints.frozen hO (k * 3 + 1)
      have f2 := Ints.frozen hO (k * 3 + 2)
      have HS := Lib.hid hs
      have HY := Lib.hid hys
      have HYL := Lib.hid hyl
      have HOO := Lib.hid hO
      clear hs hys hyl hc hO hy0 hy1 hy2
      rw [enc_ty s] at hc2
      have fin : ∀ (w3 : World) (z0 z1 : Int) (z2 : Option Addr) (z3 z4 : Nat), Below wr.heap.size wr w3 → KRep (New wr w3) w3 (K k s) (.agg #[.int .u8 z0, .int .i64 z1, .slice z2 z3 z4]) →
          ∃ (k' : Nat) (ys' : List Value), k' ≤ n ∧ Value.int .i64 ((k : Int) + 1) = .int .i64 k' ∧ (((w3.setCell ⟨w1.heap.size, k * 3, none⟩ (.int .u8 z0)).setCell ⟨w1.heap.size, k * 3 + 1, none⟩ (.int .i64 z1)).setCell ⟨w1.heap.size, k * 3 + 2, none⟩ (.slice z2 z3 z4)).ownsRow w1.heap.size 43 3 (.slice (some ⟨w1.heap.size, 0, none⟩) n n) n ys' ∧
            Below w.heap.size w (((w3.setCell ⟨w1.heap.size, k * 3, none⟩ (.int .u8 z0)).setCell ⟨w1.heap.size, k * 3 + 1, none⟩ (.int .i64 z1)).setCell ⟨w1.heap.size, k * 3 + 2, none⟩ (.slice z2 z3 z4)) ∧ w2.grownBy (((w3.setCell ⟨w1.heap.size, k * 3, none⟩ (.int .u8 z0)).setCell ⟨w1.heap.size, k * 3 + 1, none⟩ (.int .i64 z1)).setCell ⟨w1.heap.size, k * 3 + 2, none⟩ (.slice z2 z3 z4)) (some w1.heap.size) ∧
            ∀ (j : Nat) (s : Tm), j < k' → t.kids[j]? = some s → KRep (KIn w.heap.size w1.heap.size (((w3.setCell ⟨w1.heap.size, k * 3, none⟩ (.int .u8 z0)).setCell ⟨w1.heap.size, k * 3 + 1, none⟩ (.int .i64 z1)).setCell ⟨w1.heap.size, k * 3 + 2, none⟩ (.slice z2 z3 z4))) (((w3.setCell ⟨w1.heap.size, k * 3, none⟩ (.int .u8 z0)).setCell ⟨w1.heap.size, k * 3 + 1, none⟩ (.int .i64 z1)).setCell ⟨w1.heap.size, k * 3 + 2, none⟩ (.slice z2 z3 z4)) (K j s) (three (fun i => (ys'[i]?).getD undef) j) := by
        intro w3 z0 z1 z2 z3 z4 hb3 hr3
        have hs3 := hb3.size
        have hsz : (((w3.setCell ⟨w1.heap.size, k * 3, none⟩ (.int .u8 z0)).setCell ⟨w1.heap.size, k * 3 + 1, none⟩ (.int .i64 z1)).setCell ⟨w1.heap.size, k * 3 + 2, none⟩ (.slice z2 z3 z4)).heap.size = w3.heap.size := by simp [World.setCell]
        have hfar : ∀ g', g' ≠ w1.heap.size → (((w3.setCell ⟨w1.heap.size, k * 3, none⟩ (.int .u8 z0)).setCell ⟨w1.heap.size, k * 3 + 1, none⟩ (.int .i64 z1)).setCell ⟨w1.heap.size, k * 3 + 2, none⟩ (.slice z2 z3 z4)).heap[g']? = w3.heap[g']? := fun g' hg' =>
          (Below.heap_setCell _ _ _ _ hg').trans ((Below.heap_setCell _ _ _ _ hg').trans (Below.heap_setCell _ _ _ _ hg'))
        refine ⟨k + 1, ((ys.set (k * 3) (.int .u8 z0)).set (k * 3 + 1) (.int .i64 z1)).set (k * 3 + 2) (.slice z2 z3 z4), by omega, by simp, row_setS (row_setS (row_setS (ownsRow_keep HOO.out hb3) _ _) _ _) _ _, ?_, ?_, ?_⟩
        · exact (((hBr.trans (hb3.mono hBr.size)).setCell (p := ⟨w1.heap.size, k * 3, none⟩) hs1 _).setCell (p := ⟨w1.heap.size, k * 3 + 1, none⟩) hs1 _).setCell (p := ⟨w1.heap.size, k * 3 + 2, none⟩) hs1 _
        · exact grownBy_set (grownBy_set (grownBy_set (hG.andThen (below_grown hb3) (fun j hj => by cases hj)) _ _) _ _) _ _
        · intro j s' hj hs'
          by_cases e : j = k
          · subst e
            rw [HS.out] at hs'
            injection hs' with hs'
            subst hs'
            have hyl := HYL.out
            have e3 : three (fun i => ((((ys.set (j * 3) (.int .u8 z0)).set (j * 3 + 1) (.int .i64 z1)).set (j * 3 + 2) (.slice z2 z3 z4))[i]?).getD undef) j = .agg #[.int .u8 z0, .int .i64 z1, .slice z2 z3 z4] := by
              unfold three
              rw [Nat.mul_comm 3 j]
              simp only [List.getElem?_set, List.length_set]
              simp [show j * 3 < ys.length by omega, show j * 3 + 1 < ys.length by omega, show j * 3 + 2 < ys.length by omega]
            rw [e3]
            exact hr3.keep (fun g' hg' => hfar g' (by have := hg'.1; omega)) (fun g' hg' => ⟨⟨by have := hg'.1; have := hBr.size; omega, by rw [hsz]; exact hg'.2⟩, by have := hg'.1; omega⟩)
          · have e3 : three (fun i => ((((ys.set (k * 3) (.int .u8 z0)).set (k * 3 + 1) (.int .i64 z1)).set (k * 3 + 2) (.slice z2 z3 z4))[i]?).getD undef) j = three (fun i => (ys[i]?).getD undef) j := by
              unfold three
              simp only [List.getElem?_set_ne (show k * 3 + 2 ≠ 3 * j by omega), List.getElem?_set_ne (show k * 3 + 2 ≠ 3 * j + 1 by omega), List.getElem?_set_ne (show k * 3 + 2 ≠ 3 * j + 2 by omega), List.getElem?_set_ne (show k * 3 + 1 ≠ 3 * j by omega), List.getElem?_set_ne (show k * 3 + 1 ≠ 3 * j + 1 by omega), List.getElem?_set_ne (show k * 3 + 1 ≠ 3 * j + 2 by omega), List.getElem?_set_ne (show k * 3 ≠ 3 * j by omega), List.getElem?_set_ne (show k * 3 ≠ 3 * j + 1 by omega), List.getElem?_set_ne (show k * 3 ≠ 3 * j + 2 by omega)]
            rw [e3]
            exact (HY.out j s' (by omega) hs').keep (fun g' hg' => (hfar g' hg'.2).trans (hb3.block g' hg'.1.2)) (fun g' hg' => ⟨⟨hg'.1.1, by rw [hsz]; have := hg'.1.2; omega⟩, hg'.2⟩)
      have HF := Lib.hid fin
      clear fin
      by_cases hlast : k + 1 = n
      · rw [if_pos hlast] at hvis
        have hq := last_eq hlast
        obtain ⟨f, cap, rfl, hcf, hC⟩ := hvis
        have C := hC wr hBr
        rw [enc_ty s] at C
        have hw : IntKind.i64.wrap ((n : Int) - 1) = (n : Int) - 1 := by rw [IntKind.wrap_i64]; omega
        have HLA := Lib.hid hlast
        clear hlast hC HV
        go_wp2_with fail
        refine C.mono ?_
        clear C hcf
        rintro e w3 ⟨v, rfl, hb3, hr3⟩
        obtain ⟨z0, z1, z2, z3, z4, rfl⟩ := hr3.junk
        have x0 := (hb3.cell (p := ⟨w1.heap.size, k * 3, none⟩) hsr).trans c0
        have x1 := (hb3.cell (p := ⟨w1.heap.size, k * 3 + 1, none⟩) hsr).trans c1
        have x2 := (hb3.cell (p := ⟨w1.heap.size, k * 3 + 2, none⟩) hsr).trans c2
        have u0 := (hb3.frozen (p := ⟨w1.heap.size, k * 3, none⟩) hsr).trans f0
        have u1 := (hb3.frozen (p := ⟨w1.heap.size, k * 3 + 1, none⟩) hsr).trans f1
        have u2 := (hb3.frozen (p := ⟨w1.heap.size, k * 3 + 2, none⟩) hsr).trans f2
        have HF2 := Lib.hid (HF.out w3 z0 z1 z2 z3 z4 hb3 hr3)
        clear c0 c1 c2 f0 f1 f2 hr3 HF
        go_wp2_with fail
        refine ⟨HF2.out, by simp [intOf]; omega⟩
      · rw [if_neg hlast] at hvis
        have hq := last_ne hlast
        obtain ⟨f, cap, rfl, hcf, hC⟩ := hvis
        have C := hC wr hBr
        rw [enc_ty s] at C
        have hw : IntKind.i64.wrap ((n : Int) - 1) = (n : Int) - 1 := by rw [IntKind.wrap_i64]; omega
        have HLA := Lib.hid hlast
        clear hlast hC HV
        go_wp2_with fail
        refine C.mono ?_
        clear C hcf
        rintro e w3 ⟨v, rfl, hb3, hr3⟩
        obtain ⟨z0, z1, z2, z3, z4, rfl⟩ := hr3.junk
        have x0 := (hb3.cell (p := ⟨w1.heap.size, k * 3, none⟩) hsr).trans c0
        have x1 := (hb3.cell (p := ⟨w1.heap.size, k * 3 + 1, none⟩) hsr).trans c1
        have x2 := (hb3.cell (p := ⟨w1.heap.size, k * 3 + 2, none⟩) hsr).trans c2
        have u0 := (hb3.frozen (p := ⟨w1.heap.size, k * 3, none⟩) hsr).trans f0
        have u1 := (hb3.frozen (p := ⟨w1.heap.size, k * 3 + 1, none⟩) hsr).trans f1
        have u2 := (hb3.frozen (p := ⟨w1.heap.size, k * 3 + 2, none⟩) hsr).trans f2
        have HF2 := Lib.hid (HF.out w3 z0 z1 z2 z3 z4 hb3 hr3)
        clear c0 c1 c2 f0 f1 f2 hr3 HF
        go_wp2_with fail
        refine ⟨HF2.out, by simp [intOf]; omega⟩
    · obtain rfl : k = n := by omega
      have HY := Lib.hid hys
      have HYL := Lib.hid hyl
      have HOO := Lib.hid hO
      clear hys hyl hO
      go_wp2_with fail
      go_ret
      have hr := (HOO.out.lt w1.heap.size rfl).2
      refine ⟨w1.heap.size, k, fun i => (ys[i]?).getD undef, by rw [HN.out]; rfl, hBr, ⟨hs1, hr⟩, fun j hj => ?_, fun i x hx => ?_⟩
      · rw [HN.out] at hj
        obtain ⟨y, hy⟩ : ∃ y, ys[j]? = some y := ⟨_, List.getElem?_eq_getElem (by have := HYL.out; omega)⟩
        have h3 := HOO.out.cells (g := w1.heap.size) rfl j _ hy
        rw [Addr.add_lit, Nat.zero_add] at h3
        rw [h3]; simp [hy]
      · rw [List.getElem?_mapIdx] at hx
        obtain ⟨s, hs, rfl⟩ := Option.map_eq_some_iff.1 hx
        exact (HY.out i s (by have := (List.getElem?_eq_some_iff.1 hs).1; have := HN.out; omega) hs).keep (fun _ _ => rfl) (fun g' hg' => hg'.1)
end Go.Proofs.YtcabmcpalgpfpaaGreatDoor

/- Nameless: the program's knotOf and nameless. -/
namespace Go.Proofs.YtcabmcpalgpfpaaGreatDoor
open Go.RowKit
open Ff
set_option linter.unusedVariables false
attribute [local go_sem] Oper.semAt_some

def KnC (n : Nat) : Prop := ∀ (f : UInt8 → Int) (t : Tm) (fv : Value) (w : World), t.depth ≤ n → OkF n f → t.good → (parts t).length ≤ 4000 → Within w fv f →
  Calls Tryz.prog 35 #[enc t, fv] w fun e w' => ∃ v, e = .returned v ∧ Below w.heap.size w w' ∧ KRep (New w w') w' (knT n f t) v
theorem enter_k2 (a : Value) (w : World) (v : Value) : (callFunc 55 (#[v] ++ #[a])).run Tryz.prog w = .ok (.enter 55 (#[v] ++ #[a])) w := by kernel_rfl
theorem enter_k3 (a : Value) (w : World) (v : Value) : (callFunc 56 (#[v] ++ #[a])).run Tryz.prog w = .ok (.enter 56 (#[v] ++ #[a])) w := by kernel_rfl
theorem cells3 {w : World} {b : Nat} {z0 z1 z2 : Value} {t : TypeId} (h : w.heap[b]? = some (.cells #[z0, z1, z2] t (0, 0))) : w.cell? ⟨b, 0, none⟩ = some z0 ∧ w.cell? ⟨b, 1, none⟩ = some z1 ∧ w.cell? ⟨b, 2, none⟩ = some z2 ∧ w.frozen? ⟨b, 0, none⟩ = false ∧ w.frozen? ⟨b, 1, none⟩ = false ∧ w.frozen? ⟨b, 2, none⟩ = false := by
  refine ⟨?_, ?_, ?_, ?_, ?_, ?_⟩ <;> simp [World.cell?, World.frozen?, h]
abbrev set3 (W : World) (b : Nat) (z0 z1 z2 : Value) : World := ((W.setCell ⟨b, 0, none⟩ z0).setCell ⟨b, 1, none⟩ z1).setCell ⟨b, 2, none⟩ z2
theorem set3_size (W : World) (b : Nat) (z0 z1 z2 : Value) : (set3 W b z0 z1 z2).heap.size = W.heap.size := by simp [World.setCell]
theorem set3_far (W : World) (b : Nat) (z0 z1 z2 : Value) (g : Nat) (h : g ≠ b) : (set3 W b z0 z1 z2).heap[g]? = W.heap[g]? :=
  (Below.heap_setCell _ _ _ _ h).trans ((Below.heap_setCell _ _ _ _ h).trans (Below.heap_setCell _ _ _ _ h))
theorem set3_below {B b : Nat} {w W : World} (h : Below B w W) (hb : B ≤ b) (z0 z1 z2 : Value) : Below B w (set3 W b z0 z1 z2) :=
  ((h.setCell (p := ⟨b, 0, none⟩) hb _).setCell (p := ⟨b, 1, none⟩) hb _).setCell (p := ⟨b, 2, none⟩) hb _
abbrev knO : Obj := .cells #[.int .u8 0, .int .i64 0, .slice none 0 0] 43
set_option maxRecDepth 100000 in
set_option maxHeartbeats 2000000 in
theorem k2_c (n : Nat) (ih : KnC n) (f : UInt8 → Int) (s : Tm) (q : Nat) (fv : Value) (w : World) (hd : s.depth ≤ n) (hf : OkF n f) (hg : s.good) (hp : (parts s).length ≤ 4000) (hW : Within w fv f) (h0 : w.cell? ⟨q, 0, none⟩ = some fv) :
    Calls Tryz.prog 55 #[enc s, .pointer (some ⟨q, 0, none⟩)] w fun e w' => ∃ v, e = .returned v ∧ Below w.heap.size w w' ∧ KRep (New w w') w' (knT n f s) v := by
  have hb0 := (Below.refl _ w).alloc (Nat.le_refl _) knO
  have K := ih f s fv (w.alloc knO) hd hf hg hp (hW.keep hb0)
  obtain ⟨i, cap, rfl, _, _⟩ := hW
  have z0 := World.alloc_heap_new w knO
  have hz : (w.alloc knO).heap.size = w.heap.size + 1 := by simp
  have h1 := (hb0.cell (p := ⟨q, 0, none⟩) (World.block_lt_of_cell? w _ h0)).trans h0
  obtain ⟨sn, sv, hs⟩ := enc_gen s
  rw [hs] at K ⊢
  have HZ := Lib.hid hz
  clear hs h0 hz
  go_enter Tryz.func55, Tryz.ntmps55
  go_wp2_with fail
  refine K.mono ?_
  clear K
  rintro e w2 ⟨v, rfl, hb2, hr2⟩
  obtain ⟨y0, y1, y2, y3, y4, rfl⟩ := hr2.junk
  obtain ⟨c0, c1, c2, f0, f1, f2⟩ := cells3 ((hb2.block w.heap.size (by rw [HZ.out]; omega)).trans z0)
  go_wp2_with fail
  refine bodyPost_ret (v := .agg #[.int .u8 y0, .int .i64 y1, .slice y2 y3 y4]) (by simp [results, Tryz.results55, go_sem, c0, c1, c2]) rfl ?_
  exact ⟨_, rfl, set3_below (hb0.trans (hb2.mono (by rw [HZ.out]; omega))) (Nat.le_refl _) _ _ _, hr2.keep (fun g hg => set3_far _ _ _ _ _ _ (by have := hg.1; rw [HZ.out] at this; omega)) (fun g hg => ⟨by have := hg.1; rw [HZ.out] at this; omega, by rw [set3_size]; exact hg.2⟩)⟩
set_option maxRecDepth 100000 in
set_option maxHeartbeats 2000000 in
theorem k3_c (n : Nat) (ih : KnC n) (f : UInt8 → Int) (s : Tm) (q : Nat) (fv : Value) (w : World) (hd : s.depth ≤ n) (hf : OkF n f) (hg : s.good) (hp : (parts s).length ≤ 4000) (hW : Within w fv f) (h0 : w.cell? ⟨q, 0, none⟩ = some fv) :
    Calls Tryz.prog 56 #[enc s, .pointer (some ⟨q, 0, none⟩)] w fun e w' => ∃ v, e = .returned v ∧ Below w.heap.size w w' ∧ KRep (New w w') w' (knT n f s) v := by
  have hb0 := (Below.refl _ w).alloc (Nat.le_refl _) knO
  have K := ih f s fv (w.alloc knO) hd hf hg hp (hW.keep hb0)
  obtain ⟨i, cap, rfl, _, _⟩ := hW
  have z0 := World.alloc_heap_new w knO
  have hz : (w.alloc knO).heap.size = w.heap.size + 1 := by simp
  have h1 := (hb0.cell (p := ⟨q, 0, none⟩) (World.block_lt_of_cell? w _ h0)).trans h0
  obtain ⟨sn, sv, hs⟩ := enc_gen s
  rw [hs] at K ⊢
  have HZ := Lib.hid hz
  clear hs h0 hz
  go_enter Tryz.func56, Tryz.ntmps56
  go_wp2_with fail
  refine K.mono ?_
  clear K
  rintro e w2 ⟨v, rfl, hb2, hr2⟩
  obtain ⟨y0, y1, y2, y3, y4, rfl⟩ := hr2.junk
  obtain ⟨c0, c1, c2, f0, f1, f2⟩ := cells3 ((hb2.block w.heap.size (by rw [HZ.out]; omega)).trans z0)
  go_wp2_with fail
  refine bodyPost_ret (v := .agg #[.int .u8 y0, .int .i64 y1, .slice y2 y3 y4]) (by simp [results, Tryz.results56, go_sem, c0, c1, c2]) rfl ?_
  exact ⟨_, rfl, set3_below (hb0.trans (hb2.mono (by rw [HZ.out]; omega))) (Nat.le_refl _) _ _ _, hr2.keep (fun g hg => set3_far _ _ _ _ _ _ (by have := hg.1; rw [HZ.out] at this; omega)) (fun g hg => ⟨by have := hg.1; rw [HZ.out] at this; omega, by rw [set3_size]; exact hg.2⟩)⟩
theorem knT_eta (n : Nat) (f : UInt8 → Int) {t : Tm} (hg : t.good) : knT (n + 1) f t = .mk (signK (knT (n + 1) f t)) (valK (knT (n + 1) f t)) (t.kids.mapIdx (knK n f t)) := by
  by_cases hk : t.kids = []
  · cases t with
    | num k => rfl
    | var c => simp only [knT, Tm.kids, List.mapIdx_nil]; split <;> rfl
    | _ => simp [Tm.kids] at hk
  · rw [knT_node n f hg hk]; rfl
set_option maxRecDepth 100000 in
set_option maxHeartbeats 8000000 in
theorem knot_step (n : Nat) (ih : KnC n) (f : UInt8 → Int) (t : Tm) (fv : Value) (w : World) (hd : t.depth ≤ n + 1) (hf : OkF (n + 1) f) (hg : t.good) (hp : (parts t).length ≤ 4000) (hW : Within w fv f) :
    Calls Tryz.prog 35 #[enc t, fv] w fun e w' => ∃ v, e = .returned v ∧ Below w.heap.size w w' ∧ KRep (New w w') w' (knT (n + 1) f t) v := by
  have hn24 := hf.1
  have KB := fun w' => boundBy_c t hg w'
  have hlen := binds_len t
  have hff : ∀ c, f c = -1 ∨ (0 ≤ f c ∧ f c ≤ 99) := fun c => by have := hf.2 c; omega
  have KM := fun W (hB : Below w.heap.size w W) => markOf_c n t f fv W (by omega) hg hp (hW.keep hB)
  have hb0 := below_two w (.cells #[fv] 72) knO
  have z0 : ((w.alloc (.cells #[fv] 72)).alloc knO).cell? ⟨w.heap.size, 0, none⟩ = some fv := by simp [go_sem]
  have z1 : ((w.alloc (.cells #[fv] 72)).alloc knO).heap[w.heap.size + 1]? = some knO := by
    have := World.alloc_heap_new (w.alloc (.cells #[fv] 72)) knO
    rwa [World.size_alloc] at this
  have hz : ((w.alloc (.cells #[fv] 72)).alloc knO).heap.size = w.heap.size + 2 := by simp
  have HW := Lib.hid hW
  obtain ⟨i, cap, rfl, _, _⟩ := hW
  have KV := fun W => visitN_c t (knK n f t) (.func (.func 55) #[] #[.pointer (some ⟨w.heap.size, 0, none⟩)]) W
  have hE := knT_eta n f hg
  obtain ⟨L, hL⟩ : ∃ L, (bindsOf t).length = L := ⟨_, rfl⟩
  rw [enc_ty t] at KB KM ⊢
  have HE := Lib.hid hE
  clear hE KV
  go_enter Tryz.func35, Tryz.ntmps35
  go_wp2_with fail
  generalize (w.alloc (.cells #[.func (.func i) #[] cap] 72)).alloc knO = W0 at *
  refine (KB _).mono ?_
  clear KB
  rintro e w1 ⟨v, rfl, hsv, hb1⟩
  obtain ⟨an, rfl, hrow⟩ := hsv.row
  rw [List.length_map, hL]
  have hs1 := hb1.size
  have hlow : w.heap.size + 2 ≤ w1.heap.size := by omega
  have hb2 := below_two w1 (.cells #[.slice an L L] 22) (.cells #[.func (.func 53) #[] #[.pointer (some ⟨w1.heap.size, 0, none⟩), .pointer (some ⟨w.heap.size, 0, none⟩)]] 72)
  have y0 := (hb2.cell (p := ⟨w.heap.size, 0, none⟩) (by show w.heap.size < _; omega)).trans ((hb1.cell (p := ⟨w.heap.size, 0, none⟩) (by show w.heap.size < _; omega)).trans z0)
  have y1 := (hb2.block (w.heap.size + 1) (by omega)).trans ((hb1.block (w.heap.size + 1) (by omega)).trans z1)
  have y2 : ((w1.alloc (.cells #[.slice an L L] 22)).alloc (.cells #[.func (.func 53) #[] #[.pointer (some ⟨w1.heap.size, 0, none⟩), .pointer (some ⟨w.heap.size, 0, none⟩)]] 72)).cell? ⟨w1.heap.size, 0, none⟩ = some (.slice an L L) := by simp [go_sem]
  have y3 : ((w1.alloc (.cells #[.slice an L L] 22)).alloc (.cells #[.func (.func 53) #[] #[.pointer (some ⟨w1.heap.size, 0, none⟩), .pointer (some ⟨w.heap.size, 0, none⟩)]] 72)).cell? ⟨w1.heap.size + 1, 0, none⟩ = some (.func (.func 53) #[] #[.pointer (some ⟨w1.heap.size, 0, none⟩), .pointer (some ⟨w.heap.size, 0, none⟩)]) := by simp [go_sem]
  have y4 := hrow.keep hb2
  have hz2 : ((w1.alloc (.cells #[.slice an L L] 22)).alloc (.cells #[.func (.func 53) #[] #[.pointer (some ⟨w1.heap.size, 0, none⟩), .pointer (some ⟨w.heap.size, 0, none⟩)]] 72)).heap.size = w1.heap.size + 2 := by simp
  have hB2 : Below w.heap.size w _ := (hb0.trans (hb1.mono (by omega))).trans (hb2.mono (by omega))
  go_wp2_with fail
  generalize (w1.alloc (.cells #[.slice an L L] 22)).alloc (.cells #[.func (.func 53) #[] #[.pointer (some ⟨w1.heap.size, 0, none⟩), .pointer (some ⟨w.heap.size, 0, none⟩)]] 72) = V at *
  have hWd : Within V (.func (.func 53) #[] #[.pointer (some ⟨w1.heap.size, 0, none⟩), .pointer (some ⟨w.heap.size, 0, none⟩)]) (deeper (bindsOf t) f) :=
    ⟨_, _, rfl, enter_deep _ _, fun W hW c => deep_c (bindsOf t) w1.heap.size w.heap.size an L _ f w W c hlen hff HW.out (hB2.trans (hW.mono hB2.size)) (by rw [hL]; exact (hW.cell (p := ⟨w1.heap.size, 0, none⟩) (by show w1.heap.size < _; omega)).trans y2) ((hW.cell (p := ⟨w.heap.size, 0, none⟩) (by show w.heap.size < _; omega)).trans y0) (y4.keep hW)⟩
  refine (KM _ hB2).mono ?_
  clear KM
  rintro e w3 ⟨rfl, hb3⟩
  have hs3 := hb3.size
  have hvis : ∀ k s, t.kids[k]? = some s → VisK w3 (if k + 1 = t.kids.length then (.func (.func 56) #[] #[.pointer (some ⟨w1.heap.size + 1, 0, none⟩)] : Value) else (.func (.func 55) #[] #[.pointer (some ⟨w.heap.size, 0, none⟩)] : Value)) s (knK n f t k s) := by
    intro k s hs
    have hmem := List.mem_of_getElem? hs
    have hds := kid_depth hmem
    have hgs := Tm.kid_good hg hmem
    have hps := parts_kid_le hmem
    unfold knK
    by_cases hl : k + 1 = t.kids.length
    · simp only [if_pos hl]
      refine ⟨_, _, rfl, enter_k3 _, fun W hW => ?_⟩
      have hV := hb3.trans (hW.mono hs3)
      exact k3_c n ih _ s (w1.heap.size + 1) _ W (by omega) (okF_deeper hf hlen) hgs (by omega) (hWd.keep hV) ((hV.cell (p := ⟨w1.heap.size + 1, 0, none⟩) (by show w1.heap.size + 1 < _; omega)).trans y3)
    · simp only [if_neg hl]
      refine ⟨_, _, rfl, enter_k2 _, fun W hW => ?_⟩
      have hV := hb3.trans (hW.mono hs3)
      exact k2_c n ih _ s w.heap.size _ W (by omega) (okF_less hf) hgs (by omega) (HW.out.keep (hB2.trans (hV.mono hB2.size))) ((hV.cell (p := ⟨w.heap.size, 0, none⟩) (by show w.heap.size < _; omega)).trans y0)
  have KV := visitN_c t (knK n f t) _ _ w3 hvis
  rw [enc_ty t] at KV
  have y1' := (hb3.block (w.heap.size + 1) (by omega)).trans y1
  have hs2 := hB2.size
  have HZ := Lib.hid hz
  have HZ2 := Lib.hid hz2
  clear hvis hWd y0 y1 y2 y3 y4 hrow hsv z0 z1 hz hz2
  go_wp2_with fail
  refine KV.mono ?_
  clear KV
  rintro e w4 ⟨g, cp, c, rfl, hb4, hg4, hc4, hr4⟩
  obtain ⟨c0, c1, c2, f0, f1, f2⟩ := cells3 ((hb4.block (w.heap.size + 1) (by have := HZ2.out; omega)).trans y1')
  have HC4 := Lib.hid hc4
  have HR4 := Lib.hid hr4
  clear hc4 hr4 y1'
  obtain ⟨kk, hkk⟩ : ∃ kk, knT (n + 1) f t = kk := ⟨_, rfl⟩
  rw [hkk] at HE ⊢
  obtain ⟨lk, hlk⟩ : ∃ lk, t.kids.length = lk := ⟨_, rfl⟩
  rw [hlk]
  go_wp2_with fail
  refine bodyPost_ret (v := .agg #[.int .u8 ((signK kk).toNat : Int), .int .i64 (valK kk), .slice (some ⟨g, 0, none⟩) lk cp]) (by simp [results, Tryz.results35, go_sem, c0, c1, c2]) rfl ?_
  have hB4 : Below w.heap.size w w4 := hB2.trans ((hb3.trans (hb4.mono hs3)).mono hs2)
  have hfar : ∀ g', New w3 w4 g' → (set3 w4 (w.heap.size + 1) (.int .u8 ((signK kk).toNat : Int)) (.int .i64 (valK kk)) (.slice (some ⟨g, 0, none⟩) lk cp)).heap[g']? = w4.heap[g']? := fun g' hg' => set3_far _ _ _ _ _ _ (by have := hg'.1; have := HZ2.out; omega)
  refine ⟨_, rfl, set3_below hB4 (by omega) _ _ _, ?_⟩
  have hlm : (t.kids.mapIdx (knK n f t)).length = lk := by rw [List.length_mapIdx, hlk]
  have R := KRep.mk (S := New w (set3 w4 (w.heap.size + 1) (.int .u8 ((signK kk).toNat : Int)) (.int .i64 (valK kk)) (.slice (some ⟨g, 0, none⟩) lk cp))) (w := set3 w4 (w.heap.size + 1) (.int .u8 ((signK kk).toNat : Int)) (.int .i64 (valK kk)) (.slice (some ⟨g, 0, none⟩) lk cp)) (signK kk) (valK kk) (t.kids.mapIdx (knK n f t)) g cp c
    ⟨by have := hg4.1; omega, by rw [set3_size]; exact hg4.2⟩ (fun k hk => (World.cell?_of_block (a := ⟨g, k, none⟩) (hfar g hg4)).trans (HC4.out k (by rw [hlm] at hk; rw [hlk]; exact hk))) (fun i x hx => (HR4.out i x hx).keep hfar (fun g' hg' => ⟨by have := hg'.1; omega, by rw [set3_size]; exact hg'.2⟩))
  rw [hlm, ← HE.out] at R
  rw [hkk]
  exact R
theorem knot_c : ∀ n, KnC n
  | 0 => fun f t fv w hd => absurd hd (by have := t.depth_pos; omega)
  | n + 1 => fun f t fv w hd hf hg hp hW => knot_step n (knot_c n) f t fv w hd hf hg hp hW
/-- No name is bound. -/
abbrev noF : UInt8 → Int := fun _ => -1
theorem noF_ok : OkF 24 noF := ⟨by omega, fun c => .inl rfl⟩
set_option maxRecDepth 100000 in
set_option maxHeartbeats 2000000 in
theorem nameless_c (t : Tm) (w : World) (hd : t.depth ≤ 24) (hg : t.good) (hp : (parts t).length ≤ 4000) :
    Calls Tryz.prog 17 #[enc t] w fun e w' => ∃ v, e = .returned v ∧ Below w.heap.size w w' ∧ KRep (New w w') w' (knT 24 noF t) v := by
  have hb0 := (Below.refl _ w).alloc (Nat.le_refl _) knO
  have K := knot_c 24 noF t _ (w.alloc knO) hd noF_ok hg hp (within_free _)
  have z0 := World.alloc_heap_new w knO
  have hz : (w.alloc knO).heap.size = w.heap.size + 1 := by simp
  obtain ⟨sn, sv, hs⟩ := enc_gen t
  rw [hs] at K ⊢
  have HZ := Lib.hid hz
  clear hs hz
  go_enter Tryz.func17, Tryz.ntmps17
  go_wp2_with fail
  refine K.mono ?_
  clear K
  rintro e w2 ⟨v, rfl, hb2, hr2⟩
  obtain ⟨y0, y1, y2, y3, y4, rfl⟩ := hr2.junk
  obtain ⟨c0, c1, c2, f0, f1, f2⟩ := cells3 ((hb2.block w.heap.size (by rw [HZ.out]; omega)).trans z0)
  go_wp2_with fail
  refine bodyPost_ret (v := .agg #[.int .u8 y0, .int .i64 y1, .slice y2 y3 y4]) (by simp [results, Tryz.results17, go_sem, c0, c1, c2]) rfl ?_
  exact ⟨_, rfl, set3_below (hb0.trans (hb2.mono (by rw [HZ.out]; omega))) (Nat.le_refl _) _ _ _, hr2.keep (fun g hg => set3_far _ _ _ _ _ _ (by have := hg.1; rw [HZ.out] at this; omega)) (fun g hg => ⟨by have := hg.1; rw [HZ.out] at this; omega, by rw [set3_size]; exact hg.2⟩)⟩
end Go.Proofs.YtcabmcpalgpfpaaGreatDoor

/- SameTerm: the program's. -/
namespace Go.Proofs.YtcabmcpalgpfpaaGreatDoor
open Go.RowKit
open Ff
set_option linter.unusedVariables false

theorem knot_cells {B : Nat} {w : World} {c : Nat → Value} {i g n : Nat} {x : Knot} (hi : i < n) (hc : ∀ k, k < 3 * n → w.cell? ⟨g, k, none⟩ = some (c k)) (hr : KRep (fun g => g < B) w x (three c i)) (hgw : g < w.heap.size) :
    ∃ (y0 y1 : Int) (y2 : Option Addr) (y3 y4 : Nat), KRep (fun g => g < B) w x (.agg #[.int .u8 y0, .int .i64 y1, .slice y2 y3 y4]) ∧ ∀ W, Below w.heap.size w W → W.cell? ⟨g, i * 3, none⟩ = some (.int .u8 y0) ∧ W.cell? ⟨g, i * 3 + 1, none⟩ = some (.int .i64 y1) ∧ W.cell? ⟨g, i * 3 + 2, none⟩ = some (.slice y2 y3 y4) := by
  obtain ⟨y0, y1, y2, y3, y4, he⟩ := hr.junk
  have h2 : KRep (fun g => g < B) w x (.agg #[.int .u8 y0, .int .i64 y1, .slice y2 y3 y4]) := by rw [← he]; exact hr
  unfold three at he
  simp only [Value.agg.injEq, Array.mk.injEq, List.cons.injEq, and_true] at he
  obtain ⟨i0, i1, i2⟩ := he
  refine ⟨y0, y1, y2, y3, y4, h2, fun W hW => ?_⟩
  have hcells : ∀ j, j < 3 → W.cell? ⟨g, 3 * i + j, none⟩ = some (c (3 * i + j)) := fun j hj => (hW.cell (p := ⟨g, 3 * i + j, none⟩) hgw).trans (hc (3 * i + j) (by omega))
  refine ⟨?_, ?_, ?_⟩
  · rw [← i0]; have := hcells 0 (by omega); rwa [Nat.mul_comm i 3]
  · rw [← i1]; have := hcells 1 (by omega); rwa [Nat.mul_comm i 3]
  · rw [← i2]; have := hcells 2 (by omega); rwa [Nat.mul_comm i 3]
/-- What SameTerm comes to. -/
def sameO (s s2 : Text) : Bool := match readS s, readS s2 with
  | some t, some u => decide (nlT 24 noF t = nlT 24 noF u)
  | _, _ => false
end Go.Proofs.YtcabmcpalgpfpaaGreatDoor
