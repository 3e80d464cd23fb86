import Derived.Test.YtkhdghbjififnaaDoorNa
import Derived.Test.YtkhdghbjififnaaDoorUd
import Derived.Test.YtkhdghbjififnaaDoorMTx
/- Nameless: the program's small functions; how knots lie in memory. -/
namespace Go.Proofs.YtkhdghbjififnaaDoor
open Go.RowKit
open Ff
set_option linter.unusedVariables false
attribute [local go_sem] Oper.semAt_some

/-- Three cells, as a knot's value. -/
def three (c : Nat → Value) (i : Nat) : Value := .agg #[c (3 * i), c (3 * i + 1), c (3 * i + 2)]
/-- How a knot lies in memory; its rows lie in blocks of which S is true. -/
inductive KRep (S : Nat → Prop) (w : World) : Knot → Value → Prop where
  | mk (s : UInt8) (v : Int) (ks : List Knot) (g cap : Nat) (c : Nat → Value) : S g → (∀ k, k < 3 * ks.length → w.cell? ⟨g, k, none⟩ = some (c k)) → (∀ i x, ks[i]? = some x → KRep S w x (three c i)) →
      KRep S w (.mk s v ks) (.agg #[.int .u8 (s.toNat : Int), .int .i64 v, .slice (some ⟨g, 0, none⟩) ks.length cap])
theorem KRep.keep {S S' : Nat → Prop} {w w' : World} {k : Knot} {v : Value} (h : KRep S w k v) (hb : ∀ g, S g → w'.heap[g]? = w.heap[g]?) (hS : ∀ g, S g → S' g) : KRep S' w' k v := by
  induction h with
  | mk s v ks g cap c hg hc _ ih => exact .mk s v ks g cap c (hS g hg) (fun k hk => (World.cell?_of_block (a := ⟨g, k, none⟩) (hb g hg)).trans (hc k hk)) ih
theorem KRep.junk {S : Nat → Prop} {w : World} {k : Knot} {v : Value} (h : KRep S w k v) : ∃ (s v' : Int) (a : Option Addr) (l c : Nat), v = .agg #[.int .u8 s, .int .i64 v', .slice a l c] := by
  cases h; exact ⟨_, _, _, _, _, rfl⟩
theorem row_setS {W : World} {base size : Nat} {e : TypeId} {n g cap : Nat} {xs : List Value} (h : W.ownsRow base e size (.slice (some ⟨g, 0, none⟩) n cap) n xs) (j : Nat) (u : Value) : (W.setCell ⟨g, j, none⟩ u).ownsRow base e size (.slice (some ⟨g, 0, none⟩) n cap) n (xs.set j u) := by
  obtain ⟨h1, h2⟩ := h
  refine ⟨by simpa using h1, ?_⟩
  rcases h2 with ⟨h2, _⟩ | ⟨g', cap', cur, hv, hb, hh, hn, hm, hc, ht⟩
  · cases h2
  · injection hv with hv1 hv2 hv3
    injection hv1 with hv1
    injection hv1 with hv1
    subst hv1 hv3
    refine .inr ⟨g, cap, cur.setIfInBounds j u, rfl, hb, ?_, hn, hm, by simpa using hc, ?_⟩
    · obtain ⟨hlt, hk⟩ := Array.getElem?_eq_some_iff.1 hh
      show (W.heap.modify g _)[g]? = _
      rw [Array.getElem?_eq_getElem (by rw [Array.size_modify]; exact hlt), Array.getElem_modify_self, hk]
      rfl
    · rw [Array.toList_setIfInBounds, List.take_set, ht]
/-- What tells how many names are bound further inwards. -/
def Within (w : World) (fv : Value) (f : UInt8 → Int) : Prop :=
  ∃ (i : FuncId) (cap : Array Value), fv = .func (.func i) #[] cap ∧ (∀ (W : World) (v : Value), (callFunc i (#[v] ++ cap)).run Tryd.prog W = .ok (.enter i (#[v] ++ cap)) W) ∧
    ∀ (W : World), Below w.heap.size w W → ∀ c, Calls Tryd.prog i (#[bv c] ++ cap) W fun e W' => e = .returned (.int .i64 (f c)) ∧ Below W.heap.size W W'
theorem Within.keep {w w' : World} {fv : Value} {f : UInt8 → Int} (h : Within w fv f) (hb : Below w.heap.size w w') : Within w' fv f := by
  obtain ⟨i, cap, h1, h2, h3⟩ := h
  exact ⟨i, cap, h1, h2, fun W hW => h3 W (hb.trans (hW.mono hb.size))⟩
theorem enter_none (w : World) (v : Value) : (callFunc 17 (#[v] ++ #[])).run Tryd.prog w = .ok (.enter 17 (#[v] ++ #[])) w := by kernel_rfl
theorem enter_deep (a b : Value) (w : World) (v : Value) : (callFunc 24 (#[v] ++ #[a, b])).run Tryd.prog w = .ok (.enter 24 (#[v] ++ #[a, b])) w := by kernel_rfl
set_option maxHeartbeats 1000000 in
theorem none_c (c : UInt8) (w : World) : Calls Tryd.prog 17 #[bv c] w fun e w' => e = .returned (.int .i64 (-1)) ∧ Below w.heap.size w w' := by
  go_enter Tryd.func17, Tryd.ntmps17
  go_wp2_with fail
  go_ret
  exact ⟨rfl, Below.refl _ w⟩
theorem within_free (w : World) : Within w (.func (.func 17) #[] #[]) (fun _ => -1) := ⟨_, _, rfl, enter_none, fun W _ c => none_c c W⟩
set_option maxRecDepth 100000 in
set_option maxHeartbeats 2000000 in
theorem deep_c (ns : Text) (q0 q1 : Nat) (an : Option Addr) (cn : Nat) (fv : Value) (f : UInt8 → Int) (w W : World) (c : UInt8) (hlen : ns.length ≤ 2) (hf : ∀ c, f c = -1 ∨ (0 ≤ f c ∧ f c ≤ 99)) (hS : Within w fv f) (hB : Below w.heap.size w W)
    (h0 : W.cell? ⟨q0, 0, none⟩ = some (.slice an ns.length cn)) (h1 : W.cell? ⟨q1, 0, none⟩ = some fv) (hrn : RowAt W an (ns.map bv)) :
    Calls Tryd.prog 24 #[bv c, .pointer (some ⟨q0, 0, none⟩), .pointer (some ⟨q1, 0, none⟩)] W fun e W' => e = .returned (.int .i64 (deeper ns f c)) ∧ Below W.heap.size W W' := by
  obtain ⟨i, cap, rfl, hcf, hC⟩ := hS
  have KI := indexB_c ns c an cn W (by omega) hrn
  have hft := findI_lt c ns
  have hq0 := World.block_lt_of_cell? W _ h0
  generalize hx : findI c ns = x at KI
  have HX := Lib.hid hx
  by_cases hc : 0 ≤ x
  · have e : deeper ns f c = (ns.length : Int) - 1 - x := by unfold deeper; rw [hx, if_pos hc]
    have hl0 : x < ns.length := by
      rcases hft with h | h
      · omega
      · subst h; rw [← hx, findI_none (by simp)] at hc; omega
    have hw1 : IntKind.i64.wrap ((ns.length : Int) - 1) = (ns.length : Int) - 1 := by rw [IntKind.wrap_i64]; omega
    have hw2 : IntKind.i64.wrap ((ns.length : Int) - 1 - x) = (ns.length : Int) - 1 - x := by rw [IntKind.wrap_i64]; omega
    rw [e]
    clear hx hft e hrn hC hcf h1
    go_enter Tryd.func24, Tryd.ntmps24
    go_wp2_with (go_at_call 25; refine KI.mono ?_; clear KI; rintro e w1 ⟨rfl, rfl⟩)
    go_ret
    exact ⟨rfl, Below.refl _ _⟩
  · have K := hC W hB c
    have h3 := hf c
    by_cases h4 : f c = -1
    · have e : deeper ns f c = -1 := by unfold deeper; rw [hx, if_neg hc, if_pos h4]
      rw [e]
      rw [h4] at K
      clear hx hft e hrn hC h3 h4
      go_enter Tryd.func24, Tryd.ntmps24
      go_wp2_with (go_at_call 25; refine KI.mono ?_; clear KI; rintro e w1 ⟨rfl, rfl⟩)
      refine K.mono ?_
      clear K hcf
      rintro e w2 ⟨rfl, hb2⟩
      go_wp2_with fail
      go_ret
      exact ⟨rfl, hb2⟩
    · have e : deeper ns f c = f c + ns.length := by unfold deeper; rw [hx, if_neg hc, if_neg h4]
      rw [e]
      generalize f c = y at *
      have hw1 : IntKind.i64.wrap (y + (ns.length : Int)) = y + ns.length := by rw [IntKind.wrap_i64]; omega
      have hy : (y == -1) = false := by rw [beq_eq_false_iff_ne]; exact h4
      clear hx hft e hrn hC h3
      go_enter Tryd.func24, Tryd.ntmps24
      go_wp2_with (go_at_call 25; refine KI.mono ?_; clear KI; rintro e w1 ⟨rfl, rfl⟩)
      refine K.mono ?_
      clear K hcf
      rintro e w2 ⟨rfl, hb2⟩
      have h02 := (hb2.cell (p := ⟨q0, 0, none⟩) hq0).trans h0
      go_wp2_with fail
      go_ret
      exact ⟨rfl, hb2⟩
def signK : Knot → UInt8
  | .mk s _ _ => s
def valK : Knot → Int
  | .mk _ v _ => v
/-- A mark's value. -/
abbrev markV (k : Knot) : Value := .agg #[.int .u8 ((signK k).toNat : Int), .int .i64 (valK k)]
set_option maxRecDepth 100000 in
set_option maxHeartbeats 2000000 in
theorem mark_num (n k : Nat) (f : UInt8 → Int) (fv : Value) (w : World) (hW : Within w fv f) :
    Calls Tryd.prog 28 #[enc (.num k), fv] w fun e w' => e = .returned (markV (knT (n + 1) f (.num k))) ∧ Below w.heap.size w w' := by
  have a0 := ta_num (.num k)
  simp only [ty, pl, numV, isNum] at a0
  obtain ⟨i, cap, rfl, _, _⟩ := hW
  simp only [enc]
  go_enter Tryd.func28, Tryd.ntmps28
  go_wp2_with fail
  refine bodyPost_ret (v := .agg #[.int .u8 35, .int .i64 (k : Int)]) (by simp [results, Tryd.results28, go_sem]) rfl ?_
  exact ⟨rfl, below_two w _ _⟩
set_option maxRecDepth 100000 in
set_option maxHeartbeats 2000000 in
theorem mark_var (n : Nat) (c : UInt8) (f : UInt8 → Int) (fv : Value) (w : World) (hW : Within w fv f) :
    Calls Tryd.prog 28 #[enc (.var c), fv] w fun e w' => e = .returned (markV (knT (n + 1) f (.var c))) ∧ Below w.heap.size w w' := by
  have a0 := ta_num (.var c)
  have a1 := ta_var (.var c)
  simp only [ty, pl, numV, isNum, varV, isVar] at a0 a1
  obtain ⟨i, cap, rfl, hcf, hC⟩ := hW
  simp only [enc]
  have hb2 := below_two w (.cells #[.int .u8 0, .int .i64 0] 36) (.cells #[bv c] 69)
  have K := hC _ hb2 c
  have z0 : ((w.alloc (.cells #[.int .u8 0, .int .i64 0] 36)).alloc (.cells #[bv c] 69)).cell? ⟨w.heap.size, 0, none⟩ = some (.int .u8 0) := by simp [go_sem]
  have z1 : ((w.alloc (.cells #[.int .u8 0, .int .i64 0] 36)).alloc (.cells #[bv c] 69)).cell? ⟨w.heap.size, 1, none⟩ = some (.int .i64 0) := by simp [go_sem]
  have z2 : ((w.alloc (.cells #[.int .u8 0, .int .i64 0] 36)).alloc (.cells #[bv c] 69)).cell? ⟨w.heap.size + 1, 0, none⟩ = some (bv c) := by simp [go_sem]
  have y0 : ∀ k, ((w.alloc (.cells #[.int .u8 0, .int .i64 0] 36)).alloc (.cells #[bv c] 69)).frozen? ⟨w.heap.size, k, none⟩ = false := fun k => by simp [go_sem]
  have hz : ((w.alloc (.cells #[.int .u8 0, .int .i64 0] 36)).alloc (.cells #[bv c] 69)).heap.size = w.heap.size + 2 := by simp
  have HY := Lib.hid y0
  clear hC y0
  by_cases h : f c = -1
  · have e1 : markV (knT (n + 1) f (.var c)) = .agg #[bv c, .int .i64 0] := by simp only [knT, if_pos h]; rfl
    rw [e1]
    rw [h] at K
    clear h e1
    go_enter Tryd.func28, Tryd.ntmps28
    go_wp2_with fail
    generalize (w.alloc (.cells #[.int .u8 0, .int .i64 0] 36)).alloc (.cells #[bv c] 69) = W0 at *
    refine K.mono ?_
    clear K hcf
    rintro e w2 ⟨rfl, hb3⟩
    have x0 := (hb3.cell (p := ⟨w.heap.size, 0, none⟩) (by show w.heap.size < _; omega)).trans z0
    have x1 := (hb3.cell (p := ⟨w.heap.size, 1, none⟩) (by show w.heap.size < _; omega)).trans z1
    have x2 := (hb3.cell (p := ⟨w.heap.size + 1, 0, none⟩) (by show w.heap.size + 1 < _; omega)).trans z2
    have f0 := (hb3.frozen (p := ⟨w.heap.size, 0, none⟩) (by show w.heap.size < _; omega)).trans (HY.out 0)
    have f1 := (hb3.frozen (p := ⟨w.heap.size, 1, none⟩) (by show w.heap.size < _; omega)).trans (HY.out 1)
    clear z0 z1 z2 hz
    go_wp2_with fail
    refine bodyPost_ret (v := .agg #[bv c, .int .i64 0]) (by simp [results, Tryd.results28, go_sem, x0, x1]) rfl ?_
    exact ⟨rfl, ((hb2.trans (hb3.mono hb2.size)).setCell (p := ⟨w.heap.size, 0, none⟩) (Nat.le_refl _) _).setCell (p := ⟨w.heap.size, 1, none⟩) (Nat.le_refl _) _⟩
  · have e1 : markV (knT (n + 1) f (.var c)) = .agg #[.int .u8 36, .int .i64 (f c)] := by simp only [knT, if_neg h]; rfl
    rw [e1]
    clear e1
    generalize f c = y at *
    have hy : (y == -1) = false := by rw [beq_eq_false_iff_ne]; exact h
    clear h
    go_enter Tryd.func28, Tryd.ntmps28
    go_wp2_with fail
    generalize (w.alloc (.cells #[.int .u8 0, .int .i64 0] 36)).alloc (.cells #[bv c] 69) = W0 at *
    refine K.mono ?_
    clear K hcf
    rintro e w2 ⟨rfl, hb3⟩
    have x0 := (hb3.cell (p := ⟨w.heap.size, 0, none⟩) (by show w.heap.size < _; omega)).trans z0
    have x1 := (hb3.cell (p := ⟨w.heap.size, 1, none⟩) (by show w.heap.size < _; omega)).trans z1
    have f0 := (hb3.frozen (p := ⟨w.heap.size, 0, none⟩) (by show w.heap.size < _; omega)).trans (HY.out 0)
    have f1 := (hb3.frozen (p := ⟨w.heap.size, 1, none⟩) (by show w.heap.size < _; omega)).trans (HY.out 1)
    clear z0 z1 z2 hz
    go_wp2_with fail
    refine bodyPost_ret (v := .agg #[.int .u8 36, .int .i64 y]) (by simp [results, Tryd.results28, go_sem, x0, x1]) rfl ?_
    exact ⟨rfl, ((hb2.trans (hb3.mono hb2.size)).setCell (p := ⟨w.heap.size, 0, none⟩) (Nat.le_refl _) _).setCell (p := ⟨w.heap.size, 1, none⟩) (Nat.le_refl _) _⟩
attribute [local irreducible] Calls
set_option maxRecDepth 100000 in
set_option maxHeartbeats 2000000 in
theorem mark_node (n : Nat) (t : Tm) (f : UInt8 → Int) (fv : Value) (w : World) (hd : t.depth ≤ 4000) (hg : t.good) (hp : (parts t).length ≤ 4000) (hk : t.kids ≠ []) (hW : Within w fv f) :
    Calls Tryd.prog 28 #[enc t, fv] w fun e w' => e = .returned (markV (knT (n + 1) f t)) ∧ Below w.heap.size w w' := by
  have a0 := ta_num t
  have a1 := ta_var t
  have h1 : isNum t = false ∧ numV t = .agg #[.int .i64 0] ∧ isVar t = false := by cases t <;> simp [Tm.kids] at hk <;> exact ⟨rfl, rfl, rfl⟩
  obtain ⟨z, hz⟩ := var_shape t
  rw [h1.1, h1.2.1] at a0
  rw [h1.2.2, hz] at a1
  obtain ⟨i, cap, rfl, _, _⟩ := hW
  obtain ⟨k1, k2⟩ := kind_node hg hk
  have hsh := text_shape hg k1 k2
  have e1 : markV (knT (n + 1) f t) = .agg #[.int .u8 ((headN t).toNat : Int), .int .i64 0] := by rw [knT_node n f hg hk]; rfl
  rw [e1, enc_ty t]
  obtain ⟨T, hT⟩ : ∃ T, T = textN t := ⟨_, rfl⟩
  have hl : 0 < T.length := by rw [hT, hsh]; simp
  have hix := index_byte T 0 (headN t) (by rw [hT, hsh]; rfl) (by rw [size_data]; exact hl)
  have KT := text_c 4000 t hd hg (by omega) (w.alloc (.cells #[.int .u8 0, .int .i64 0] 36))
  rw [← hT] at KT
  have hb0 := (Below.refl _ w).alloc (Nat.le_refl _) (.cells #[.int .u8 0, .int .i64 0] 36)
  have z0 : (w.alloc (.cells #[.int .u8 0, .int .i64 0] 36)).cell? ⟨w.heap.size, 0, none⟩ = some (.int .u8 0) := by simp [go_sem]
  have z1 : (w.alloc (.cells #[.int .u8 0, .int .i64 0] 36)).cell? ⟨w.heap.size, 1, none⟩ = some (.int .i64 0) := by simp [go_sem]
  have y0 : ∀ k, (w.alloc (.cells #[.int .u8 0, .int .i64 0] 36)).frozen? ⟨w.heap.size, k, none⟩ = false := fun k => by simp [go_sem]
  have hzz : (w.alloc (.cells #[.int .u8 0, .int .i64 0] 36)).heap.size = w.heap.size + 1 := by simp
  have HY := Lib.hid y0
  have HHH := Lib.hid hT
  clear hT hsh e1 h1 hz hp hd k1 k2 y0
  generalize (headN t) = hd0 at *
  go_enter Tryd.func28, Tryd.ntmps28
  generalize hW0 : w.alloc (.cells #[.int .u8 0, .int .i64 0] 36) = W0 at *
  go_wp2_with (refine wpList_invoke rfl _ _ (ty t) (pl t) rfl rfl (tf t) (text_m t _ (by unfold TextName; kernel_rfl) _) (text_f t _) (fun rv w' => rv = .string ⟨T.toArray⟩ ∧ Below W0.heap.size W0 w') (KT.mono fun e w' ⟨h1, h2⟩ => ⟨_, h1, rfl, h2⟩) ?_; rintro rv w2 ⟨rfl, hb3⟩; have x0 := (hb3.cell (p := ⟨w.heap.size, 0, none⟩) (by show w.heap.size < _; omega)).trans z0; have x1 := (hb3.cell (p := ⟨w.heap.size, 1, none⟩) (by show w.heap.size < _; omega)).trans z1; have f0 := (hb3.frozen (p := ⟨w.heap.size, 0, none⟩) (by show w.heap.size < _; omega)).trans (HY.out 0); have f1 := (hb3.frozen (p := ⟨w.heap.size, 1, none⟩) (by show w.heap.size < _; omega)).trans (HY.out 1))
  refine bodyPost_ret (v := .agg #[.int .u8 (hd0.toNat : Int), .int .i64 0]) (by simp [results, Tryd.results28, go_sem, x0, x1]) rfl ?_
  exact ⟨rfl, ((hb0.trans (hb3.mono (by omega))).setCell (p := ⟨w.heap.size, 0, none⟩) (Nat.le_refl _) _).setCell (p := ⟨w.heap.size, 1, none⟩) (Nat.le_refl _) _⟩
theorem markOf_c (n : Nat) (t : Tm) (f : UInt8 → Int) (fv : Value) (w : World) (hd : t.depth ≤ 4000) (hg : t.good) (hp : (parts t).length ≤ 4000) (hW : Within w fv f) :
    Calls Tryd.prog 28 #[enc t, fv] w fun e w' => e = .returned (markV (knT (n + 1) f t)) ∧ Below w.heap.size w w' := by
  by_cases hk : t.kids = []
  · cases t with
    | num k => exact mark_num n k f fv w hW
    | var c => exact mark_var n c f fv w hW
    | _ => simp [Tm.kids] at hk
  · exact mark_node n t f fv w hd hg hp hk hW
end Go.Proofs.YtkhdghbjififnaaDoor
