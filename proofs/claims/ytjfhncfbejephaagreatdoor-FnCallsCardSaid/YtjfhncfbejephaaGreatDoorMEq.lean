import Derived.Test.YtjfhncfbejephaaGreatDoorMVg
/- The specification's RunTerm, l3Done, CountTerm. -/
namespace Go.Proofs.YtjfhncfbejephaaGreatDoor
open Go.RowKit Go.Shelf
open Ff
set_option linter.unusedVariables false
attribute [local irreducible] Calls

def runO (s : Text) : Option Ou := (closedS s).map fun t => ev 1501 t 0 .nil st0
def resP (o : Option Ou) : Value := match o with | some o => .tuple #[resO o, .bool true] | none => .tuple #[rV 0 false 0, .bool false]
theorem resO_form (o : Ou) : ∃ a b c, resO o = rV a b c := by cases o <;> exact ⟨_, _, _, rfl⟩
theorem three_alloc {w W : World} {b : Nat} {z0 z1 z2 : Value} {t : TypeId} (h : w.heap[b]? = some (.cells #[z0, z1, z2] t (0, 0))) (hb : Below w.heap.size w W) : W.cell? ⟨b, 0, none⟩ = some z0 ∧ W.cell? ⟨b, 1, none⟩ = some z1 ∧ W.cell? ⟨b, 2, none⟩ = some z2 ∧ W.frozen? ⟨b, 0, none⟩ = false ∧ W.frozen? ⟨b, 1, none⟩ = false ∧ W.frozen? ⟨b, 2, none⟩ = false :=
  three_of ((hb.block b (Array.getElem?_eq_some_iff.1 h).1).trans h)
theorem below_three {B b : Nat} {w W : World} (h : Below B w W) (hb : B ≤ b) (u0 u1 u2 : Value) : Below B w (((W.setCell ⟨b, 0, none⟩ u0).setCell ⟨b, 1, none⟩ u1).setCell ⟨b, 2, none⟩ u2) :=
  ((h.setCell (p := ⟨b, 0, none⟩) hb _).setCell (p := ⟨b, 1, none⟩) hb _).setCell (p := ⟨b, 2, none⟩) hb _
def okSt : Ou → Option St
  | .ok _ s2 => some s2
  | _ => none
/-- What a closed term's run has done that ends well. -/
def SDoneP (w : World) (o : Option St) (e : Ending) (w' : World) : Prop := match o with
  | none => ∃ p, e = .returned (.tuple #[.pointer p, .bool false])
  | some s2 => ∃ rb cv av, e = .returned (.tuple #[ptr rb, .bool true]) ∧ w.heap.size ≤ rb ∧ RunS NoX rb cv av w' s2 0
set_option maxRecDepth 100000 in
set_option maxHeartbeats 4000000 in
theorem sdone_c (hev : SEvC 1501) (s : Text) (w : World) (hl : s.length ≤ 9223372036854775807) :
    Calls Tryz.prog 16 #[.string ⟨s.toArray⟩] w fun e w' => SDoneP w (doneO s) e w' ∧ Below w.heap.size w w' := by
  go_enter Tryz.func16, Tryz.ntmps16
  go_wp2_with fail
  refine (sclosed_c s w hl).mono ?_
  rcases hr : closedS s with _ | t
  · rintro e w1 ⟨hb1, v, ⟨k, n, st, aa, l, cc, rfl⟩, rfl, -⟩
    have hc : doneO s = none := by unfold doneO; rw [hr]; rfl
    have HC := Lib.hid hc
    clear hr hc
    have hb2 := (hb1.alloc hb1.size (.cells #[.int .u8 k, .int .i64 n, .string st, .slice aa l cc] 78))
    have hb3 := hb2.alloc hb2.size (.cells Tryz.zeroCells58 58)
    go_wp2_with fail
    go_ret2
    rw [HC.out]
    exact ⟨⟨_, rfl⟩, hb3⟩
  · rintro e w1 ⟨hb1, v, ⟨k, n, st, aa, l, cc, rfl⟩, rfl, hrep⟩
    have hrep := hrep t rfl
    have hok := closed_ok hr
    obtain ⟨o, ho⟩ : ∃ o, ev 1501 t 0 .nil st0 = o := ⟨_, rfl⟩
    have hc : doneO s = okSt o := by unfold doneO; rw [hr, ← ho]; rfl
    have HC := Lib.hid hc
    have hs1 := hb1.size
    have hb2 := hb1.alloc hb1.size (.cells #[.int .u8 k, .int .i64 n, .string st, .slice aa l cc] 78)
    have hr2 := hrep.keep (w' := w1.alloc (.cells #[.int .u8 k, .int .i64 n, .string st, .slice aa l cc] 78)) (S' := fun g => g < w1.heap.size) (fun g hg => Below.heap_alloc _ _ _ hg.2) (fun g hg => hg.2)
    have hs2 : (w1.alloc (.cells #[.int .u8 k, .int .i64 n, .string st, .slice aa l cc] 78)).heap.size = w1.heap.size + 1 := by simp
    have hb3 := (Below.refl (w1.alloc (.cells #[.int .u8 k, .int .i64 n, .string st, .slice aa l cc] 78)).heap.size (w1.alloc (.cells #[.int .u8 k, .int .i64 n, .string st, .slice aa l cc] 78))).alloc (Nat.le_refl _) (.cells #[] 192)
    have C := sterm3_c hev t .nil (fun g => g < w1.heap.size) _ (.slice (some ⟨w1.heap.size + 1, 0, none⟩) 0 0) ((w1.alloc (.cells #[.int .u8 k, .int .i64 n, .string st, .slice aa l cc] 78)).alloc (.cells #[] 192)) (hr2.keep (fun g hg => hb3.block g (by simp only [hs2]; omega)) (fun g hg => hg)) (fun g hg => by simp; omega) (.nil _ _) hok
    rw [ho] at C
    have hb13 : Below w.heap.size w ((w1.alloc (.cells #[.int .u8 k, .int .i64 n, .string st, .slice aa l cc] 78)).alloc (.cells #[] 192)) := hb2.trans (hb3.mono (by omega))
    have hx2 := alloc_at w1 (.cells #[.int .u8 k, .int .i64 n, .string st, .slice aa l cc] 78)
    clear hr hc hrep hr2 ho
    go_wp2_with fail
    generalize (w1.alloc (.cells #[.int .u8 k, .int .i64 n, .string st, .slice aa l cc] 78)).alloc (.cells #[] 192) = w3 at C hb13 ⊢
    refine C.mono ?_
    clear C
    rintro e w4 ⟨hb4, rb, rfl, hrb, hR⟩
    have hb14 : Below w.heap.size w w4 := hb13.trans (hb4.mono hb13.size)
    have hrb2 : w.heap.size ≤ rb := by have := hb13.size; omega
    cases o with
    | ok v s2 =>
      obtain ⟨cv, av, hR⟩ := hR v s2 rfl
      simp only [resO, rV]
      have hb5 := (Below.refl w4.heap.size w4).alloc (Nat.le_refl _) (.cells #[.int .i64 0, .bool (isF v), .int .i64 (valN v : Nat)] 74)
      have hx5 := three_of (alloc_at w4 (.cells #[.int .i64 0, .bool (isF v), .int .i64 (valN v : Nat)] 74))
      obtain ⟨x0, _⟩ := hx5
      have hR5 := hR.below hb5
      go_wp2_with fail
      have hb6 := hb14.trans (hb5.mono hb14.size)
      generalize w4.alloc (.cells #[.int .i64 0, .bool (isF v), .int .i64 (valN v : Nat)] 74) = w5 at hR5 x0 hb6 ⊢
      go_region_with (fail)
      all_goals try go_wp2_with fail
      all_goals refine bodyPost_ret (v := .tuple #[ptr rb, .bool true]) (by simp [results, Tryz.results16, go_sem]) rfl ?_
      all_goals rw [HC.out]
      all_goals first
        | exact ⟨⟨rb, cv, av, rfl, hrb2, hR5⟩, hb6⟩
        | exact ⟨⟨rb, cv, av, rfl, hrb2, hR5.below ((Below.refl _ _).drew)⟩, hb6.drew⟩
    | fault =>
      simp only [resO, rV]
      have hb5 := (Below.refl w4.heap.size w4).alloc (Nat.le_refl _) (.cells #[.int .i64 1, .bool false, .int .i64 0] 74)
      obtain ⟨x0, _⟩ := three_of (alloc_at w4 (.cells #[.int .i64 1, .bool false, .int .i64 0] 74))
      go_wp2_with fail
      have hb6 := hb14.trans (hb5.mono hb14.size)
      generalize w4.alloc (.cells #[.int .i64 1, .bool false, .int .i64 0] 74) = w5 at x0 hb6 ⊢
      go_region_with (fail)
      all_goals try go_wp2_with fail
      all_goals refine bodyPost_ret (v := .tuple #[ptr rb, .bool false]) (by simp [results, Tryz.results16, go_sem]) rfl ?_
      all_goals rw [HC.out]
      all_goals first
        | exact ⟨⟨_, rfl⟩, hb6⟩
        | exact ⟨⟨_, rfl⟩, hb6.drew⟩
    | long =>
      simp only [resO, rV]
      have hb5 := (Below.refl w4.heap.size w4).alloc (Nat.le_refl _) (.cells #[.int .i64 2, .bool false, .int .i64 0] 74)
      obtain ⟨x0, _⟩ := three_of (alloc_at w4 (.cells #[.int .i64 2, .bool false, .int .i64 0] 74))
      go_wp2_with fail
      have hb6 := hb14.trans (hb5.mono hb14.size)
      generalize w4.alloc (.cells #[.int .i64 2, .bool false, .int .i64 0] 74) = w5 at x0 hb6 ⊢
      go_region_with (fail)
      all_goals try go_wp2_with fail
      all_goals refine bodyPost_ret (v := .tuple #[ptr rb, .bool false]) (by simp [results, Tryz.results16, go_sem]) rfl ?_
      all_goals rw [HC.out]
      all_goals first
        | exact ⟨⟨_, rfl⟩, hb6⟩
        | exact ⟨⟨_, rfl⟩, hb6.drew⟩
/-- What a run counts. -/
abbrev cntV (s : St) : Value := .agg #[.int .i64 (s.steps : Int), .int .i64 (s.calls : Int), .int .i64 (s.clos : Int), .int .i64 (s.capt : Int), .int .i64 (s.deepest : Int)]
def cntP (o : Option St) : Value := match o with | some s => .tuple #[cntV s, .bool true] | none => .tuple #[.agg #[.int .i64 0, .int .i64 0, .int .i64 0, .int .i64 0, .int .i64 0], .bool false]
theorem fiveC_of {w : World} {b : Nat} {z0 z1 z2 z3 z4 : Value} {t : TypeId} (h : w.heap[b]? = some (.cells #[z0, z1, z2, z3, z4] t (0, 0))) : w.cell? ⟨b, 0, none⟩ = some z0 ∧ w.cell? ⟨b, 1, none⟩ = some z1 ∧ w.cell? ⟨b, 2, none⟩ = some z2 ∧ w.cell? ⟨b, 3, none⟩ = some z3 ∧ w.cell? ⟨b, 4, none⟩ = some z4 ∧ ∀ k, w.frozen? ⟨b, k, none⟩ = false := by
  refine ⟨?_, ?_, ?_, ?_, ?_, fun k => ?_⟩ <;> simp [World.cell?, World.frozen?, h]
abbrev set5 (w : World) (b : Nat) (u0 u1 u2 u3 u4 : Value) : World := ((((w.setCell ⟨b, 0, none⟩ u0).setCell ⟨b, 1, none⟩ u1).setCell ⟨b, 2, none⟩ u2).setCell ⟨b, 3, none⟩ u3).setCell ⟨b, 4, none⟩ u4
theorem set_five {w : World} {B : Nat} {z0 z1 z2 z3 z4 : Value} {t : TypeId} (h : w.heap[B]? = some (.cells #[z0, z1, z2, z3, z4] t (0, 0))) (u0 u1 u2 u3 u4 : Value) :
    (set5 w B u0 u1 u2 u3 u4).cell? ⟨B, 0, none⟩ = some u0 ∧ (set5 w B u0 u1 u2 u3 u4).cell? ⟨B, 1, none⟩ = some u1 ∧ (set5 w B u0 u1 u2 u3 u4).cell? ⟨B, 2, none⟩ = some u2 ∧ (set5 w B u0 u1 u2 u3 u4).cell? ⟨B, 3, none⟩ = some u3 ∧ (set5 w B u0 u1 u2 u3 u4).cell? ⟨B, 4, none⟩ = some u4 := by
  obtain ⟨h0, h1, h2, h3, h4, _⟩ := fiveC_of h
  refine ⟨?_, ?_, ?_, ?_, ?_⟩ <;> simp [go_sem, h0, h1, h2, h3, h4]
theorem below_five {B b : Nat} {w W : World} (h : Below B w W) (hb : B ≤ b) (u0 u1 u2 u3 u4 : Value) : Below B w (set5 W b u0 u1 u2 u3 u4) :=
  ((((h.setCell (p := ⟨b, 0, none⟩) hb _).setCell (p := ⟨b, 1, none⟩) hb _).setCell (p := ⟨b, 2, none⟩) hb _).setCell (p := ⟨b, 3, none⟩) hb _).setCell (p := ⟨b, 4, none⟩) hb _
end Go.Proofs.YtjfhncfbejephaaGreatDoor

/- The program's RunWith, RunTerm, CountTerm. -/
namespace Go.Proofs.YtjfhncfbejephaaGreatDoor
open Go.RowKit Go.Shelf
open Ff
set_option linter.unusedVariables false
attribute [local irreducible] Calls

set_option maxRecDepth 100000 in
set_option maxHeartbeats 4000000 in
theorem iCountTerm_c (s : Text) (w : World) (hl : s.length ≤ 9223372036854775807) (hg : ErrT w) :
    Calls Tryz.prog 12 #[.string ⟨s.toArray⟩] w fun e w' => e = .returned (cntP (doneO s)) ∧ Below w.heap.size w w' := by
  have hb0 := (Below.refl _ w).alloc (Nat.le_refl _) (.cells #[.int .i64 0, .int .i64 0, .int .i64 0, .int .i64 0, .int .i64 0] 35)
  have hz0 := alloc_at w (.cells #[.int .i64 0, .int .i64 0, .int .i64 0, .int .i64 0, .int .i64 0] 35)
  have hs0 : (w.alloc (.cells #[.int .i64 0, .int .i64 0, .int .i64 0, .int .i64 0, .int .i64 0] 35)).heap.size = w.heap.size + 1 := by simp
  have hg0 : ErrT (w.alloc (.cells #[.int .i64 0, .int .i64 0, .int .i64 0, .int .i64 0, .int .i64 0] 35)) := (hb0.cell (p := ⟨0, 0, none⟩) hg.pos).trans hg
  go_enter Tryz.func12, Tryz.ntmps12
  go_wp2_with fail
  generalize w.alloc (.cells #[.int .i64 0, .int .i64 0, .int .i64 0, .int .i64 0, .int .i64 0] 35) = W at hb0 hz0 hs0 hg0 ⊢
  refine (idone_c s W hl hg0).mono ?_
  rcases hr : doneO s with _ | s2
  · rintro e w1 ⟨he, hb1⟩
    obtain rfl : e = _ := he
    have hz1 := (hb1.block w.heap.size (by omega)).trans hz0
    obtain ⟨t0, t1, t2, t3, t4, f0⟩ := fiveC_of hz1
    have HC := Lib.hid hr
    clear hr
    go_wp2_with fail
    obtain ⟨j0, j1, j2, j3, j4⟩ := set_five hz1 (.int .i64 0) (.int .i64 0) (.int .i64 0) (.int .i64 0) (.int .i64 0)
    simp only [set5] at j0 j1 j2 j3 j4
    refine bodyPost_ret (v := .tuple #[.agg #[.int .i64 0, .int .i64 0, .int .i64 0, .int .i64 0, .int .i64 0], .bool false]) (by simp [results, Tryz.results12, go_sem, j0, j1, j2, j3, j4]) rfl ?_
    exact ⟨by rw [HC.out]; rfl, below_five (hb0.trans (hb1.mono (by omega))) (Nat.le_refl _) _ _ _ _ _⟩
  · rintro e w1 ⟨⟨rb, cv, rfl, hrb, hR⟩, hb1⟩
    have hz1 := (hb1.block w.heap.size (by omega)).trans hz0
    obtain ⟨t0, t1, t2, t3, t4, f0⟩ := fiveC_of hz1
    obtain ⟨zk, hcs⟩ := hR.cells
    obtain ⟨c0, c1, c2, c3, c4⟩ : w1.cell? ⟨rb, 0, none⟩ = some (.int .i64 (s2.steps : Int)) ∧ w1.cell? ⟨rb, 1, none⟩ = some (.int .i64 (s2.calls : Int)) ∧ w1.cell? ⟨rb, 2, none⟩ = some (.int .i64 (s2.clos : Int)) ∧ w1.cell? ⟨rb, 3, none⟩ = some (.int .i64 (s2.capt : Int)) ∧ w1.cell? ⟨rb, 4, none⟩ = some (.int .i64 (s2.deepest : Int)) := by
      refine ⟨?_, ?_, ?_, ?_, ?_⟩ <;> simp [World.cell?, hcs]
    have HC := Lib.hid hr
    clear hr hcs
    go_wp2_with fail
    obtain ⟨j0, j1, j2, j3, j4⟩ := set_five hz1 (.int .i64 (s2.steps : Int)) (.int .i64 (s2.calls : Int)) (.int .i64 (s2.clos : Int)) (.int .i64 (s2.capt : Int)) (.int .i64 (s2.deepest : Int))
    simp only [set5] at j0 j1 j2 j3 j4
    refine bodyPost_ret (v := .tuple #[cntV s2, .bool true]) (by simp [results, Tryz.results12, go_sem, j0, j1, j2, j3, j4]) rfl ?_
    exact ⟨by rw [HC.out]; rfl, below_five (hb0.trans (hb1.mono (by omega))) (Nat.le_refl _) _ _ _ _ _⟩
/-- Names and numbers. -/
def envAt (T : Text) (xs : List Int) : Nat → En
  | 0 => .nil
  | k + 1 => .cons (T.getD k 0) (.num (xs.getD k 0).toNat) (envAt T xs k)
def int64s (xs : List Int) : List Value := xs.map fun n => Value.int .i64 n
def inR (xs : List Int) : Prop := ∀ x ∈ xs, 0 ≤ x ∧ x ≤ 99
instance (xs : List Int) : Decidable (inR xs) := inferInstanceAs (Decidable (∀ x ∈ xs, 0 ≤ x ∧ x ≤ 99))
/-- What names and numbers come to. -/
def bindO (T : Text) (xs : List Int) : Option En := if xs.length = T.length ∧ inR xs then some (envAt T xs xs.length) else none
def BindP (w : World) (o : Option En) (e : Ending) (w' : World) : Prop := match o with
  | none => e = .returned (.tuple #[.pointer none, .bool false])
  | some en => ∃ q, e = .returned (.tuple #[.pointer q, .bool true]) ∧ ∀ r, RepE r (fun g => w.heap.size ≤ g ∧ g < w'.heap.size) w' en (.pointer q)
theorem row_cells {w : World} {base : Nat} {v : Value} {xs : List Int} (h : w.ownsRow base 3 1 v xs.length (int64s xs)) : ∃ a cap, v = .slice a xs.length cap ∧ (0 < xs.length → ∃ g, a = some ⟨g, 0, none⟩ ∧ g < w.heap.size ∧ ∀ k x, xs[k]? = some x → w.cell? ⟨g, k, none⟩ = some (.int .i64 x)) := by
  have h0 := h
  obtain ⟨_, ⟨h1, h2⟩ | ⟨g, cap, cur, rfl, hb, hh, hr⟩⟩ := h
  · refine ⟨none, 0, ?_, fun hp => ?_⟩
    · rw [h1]; simp_all
    · simp_all
  · refine ⟨_, cap, rfl, fun hp => ⟨g, rfl, (Array.getElem?_eq_some_iff.1 hh).1, fun k x hx => ?_⟩⟩
    have hlt := (List.getElem?_eq_some_iff.1 hx).1
    have hc := h0.cellAt k (by omega)
    rw [hc]
    simp [int64s, hx]
theorem byteAt (T : Text) (k : Nat) (c : UInt8) (hc : T[k]? = some c) (h : k < (⟨T.toArray⟩ : ByteArray).size) : ((⟨T.toArray⟩ : ByteArray)[k]'h) = c := by
  obtain ⟨h1, h2⟩ := List.getElem?_eq_some_iff.1 hc
  exact h2
theorem envAt_names (T : Text) (xs : List Int) : ∀ k, k ≤ T.length → (envAt T xs k).names.length = k ∧ ∀ i c, i < k → T[i]? = some c → c ∈ (envAt T xs k).names
  | 0, _ => ⟨rfl, fun i c h => by omega⟩
  | k + 1, hk => by
    obtain ⟨h1, h2⟩ := envAt_names T xs k (by omega)
    refine ⟨by simp [envAt, En.names, h1], fun i c hi hc => ?_⟩
    simp only [envAt, En.names, List.mem_cons]
    by_cases e : i = k
    · subst e; exact .inl (by simp [List.getD, hc])
    · exact .inr (h2 i c (by omega) hc)
theorem envAt_ok (T : Text) (xs : List Int) (h : inR xs) : ∀ k, k ≤ xs.length → EnOk (envAt T xs k)
  | 0, _ => .nil
  | k + 1, hk => by
    refine .cons _ _ _ (.num _ ?_) (envAt_ok T xs h k (by omega))
    have := h (xs[k]'(by omega)) (List.getElem_mem _)
    simp only [List.getD, List.getElem?_eq_getElem (show k < xs.length by omega), Option.getD_some]
    omega
theorem bind_ok {T : Text} {xs : List Int} {en : En} (h : bindO T xs = some en) : xs.length = T.length ∧ inR xs ∧ en = envAt T xs xs.length ∧ EnOk en ∧ (∀ c ∈ T, c ∈ en.names) ∧ en.names.length = T.length := by
  unfold bindO at h
  split at h
  · rename_i hc
    injection h with h
    subst h
    obtain ⟨h1, h2⟩ := hc
    obtain ⟨h3, h4⟩ := envAt_names T xs xs.length (by omega)
    refine ⟨h1, h2, rfl, envAt_ok T xs h2 _ (Nat.le_refl _), fun c hc => ?_, by omega⟩
    obtain ⟨i, hi, rfl⟩ := List.getElem_of_mem hc
    exact h4 i _ (by omega) (List.getElem?_eq_getElem hi)
  · cases h
def withO (s : Text) (xs : List Int) : Option Ou := (readS s).bind fun t => (bindO (sfree t) xs).map fun en => ev 1501 t 0 en st0
theorem with_nil (s : Text) : withO s [] = runO s := by
  unfold withO runO closedS
  rcases readS s with _ | t
  · rfl
  · simp only [Option.bind_some]
    by_cases h : sfree t = []
    · simp [bindO, h, inR, envAt]
    · have h2 : ¬ (0 = (sfree t).length) := fun e => h (List.eq_nil_of_length_eq_zero e.symm)
      simp [bindO, h, h2]
end Go.Proofs.YtjfhncfbejephaaGreatDoor
