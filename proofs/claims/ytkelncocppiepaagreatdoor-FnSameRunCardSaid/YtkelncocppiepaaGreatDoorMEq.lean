import Derived.Test.YtkelncocppiepaaGreatDoorMVg
/- The specification's RunTerm, l3Done, CountTerm. -/
namespace Go.Proofs.YtkelncocppiepaaGreatDoor
open Go.RowKit Go.Shelf
open Ff
set_option linter.unusedVariables false
attribute [local irreducible] Calls

def runO (s : Text) : Option Ou := (closedS s).map fun t => ev 1501 t 0 .nil st0
def resP (o : Option Ou) : Value := match o with | some o => .tuple #[resO o, .bool true] | none => .tuple #[rV 0 false 0, .bool false]
theorem resO_form (o : Ou) : ∃ a b c, resO o = rV a b c := by cases o <;> exact ⟨_, _, _, rfl⟩
theorem three_alloc {w W : World} {b : Nat} {z0 z1 z2 : Value} {t : TypeId} (h : w.heap[b]? = some (.cells #[z0, z1, z2] t (0, 0))) (hb : Below w.heap.size w W) : W.cell? ⟨b, 0, none⟩ = some z0 ∧ W.cell? ⟨b, 1, none⟩ = some z1 ∧ W.cell? ⟨b, 2, none⟩ = some z2 ∧ W.frozen? ⟨b, 0, none⟩ = false ∧ W.frozen? ⟨b, 1, none⟩ = false ∧ W.frozen? ⟨b, 2, none⟩ = false :=
  three_of ((hb.block b (Array.getElem?_eq_some_iff.1 h).1).trans h)
theorem below_three {B b : Nat} {w W : World} (h : Below B w W) (hb : B ≤ b) (u0 u1 u2 : Value) : Below B w (((W.setCell ⟨b, 0, none⟩ u0).setCell ⟨b, 1, none⟩ u1).setCell ⟨b, 2, none⟩ u2) :=
  ((h.setCell (p := ⟨b, 0, none⟩) hb _).setCell (p := ⟨b, 1, none⟩) hb _).setCell (p := ⟨b, 2, none⟩) hb _
set_option maxRecDepth 100000 in
set_option maxHeartbeats 4000000 in
theorem sRunTerm_c (hev : SEvC 1501) (s : Text) (w : World) (hl : s.length ≤ 9223372036854775807) :
    Calls Tryz.prog 12 #[.string ⟨s.toArray⟩] w fun e w' => e = .returned (resP (runO s)) ∧ Below w.heap.size w w' := by
  have hb0 := (Below.refl _ w).alloc (Nat.le_refl _) (.cells #[.int .i64 0, .bool false, .int .i64 0] 27)
  have hz0 := alloc_at w (.cells #[.int .i64 0, .bool false, .int .i64 0] 27)
  have hs0 : (w.alloc (.cells #[.int .i64 0, .bool false, .int .i64 0] 27)).heap.size = w.heap.size + 1 := by simp
  go_enter Tryz.func12, Tryz.ntmps12
  go_wp2_with fail
  generalize w.alloc (.cells #[.int .i64 0, .bool false, .int .i64 0] 27) = W at hb0 hz0 hs0 ⊢
  refine (sclosed_c s W hl).mono ?_
  rcases hr : closedS s with _ | t
  · rintro e w1 ⟨hb1, v, ⟨k, n, st, aa, l, cc, rfl⟩, rfl, -⟩
    have hc : resP (runO s) = .tuple #[rV 0 false 0, .bool false] := by unfold runO; rw [hr]; rfl
    have HC := Lib.hid hc
    clear hr hc
    have hb2 := hb1.alloc hb1.size (.cells #[.int .u8 k, .int .i64 n, .string st, .slice aa l cc] 42)
    obtain ⟨t0, t1, t2, f0, f1, f2⟩ := three_alloc hz0 hb2
    go_wp2_with fail
    obtain ⟨j0, j1, j2⟩ := set_three (u0 := .int .i64 0) (u1 := .bool false) (u2 := .int .i64 0) t0 t1 t2
    refine bodyPost_ret (v := .tuple #[rV 0 false 0, .bool false]) (by simp [results, Tryz.results12, go_sem, j0, j1, j2]) rfl ?_
    exact ⟨by rw [HC.out], below_three (hb0.trans (hb2.mono (by omega))) (Nat.le_refl _) _ _ _⟩
  · rintro e w1 ⟨hb1, v, ⟨k, n, st, aa, l, cc, rfl⟩, rfl, hrep⟩
    have hrep := hrep t rfl
    have hok := closed_ok hr
    obtain ⟨o, ho⟩ : ∃ o, ev 1501 t 0 .nil st0 = o := ⟨_, rfl⟩
    have hc : resP (runO s) = .tuple #[resO o, .bool true] := by unfold runO; rw [hr, ← ho]; rfl
    have HC := Lib.hid hc
    have hs1 := hb1.size
    have hb2 := hb1.alloc hb1.size (.cells #[.int .u8 k, .int .i64 n, .string st, .slice aa l cc] 42)
    have hx2 := alloc_at w1 (.cells #[.int .u8 k, .int .i64 n, .string st, .slice aa l cc] 42)
    have hr2 := hrep.keep (w' := w1.alloc (.cells #[.int .u8 k, .int .i64 n, .string st, .slice aa l cc] 42)) (S' := fun g => g < w1.heap.size) (fun g hg => Below.heap_alloc _ _ _ hg.2) (fun g hg => hg.2)
    have hs2 : (w1.alloc (.cells #[.int .u8 k, .int .i64 n, .string st, .slice aa l cc] 42)).heap.size = w1.heap.size + 1 := by simp
    have hb3 := (Below.refl (w1.alloc (.cells #[.int .u8 k, .int .i64 n, .string st, .slice aa l cc] 42)).heap.size (w1.alloc (.cells #[.int .u8 k, .int .i64 n, .string st, .slice aa l cc] 42))).alloc (Nat.le_refl _) (.cells #[] 160)
    have C := sterm3_c hev t .nil (fun g => g < w1.heap.size) _ (.slice (some ⟨w1.heap.size + 1, 0, none⟩) 0 0) ((w1.alloc (.cells #[.int .u8 k, .int .i64 n, .string st, .slice aa l cc] 42)).alloc (.cells #[] 160)) (hr2.keep (fun g hg => hb3.block g (by simp only [hs2]; omega)) (fun g hg => hg)) (fun g hg => by simp; omega) (.nil _ _) hok
    rw [ho] at C
    obtain ⟨a0, a1, a2, hres⟩ := resO_form o
    have hbw : Below w.heap.size w ((w1.alloc (.cells #[.int .u8 k, .int .i64 n, .string st, .slice aa l cc] 42)).alloc (.cells #[] 160)) := (hb0.trans (hb2.mono (by omega))).trans (hb3.mono (by omega))
    have hb13 : Below W.heap.size W ((w1.alloc (.cells #[.int .u8 k, .int .i64 n, .string st, .slice aa l cc] 42)).alloc (.cells #[] 160)) := hb2.trans (hb3.mono (by omega))
    clear hr hc hrep hr2 ho
    go_wp2_with fail
    generalize (w1.alloc (.cells #[.int .u8 k, .int .i64 n, .string st, .slice aa l cc] 42)).alloc (.cells #[] 160) = w3 at C hbw hb13 ⊢
    refine C.mono ?_
    clear C
    rintro e w4 ⟨hb4, rb, rfl, -, -⟩
    have HRS := Lib.hid hres
    rw [hres] at HC ⊢
    have hbw4 : Below w.heap.size w w4 := hbw.trans (hb4.mono hbw.size)
    have hb14 : Below W.heap.size W w4 := hb13.trans (hb4.mono hb13.size)
    have hb5 := hb14.alloc hb14.size (.cells #[.int .i64 a0, .bool a1, .int .i64 a2] 27)
    obtain ⟨t0, t1, t2, f0, f1, f2⟩ := three_alloc hz0 hb5
    obtain ⟨j0, j1, j2⟩ := set_three (u0 := .int .i64 a0) (u1 := .bool a1) (u2 := .int .i64 a2) t0 t1 t2
    clear hres
    go_wp2_with fail
    refine bodyPost_ret (v := .tuple #[rV a0 a1 a2, .bool true]) (by simp [results, Tryz.results12, go_sem, j0, j1, j2]) rfl ?_
    exact ⟨by rw [HC.out], below_three (hbw4.alloc hbw4.size _) (Nat.le_refl _) _ _ _⟩
def okSt : Ou → Option St
  | .ok _ s2 => some s2
  | _ => none
/-- What a closed term's run has done that ends well. -/
def SDoneP (w : World) (o : Option St) (e : Ending) (w' : World) : Prop := match o with
  | none => ∃ p, e = .returned (.tuple #[.pointer p, .bool false])
  | some s2 => ∃ rb cv av, e = .returned (.tuple #[ptr rb, .bool true]) ∧ w.heap.size ≤ rb ∧ RunS NoX rb cv av w' s2 0
/-- What a run counts. -/
abbrev cntV (s : St) : Value := .agg #[.int .i64 (s.steps : Int), .int .i64 (s.calls : Int), .int .i64 (s.clos : Int), .int .i64 (s.capt : Int), .int .i64 (s.deepest : Int)]
def cntP (o : Option St) : Value := match o with | some s => .tuple #[cntV s, .bool true] | none => .tuple #[.agg #[.int .i64 0, .int .i64 0, .int .i64 0, .int .i64 0, .int .i64 0], .bool false]
theorem fiveC_of {w : World} {b : Nat} {z0 z1 z2 z3 z4 : Value} {t : TypeId} (h : w.heap[b]? = some (.cells #[z0, z1, z2, z3, z4] t (0, 0))) : w.cell? ⟨b, 0, none⟩ = some z0 ∧ w.cell? ⟨b, 1, none⟩ = some z1 ∧ w.cell? ⟨b, 2, none⟩ = some z2 ∧ w.cell? ⟨b, 3, none⟩ = some z3 ∧ w.cell? ⟨b, 4, none⟩ = some z4 ∧ ∀ k, w.frozen? ⟨b, k, none⟩ = false := by
  refine ⟨?_, ?_, ?_, ?_, ?_, fun k => ?_⟩ <;> simp [World.cell?, World.frozen?, h]
abbrev set5 (w : World) (b : Nat) (u0 u1 u2 u3 u4 : Value) : World := ((((w.setCell ⟨b, 0, none⟩ u0).setCell ⟨b, 1, none⟩ u1).setCell ⟨b, 2, none⟩ u2).setCell ⟨b, 3, none⟩ u3).setCell ⟨b, 4, none⟩ u4
theorem set_five {w : World} {B : Nat} {z0 z1 z2 z3 z4 : Value} {t : TypeId} (h : w.heap[B]? = some (.cells #[z0, z1, z2, z3, z4] t (0, 0))) (u0 u1 u2 u3 u4 : Value) :
    (set5 w B u0 u1 u2 u3 u4).cell? ⟨B, 0, none⟩ = some u0 ∧ (set5 w B u0 u1 u2 u3 u4).cell? ⟨B, 1, none⟩ = some u1 ∧ (set5 w B u0 u1 u2 u3 u4).cell? ⟨B, 2, none⟩ = some u2 ∧ (set5 w B u0 u1 u2 u3 u4).cell? ⟨B, 3, none⟩ = some u3 ∧ (set5 w B u0 u1 u2 u3 u4).cell? ⟨B, 4, none⟩ = some u4 := by
  obtain ⟨h0, h1, h2, h3, h4, _⟩ := fiveC_of h
  refine ⟨?_, ?_, ?_, ?_, ?_⟩ <;> simp [go_sem, h0, h1, h2, h3, h4]
theorem below_five {B b : Nat} {w W : World} (h : Below B w W) (hb : B ≤ b) (u0 u1 u2 u3 u4 : Value) : Below B w (set5 W b u0 u1 u2 u3 u4) :=
  ((((h.setCell (p := ⟨b, 0, none⟩) hb _).setCell (p := ⟨b, 1, none⟩) hb _).setCell (p := ⟨b, 2, none⟩) hb _).setCell (p := ⟨b, 3, none⟩) hb _).setCell (p := ⟨b, 4, none⟩) hb _
end Go.Proofs.YtkelncocppiepaaGreatDoor

/- The program's RunWith, RunTerm, CountTerm. -/
namespace Go.Proofs.YtkelncocppiepaaGreatDoor
open Go.RowKit Go.Shelf
open Ff
set_option linter.unusedVariables false
attribute [local irreducible] Calls

/-- Names and numbers. -/
def envAt (T : Text) (xs : List Int) : Nat → En
  | 0 => .nil
  | k + 1 => .cons (T.getD k 0) (.num (xs.getD k 0).toNat) (envAt T xs k)
def int64s (xs : List Int) : List Value := xs.map fun n => Value.int .i64 n
def inR (xs : List Int) : Prop := ∀ x ∈ xs, 0 ≤ x ∧ x ≤ 99
instance (xs : List Int) : Decidable (inR xs) := inferInstanceAs (Decidable (∀ x ∈ xs, 0 ≤ x ∧ x ≤ 99))
/-- What names and numbers come to. -/
def bindO (T : Text) (xs : List Int) : Option En := if xs.length = T.length ∧ inR xs then some (envAt T xs xs.length) else none
def BindP (w : World) (o : Option En) (e : Ending) (w' : World) : Prop := match o with
  | none => e = .returned (.tuple #[.pointer none, .bool false])
  | some en => ∃ q, e = .returned (.tuple #[.pointer q, .bool true]) ∧ ∀ r, RepE r (fun g => w.heap.size ≤ g ∧ g < w'.heap.size) w' en (.pointer q)
theorem row_cells {w : World} {base : Nat} {v : Value} {xs : List Int} (h : w.ownsRow base 3 1 v xs.length (int64s xs)) : ∃ a cap, v = .slice a xs.length cap ∧ (0 < xs.length → ∃ g, a = some ⟨g, 0, none⟩ ∧ g < w.heap.size ∧ ∀ k x, xs[k]? = some x → w.cell? ⟨g, k, none⟩ = some (.int .i64 x)) := by
  have h0 := h
  obtain ⟨_, ⟨h1, h2⟩ | ⟨g, cap, cur, rfl, hb, hh, hr⟩⟩ := h
  · refine ⟨none, 0, ?_, fun hp => ?_⟩
    · rw [h1]; simp_all
    · simp_all
  · refine ⟨_, cap, rfl, fun hp => ⟨g, rfl, (Array.getElem?_eq_some_iff.1 hh).1, fun k x hx => ?_⟩⟩
    have hlt := (List.getElem?_eq_some_iff.1 hx).1
    have hc := h0.cellAt k (by omega)
    rw [hc]
    simp [int64s, hx]
theorem byteAt (T : Text) (k : Nat) (c : UInt8) (hc : T[k]? = some c) (h : k < (⟨T.toArray⟩ : ByteArray).size) : ((⟨T.toArray⟩ : ByteArray)[k]'h) = c := by
  obtain ⟨h1, h2⟩ := List.getElem?_eq_some_iff.1 hc
  exact h2
set_option maxRecDepth 100000 in
set_option maxHeartbeats 4000000 in
theorem ibind_c (T : Text) (xs : List Int) (v : Value) (base : Nat) (w : World) (hT : T.length ≤ 16) (hx : xs.length ≤ 1048576) (hrow : w.ownsRow base 3 1 v xs.length (int64s xs)) :
    Calls Tryz.prog 23 #[.string ⟨T.toArray⟩, v] w fun e w' => BindP w (bindO T xs) e w' ∧ Below w.heap.size w w' := by
  obtain ⟨a, cap, rfl, hA⟩ := row_cells hrow
  have HA := Lib.hid hA
  clear hrow hA
  obtain ⟨n, hn⟩ : ∃ n, xs.length = n := ⟨_, rfl⟩
  by_cases hlen : xs.length = T.length
  · have hTn : T.length = n := by omega
    rw [hn] at hx HA ⊢
    have HN := Lib.hid hn
    have HL := Lib.hid hlen
    clear hn hlen
    go_enter Tryz.func23, Tryz.ntmps23
    go_wp2_with fail
    go_loopw [6, 16] (fun p ix wr => ∃ (k : Nat) (q : Option Addr), k ≤ n ∧ ix = .int .i64 k ∧ p = .pointer q ∧ Below w.heap.size w wr ∧ (∀ r, RepE r (fun g => w.heap.size ≤ g ∧ g < wr.heap.size) wr (envAt T xs k) (.pointer q)) ∧ inR (xs.take k)) (fun _ ix _ => n - (intOf ix).toNat)
    case atStart => exact ⟨0, none, Nat.zero_le _, rfl, rfl, Below.refl _ _, fun r => .nil, by simp [inR]⟩
    case round =>
      obtain ⟨k, q, hk, rfl, rfl, hb, hE, hin⟩ := hrel
      have hbs := hb.size
      by_cases hlt : k < n
      · obtain ⟨g, rfl, hg, hc⟩ := HA.out (by omega)
        obtain ⟨x, hx1⟩ : ∃ x, xs[k]? = some x := ⟨_, List.getElem?_eq_getElem (by have := HN.out; omega)⟩
        obtain ⟨c, hc1⟩ : ∃ c, T[k]? = some c := ⟨_, List.getElem?_eq_getElem (by omega)⟩
        have cx := (hb.cell (p := ⟨g, k, none⟩) hg).trans (hc k x hx1)
        have HX := Lib.hid hx1
        have HC := Lib.hid hc1
        have HE := Lib.hid hE
        have HI := Lib.hid hin
        have hkT : k < T.length := by omega
        clear hx1 hc1 hE hin hc
        by_cases h0 : x < 0
        · go_wp2_with fail
          go_ret2
          rw [show bindO T xs = none from if_neg fun h => by have := h.2 x (List.mem_of_getElem? HX.out); omega]
          exact ⟨rfl, hb⟩
        · by_cases h9 : 99 < x
          · go_wp2_with fail
            go_ret2
            rw [show bindO T xs = none from if_neg fun h => by have := h.2 x (List.mem_of_getElem? HX.out); omega]
            exact ⟨rfl, hb⟩
          · obtain ⟨m, rfl⟩ : ∃ m : Nat, x = m := ⟨x.toNat, by omega⟩
            go_wp2_with fail
            rw [byteAt T k c HC.out]
            refine (with_c (.pointer q) c (.int .i64 (m : Int)) .nilIface ⟨_, rfl⟩ ⟨none, rfl⟩ ⟨_, rfl⟩ wr).mono ?_
            rintro e w2 ⟨b, rfl, hb1, hb2, hb3, d0, d1, d2, d3⟩
            go_wp2_with fail
            have e1 : T.getD k 0 = c := by simp [List.getD, HC.out]
            have e2 : (xs.getD k 0).toNat = m := by simp [List.getD, HX.out]
            refine ⟨⟨k + 1, some ⟨b, 0, none⟩, by omega, by go_num, rfl, hb.trans (hb3.mono hbs), fun r => ?_, ?_⟩, by simp [intOf]; omega⟩
            · show RepE r _ w2 (.cons (T.getD k 0) (.num (xs.getD k 0).toNat) (envAt T xs k)) (ptr b)
              rw [e1, e2]
              exact .cons c (.num m) _ b _ _ _ ⟨by omega, by omega⟩ d0 d1 d2 d3 (Nat.le_trans ((HE.out r).top (fun g hg => hg.2)) hb1) (.num m) ((HE.out r).keep (fun g hg => ⟨hb3.block g hg.2, hg.1, by have h2 := hg.2; have := hb3.size; omega⟩))
            · intro y hy
              rw [List.take_add_one, HX.out] at hy
              simp only [Option.toList_some, List.mem_append, List.mem_singleton] at hy
              rcases hy with hy | hy
              · exact HI.out y hy
              · subst hy; omega
      · obtain rfl : k = n := by omega
        have HI := Lib.hid hin
        have HE := Lib.hid hE
        clear hin hE
        go_wp2_with fail
        go_ret2
        rw [show bindO T xs = some (envAt T xs xs.length) from if_pos ⟨HL.out, by have h := HI.out; rw [← HN.out, List.take_length] at h; exact h⟩, HN.out]
        exact ⟨⟨q, rfl, HE.out⟩, hb⟩
  · have hli : ¬ (xs.length : Int) = (T.length : Int) := by omega
    go_enter Tryz.func23, Tryz.ntmps23
    go_wp2_with fail
    go_ret2
    rw [show bindO T xs = none from if_neg fun h => hlen h.1]
    exact ⟨rfl, Below.refl _ _⟩
theorem envAt_names (T : Text) (xs : List Int) : ∀ k, k ≤ T.length → (envAt T xs k).names.length = k ∧ ∀ i c, i < k → T[i]? = some c → c ∈ (envAt T xs k).names
  | 0, _ => ⟨rfl, fun i c h => by omega⟩
  | k + 1, hk => by
    obtain ⟨h1, h2⟩ := envAt_names T xs k (by omega)
    refine ⟨by simp [envAt, En.names, h1], fun i c hi hc => ?_⟩
    simp only [envAt, En.names, List.mem_cons]
    by_cases e : i = k
    · subst e; exact .inl (by simp [List.getD, hc])
    · exact .inr (h2 i c (by omega) hc)
theorem envAt_ok (T : Text) (xs : List Int) (h : inR xs) : ∀ k, k ≤ xs.length → EnOk (envAt T xs k)
  | 0, _ => .nil
  | k + 1, hk => by
    refine .cons _ _ _ (.num _ ?_) (envAt_ok T xs h k (by omega))
    have := h (xs[k]'(by omega)) (List.getElem_mem _)
    simp only [List.getD, List.getElem?_eq_getElem (show k < xs.length by omega), Option.getD_some]
    omega
theorem bind_ok {T : Text} {xs : List Int} {en : En} (h : bindO T xs = some en) : xs.length = T.length ∧ inR xs ∧ en = envAt T xs xs.length ∧ EnOk en ∧ (∀ c ∈ T, c ∈ en.names) ∧ en.names.length = T.length := by
  unfold bindO at h
  split at h
  · rename_i hc
    injection h with h
    subst h
    obtain ⟨h1, h2⟩ := hc
    obtain ⟨h3, h4⟩ := envAt_names T xs xs.length (by omega)
    refine ⟨h1, h2, rfl, envAt_ok T xs h2 _ (Nat.le_refl _), fun c hc => ?_, by omega⟩
    obtain ⟨i, hi, rfl⟩ := List.getElem_of_mem hc
    exact h4 i _ (by omega) (List.getElem?_eq_getElem hi)
  · cases h
def withO (s : Text) (xs : List Int) : Option Ou := (readS s).bind fun t => (bindO (sfree t) xs).map fun en => ev 1501 t 0 en st0
theorem with_nil (s : Text) : withO s [] = runO s := by
  unfold withO runO closedS
  rcases readS s with _ | t
  · rfl
  · simp only [Option.bind_some]
    by_cases h : sfree t = []
    · simp [bindO, h, inR, envAt]
    · have h2 : ¬ (0 = (sfree t).length) := fun e => h (List.eq_nil_of_length_eq_zero e.symm)
      simp [bindO, h, h2]
set_option maxRecDepth 100000 in
set_option maxHeartbeats 4000000 in
theorem iRunWith_c (s : Text) (xs : List Int) (v : Value) (base : Nat) (w : World) (hl : s.length ≤ 9223372036854775807) (hx : xs.length ≤ 1048576) (hrow : w.ownsRow base 3 1 v xs.length (int64s xs)) (hg : ErrT w) :
    Calls Tryz.prog 13 #[.string ⟨s.toArray⟩, v] w fun e w' => e = .returned (resP (withO s xs)) ∧ Below w.heap.size w w' := by
  have hb0 := (Below.refl _ w).alloc (Nat.le_refl _) (.cells #[.int .i64 0, .bool false, .int .i64 0] 27)
  have hz0 := alloc_at w (.cells #[.int .i64 0, .bool false, .int .i64 0] 27)
  have hs0 : (w.alloc (.cells #[.int .i64 0, .bool false, .int .i64 0] 27)).heap.size = w.heap.size + 1 := by simp
  have hpos := hg.pos
  have hro : ∀ j, v.ownBlock = some j → j < w.heap.size := fun j hj => (hrow.lt j hj).2
  obtain ⟨a, cap, rfl, -⟩ := row_cells hrow
  have HR := Lib.hid hrow
  clear hrow
  go_enter Tryz.func13, Tryz.ntmps13
  go_wp2_with fail
  generalize w.alloc (.cells #[.int .i64 0, .bool false, .int .i64 0] 27) = W at hb0 hz0 hs0 ⊢
  refine (read_c s W hl).mono ?_
  rcases hr : readT s with _ | t
  · rintro e w1 ⟨rfl, hb1⟩
    have hc : withO s xs = none := by unfold withO; rw [readS_eq, hr]; rfl
    have HC := Lib.hid hc
    clear hr hc
    obtain ⟨t0, t1, t2, f0, f1, f2⟩ := three_alloc hz0 hb1
    go_wp2_with fail
    obtain ⟨j0, j1, j2⟩ := set_three (u0 := .int .i64 0) (u1 := .bool false) (u2 := .int .i64 0) t0 t1 t2
    refine bodyPost_ret (v := .tuple #[rV 0 false 0, .bool false]) (by simp [results, Tryz.results13, go_sem, j0, j1, j2]) rfl ?_
    exact ⟨by rw [HC.out]; rfl, below_three (hb0.trans (hb1.mono (by omega))) (Nat.le_refl _) _ _ _⟩
  · rintro e w1 ⟨rfl, hb1⟩
    have hs := readS_eq s ▸ hr
    have D := freeIn_c 4000 t w1 (by have := readS_depth hs; omega) (by omega) (by have := readS_parts hs; omega) (readS_good hs)
    have hf := free_names (readS_good hs)
    have hlf := sfree_len t
    have hs1 := hb1.size
    have hc : withO s xs = (bindO (sfree t) xs).map fun en => ev 1501 t 0 en st0 := by unfold withO; rw [hs]; rfl
    have hdp := readS_depth24 hs
    have HS := Lib.hid hs
    have HC := Lib.hid hc
    have HF := Lib.hid hf
    have hbw : Below w.heap.size w w1 := hb0.trans (hb1.mono (by omega))
    rw [enc_ty t] at D ⊢
    clear hr hs hf hc
    go_wp2_with fail
    refine D.mono ?_
    clear D
    rintro e w2 ⟨b, k, rfl, hbk, hk, hT, hb2⟩
    have D2 := inOrder_c b k (cntF t) w2 hT
    rw [← HF.out] at D2
    go_wp2_with fail
    refine D2.mono ?_
    clear D2
    rintro e w3 ⟨rfl, hb3⟩
    have hb23 : Below w1.heap.size w1 w3 := hb2.trans (hb3.mono hb2.size)
    have hbw3 : Below w.heap.size w w3 := hbw.trans (hb23.mono hbw.size)
    have B := ibind_c (sfree t) xs _ base w3 hlf hx (World.ownsRow.kept (row := none) HR.out (grown_none hbw3) (by rcases ho : (Value.slice a xs.length cap).ownBlock with _ | j; exact .inl rfl; exact .inr (by simp)))
    have hb13 : Below W.heap.size W w3 := hb1.trans (hb23.mono hs1)
    go_wp2_with fail
    refine B.mono ?_
    clear B
    rcases ho : bindO (sfree t) xs with _ | en
    · rintro e w4 ⟨rfl, hb4⟩
      have hbw4 : Below w.heap.size w w4 := hbw3.trans (hb4.mono hbw3.size)
      obtain ⟨t0, t1, t2, f0, f1, f2⟩ := three_alloc hz0 (hb13.trans (hb4.mono hb13.size))
      have HO := Lib.hid ho
      clear ho
      go_wp2_with fail
      obtain ⟨j0, j1, j2⟩ := set_three (u0 := .int .i64 0) (u1 := .bool false) (u2 := .int .i64 0) t0 t1 t2
      refine bodyPost_ret (v := .tuple #[rV 0 false 0, .bool false]) (by simp [results, Tryz.results13, go_sem, j0, j1, j2]) rfl ?_
      exact ⟨by rw [HC.out, HO.out]; rfl, below_three hbw4 (Nat.le_refl _) _ _ _⟩
    · rintro e w4 ⟨⟨q, rfl, hE⟩, hb4⟩
      have hbw4 : Below w.heap.size w w4 := hbw3.trans (hb4.mono hbw3.size)
      obtain ⟨-, -, -, o1, o2, o3⟩ := bind_ok ho
      have hok := tmok_of HS.out en o1 o2 (by omega)
      have hb5 := newR_below w4
      have hw4 := hbw4.size
      have hs5 := newR_size w4
      have hg5 : ErrT (newR w4) := (hb5.cell (p := ⟨0, 0, none⟩) (by show 0 < w4.heap.size; omega)).trans ((hbw4.cell (p := ⟨0, 0, none⟩) hpos).trans hg)
      have R := run_c 1501 t en st0 w4.heap.size rw0 (.pointer q) (newR w4) (by simp [st0]) st0_ok hok (run_new w4) ((hE w4.heap.size).keep (fun g hg => ⟨hb5.block g hg.2, by have := hg.2; omega, by have := hg.2; omega, rw0_own _, fun h => h⟩)) hg5 ⟨by omega, by omega, rw0_own _, fun h => h⟩ (by omega)
      have NR := newRunner_c w4
      generalize newR w4 = W5 at R NR hb5 hs5 hg5
      obtain ⟨o, hO⟩ : ∃ o, ev 1501 t 0 en st0 = o := ⟨_, rfl⟩
      rw [hO] at R
      have hfin : resP (withO s xs) = .tuple #[resO o, .bool true] := by rw [HC.out, ho, ← hO]; rfl
      have HFN := Lib.hid hfin
      obtain ⟨a0, a1, a2, hres⟩ := resO_form o
      rw [enc_ty t] at R
      clear ho hO hfin hE
      go_wp2_with fail
      refine NR.mono ?_
      clear NR
      rintro e w5 ⟨rfl, rfl⟩
      go_wp2_with fail
      refine R.mono ?_
      clear R
      rintro e w6 ⟨rfl, cv, s4, hR4, hK4, h4⟩
      rw [hres] at HFN ⊢
      have hbw6 := kep_below (hbw4.trans (hb5.mono hw4)) (Nat.le_refl _) hw4 hK4
      have hbW6 := kep_below (r := w4.heap.size) ((hb13.trans (hb4.mono hb13.size)).trans (hb5.mono (by have := hb13.size; have := hb4.size; omega))) (Nat.le_refl _) (by have := hb13.size; have := hb4.size; omega) hK4
      obtain ⟨t0, t1, t2, f0, f1, f2⟩ := three_alloc hz0 hbW6
      clear hres
      go_wp2_with fail
      obtain ⟨j0, j1, j2⟩ := set_three (u0 := .int .i64 a0) (u1 := .bool a1) (u2 := .int .i64 a2) t0 t1 t2
      refine bodyPost_ret (v := .tuple #[rV a0 a1 a2, .bool true]) (by simp [results, Tryz.results13, go_sem, j0, j1, j2]) rfl ?_
      exact ⟨by rw [HFN.out], below_three hbw6 (Nat.le_refl _) _ _ _⟩
set_option maxRecDepth 100000 in
set_option maxHeartbeats 1000000 in
theorem iRunTerm_c (s : Text) (w : World) (hl : s.length ≤ 9223372036854775807) (hg : ErrT w) :
    Calls Tryz.prog 7 #[.string ⟨s.toArray⟩] w fun e w' => e = .returned (resP (runO s)) ∧ Below w.heap.size w w' := by
  have hb0 := (Below.refl _ w).alloc (Nat.le_refl _) (.cells #[.int .i64 0, .bool false, .int .i64 0] 27)
  have hz0 := alloc_at w (.cells #[.int .i64 0, .bool false, .int .i64 0] 27)
  have hg0 : ErrT (w.alloc (.cells #[.int .i64 0, .bool false, .int .i64 0] 27)) := (hb0.cell (p := ⟨0, 0, none⟩) hg.pos).trans hg
  have C := iRunWith_c s [] (.slice none 0 0) 0 (w.alloc (.cells #[.int .i64 0, .bool false, .int .i64 0] 27)) hl (by simp) (World.ownsRow_nil _ _ _ _) hg0
  rw [with_nil] at C
  obtain ⟨a0, a1, a2, b, hres⟩ : ∃ a0 a1 a2 b, resP (runO s) = .tuple #[rV a0 a1 a2, .bool b] := by
    rcases runO s with _ | o
    · exact ⟨_, _, _, _, rfl⟩
    · obtain ⟨a0, a1, a2, h⟩ := resO_form o
      exact ⟨a0, a1, a2, true, by show Value.tuple #[resO o, .bool true] = _; rw [h]⟩
  rw [hres] at C ⊢
  clear hres
  go_enter Tryz.func7, Tryz.ntmps7
  go_wp2_with fail
  generalize w.alloc (.cells #[.int .i64 0, .bool false, .int .i64 0] 27) = W at C hb0 hz0 ⊢
  refine C.mono ?_
  clear C
  rintro e w1 ⟨rfl, hb1⟩
  obtain ⟨t0, t1, t2, f0, f1, f2⟩ := three_alloc hz0 hb1
  go_wp2_with fail
  obtain ⟨j0, j1, j2⟩ := set_three (u0 := .int .i64 a0) (u1 := .bool a1) (u2 := .int .i64 a2) t0 t1 t2
  refine bodyPost_ret (v := .tuple #[rV a0 a1 a2, .bool b]) (by simp [results, Tryz.results7, go_sem, j0, j1, j2]) rfl ?_
  exact ⟨rfl, below_three (hb0.trans (hb1.mono hb0.size)) (Nat.le_refl _) _ _ _⟩
end Go.Proofs.YtkelncocppiepaaGreatDoor
