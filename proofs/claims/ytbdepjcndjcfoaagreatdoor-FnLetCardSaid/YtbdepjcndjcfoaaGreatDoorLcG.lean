import Derived.Test.YtbdepjcndjcfoaaGreatDoorLcA
import Derived.Maps.AppendAt
/- Draws of RunWith; FnLet. -/
namespace Go.Proofs.YtbdepjcndjcfoaaGreatDoor
open Go.RowKit Go.Shelf
open Ff
set_option linter.unusedVariables false
attribute [local irreducible] Calls
theorem row_at (w : World) (vs : List Value) (t : TypeId) (j : Nat) : (w.alloc (.cells vs.toArray t)).cell? ⟨w.heap.size, j, none⟩ = vs[j]? := by
  show (match (w.heap.push _)[w.heap.size]? with | some (.cells c _ _) => if (none : Option Nat).isSome then none else c[j]? | _ => none) = _
  simp

set_option maxHeartbeats 1000000 in
theorem num_w {b : Nat} {a : Option Addr} {l c p : Nat} {w0 w : World} (h : DG b a l c w0 p w) (vs : List Int) (t : TypeId) (hp : p ≤ 1000000) (hn : 1 ≤ vs.length) (hn2 : vs.length ≤ 1000000) :
    Calls Tryz.prog 23 #[.pointer (some ⟨b, 0, none⟩), .slice (some ⟨w.heap.size, 0, none⟩) vs.length vs.length] (w.alloc (.cells (vs.map (Value.int .i64)).toArray t)) fun e w' => ∃ s : Int, s ∈ vs ∧ e = .returned (.int .i64 s) ∧ DG b a l c w0 (p + 1) w' := by
  have hr : ∀ j v, vs[j]? = some v → (w.alloc (.cells (vs.map (Value.int .i64)).toArray t)).cell? ⟨w.heap.size, j, none⟩ = some (.int .i64 v) := fun j v hj => by rw [row_at, List.getElem?_map, hj]; rfl
  have hA : DG b a l c w0 p (w.alloc (.cells (vs.map (Value.int .i64)).toArray t)) := h.out ((Below.refl _ _).alloc (Nat.le_refl _) _)
  have hb := h.dr.lt
  generalize w.alloc (.cells (vs.map (Value.int .i64)).toArray t) = W at hr hA ⊢
  generalize w.heap.size = g at hr hb ⊢
  have C := pick_i hA.dr vs.length hp (by omega) (by omega)
  have HR := Lib.hid hr
  clear hr
  go_enter Tryz.func23, Tryz.ntmps23
  go_wp2_with fail
  refine C.mono ?_
  rintro e w1 ⟨k, rfl, hk, hD, hg⟩
  obtain ⟨s, hs⟩ : ∃ s, vs[k]? = some s := ⟨_, List.getElem?_eq_getElem (by omega)⟩
  have hc : w1.cell? ⟨g, k, none⟩ = some (.int .i64 s) := (hg.cell (HR.out k s hs) (by simp; omega))
  have HS := Lib.hid (List.mem_of_getElem? hs)
  have HD := Lib.hid hD
  have HA := Lib.hid hA
  clear hs hD hA
  go_wp2_with fail
  go_ret
  exact ⟨s, HS.out, rfl, HD.out, grownBy_trans HA.out.gr hg⟩

theorem num_i {b : Nat} {a : Option Addr} {l c p : Nat} {w : World} (h : Dr b a l c p w) (vs : List Int) (t : TypeId) (hp : p ≤ 1000000) (hn : 1 ≤ vs.length) (hn2 : vs.length ≤ 1000000) :
    Calls Tryz.prog 23 #[.pointer (some ⟨b, 0, none⟩), .slice (some ⟨w.heap.size, 0, none⟩) vs.length vs.length] (w.alloc (.cells (vs.map (Value.int .i64)).toArray t)) fun e w' => ∃ s : Int, s ∈ vs ∧ e = .returned (.int .i64 s) ∧ Dr b a l c (p + 1) w' ∧ w.grownBy w' (some b) :=
  (num_w (w0 := w) ⟨h, World.grownBy.refl _ _⟩ vs t hp hn hn2).mono fun e w' ⟨s, h1, h2, h3⟩ => ⟨s, h1, h2, h3.dr, h3.gr⟩
theorem Dr.above {b : Nat} {a : Option Addr} {l c p : Nat} {w w' : World} (h : Dr b a l c p w) (hb : Below (b + 1) w w') : Dr b a l c p w' := by
  refine ⟨(hb.cell (p := ⟨b, 0, none⟩) (Nat.lt_succ_self b)).trans h.c0, (hb.cell (p := ⟨b, 1, none⟩) (Nat.lt_succ_self b)).trans h.c1, (hb.frozen (p := ⟨b, 1, none⟩) (Nat.lt_succ_self b)).trans h.f1, ?_, h.hl⟩
  rcases h.src with h0 | ⟨g, o, ha, hg, hz⟩
  · exact .inl h0
  · refine .inr ⟨g, o, ha, hg, fun i hi => ?_⟩
    obtain ⟨z, h1, h2⟩ := hz i hi
    exact ⟨z, h1, (hb.cell (p := ⟨g, o + i, none⟩) (by show g < _; omega)).trans h2⟩
theorem grown_above {w w' : World} {row : Option Nat} {n : Nat} (hg : w.grownBy w' row) (hr : ∀ j, row = some j → n ≤ j) (hn : n ≤ w.heap.size) : Below n w w' :=
  ⟨hg.os, hg.tape, hg.output, hg.size, fun j hj => hg.block j (by omega) (fun e => by have := hr j e.symm; omega)⟩
theorem row_apart {w w' : World} {b n : Nat} {v : Value} {ys : List Value} (h : w.ownsRow (b + 1) 3 1 v n ys) (hg : w.grownBy w' (some b)) : w'.ownsRow (b + 1) 3 1 v n ys := by
  refine World.ownsRow.kept h hg ?_
  rcases ho : v.ownBlock with _ | j
  · exact .inl rfl
  · exact .inr (fun e => by injection e with e; have := (World.ownsRow.lt h j ho).1; omega)
theorem row_slice2 {w : World} {base : Nat} {v : Value} {n : Nat} {t : TypeId} {sz : Nat} {xs : List Value} (h : w.ownsRow base t sz v n xs) : ∃ a cap, v = .slice a n cap := by
  obtain ⟨_, ⟨h1, h2⟩ | ⟨g, cap, cur, rfl, _⟩⟩ := h
  · exact ⟨none, 0, by rw [h1]; simp_all⟩
  · exact ⟨_, _, rfl⟩
theorem row_first {w : World} {base n : Nat} {a : Option Addr} {cap : Nat} {ys : List Value} (h : w.ownsRow base 3 1 (.slice a n cap) n ys) (hn : 0 < n) : ∃ g y, a = some ⟨g, 0, none⟩ ∧ base ≤ g ∧ w.cell? ⟨g, 0, none⟩ = some y ∧ w.frozen? ⟨g, 0, none⟩ = false := by
  have hl : ys.length = n := by have := h.1; omega
  obtain ⟨y, hy⟩ : ∃ y, ys[0]? = some y := ⟨_, List.getElem?_eq_getElem (by omega)⟩
  have hc := fun g hg => h.cells (g := g) hg 0 y hy
  have hlt := fun g hg => h.lt g hg
  rcases h.2 with ⟨_, h2⟩ | ⟨g, cap', cur, hv, hb, hh, _⟩
  · omega
  · injection hv with hv1
    subst hv1
    have h1 := hc g rfl
    rw [Addr.add_lit, Nat.zero_add] at h1
    exact ⟨g, y, rfl, (hlt g rfl).1, h1, by simp [World.frozen?, hh]⟩
theorem Tryz.infoI3 : (Tryz.prog.info? 3).map (fun i => (i.zero, i.size, i.bytes)) = some (some (.int .i64 0), 1, 8) := by kernel_rfl
theorem txt_form (f : Tm → Text) (o : Option Tm) : ∃ (u : Text) (b : Bool), txtP f o = .tuple #[.string ⟨u.toArray⟩, .bool b] ∧ (u = [] ∨ ∃ t, u = f t) := by
  rcases o with _ | t
  · exact ⟨[], false, rfl, .inl rfl⟩
  · exact ⟨f t, true, rfl, .inr ⟨t, rfl⟩⟩
set_option maxRecDepth 100000 in
set_option maxHeartbeats 4000000 in
theorem drawRunWith_c (a : Option Addr) (l c : Nat) (w : World) (h : Src w a l c) :
    Calls Tryz.prog 10 #[.slice a l c] w fun e w' => ∃ (s : Text) (v : Value), e = .returned (.tuple #[.string ⟨s.toArray⟩, v]) ∧ s.length ≤ 5000 ∧ Below w.heap.size w w' := by
  obtain ⟨i0, hi, hz0, hz1, hz2⟩ := info_parts Tryz.infoI3
  go_enter Tryz.func10, Tryz.ntmps10
  go_wp2_with fail
  refine (open_c a l c w h).mono ?_; rintro e w1 ⟨l', rfl, hD⟩
  go_wp2_with fail
  refine (any_c _ _ _ _ _ _ _ hD (by omega)).mono ?_; rintro e w2 ⟨s, p', rfl, hs, hp, hD2⟩
  obtain ⟨u, ub, hu, hu2⟩ := txt_form sfree (readS s)
  have hul : u.length ≤ 16 := by rcases hu2 with rfl | ⟨t, rfl⟩; simp; exact sfree_len t
  clear hu2
  go_wp2_with fail
  refine (sFreeOf_c s w2 (by omega)).mono ?_; rw [hu]; rintro e w3 ⟨rfl, hb3⟩
  have hD3 := hD2.out hb3
  have hbl := hD3.dr.lt
  have ho := World.ownsRow_lit (base := w.heap.size + 1) (e := 3) (size := 1) w3 #[] 0 (by omega) (by simp [maxLen]) (by simp)
  have hb4 := (Below.refl w3.heap.size w3).alloc (Nat.le_refl _) (.cells #[] 3)
  have hD4 := hD3.out hb4
  have hB4 : Below w.heap.size w (w3.alloc (.cells #[] 3)) := hD4.below
  have hr4 := hD4.dr
  obtain ⟨n, hn⟩ : ∃ n, u.length = n := ⟨_, rfl⟩
  rw [hn] at hul
  have HN := Lib.hid hn
  clear hu hD hD2 hD3 hD4
  go_wp2_with fail
  generalize w3.alloc (.cells #[] 3) = W at ho hB4 hr4 ⊢
  go_loopw [8, 21] (fun v ix wr => ∃ (k p : Nat) (ys : List Value), k ≤ n ∧ ix = .int .i64 k ∧ p ≤ p' + 2 * k ∧ Dr w.heap.size a l' c p wr ∧ Below w.heap.size w wr ∧ wr.ownsRow (w.heap.size + 1) 3 1 v k ys) (fun _ ix _ => n - (intOf ix).toNat)
  case atStart => exact ⟨0, p', [], Nat.zero_le _, rfl, by omega, hr4, hB4, ho⟩
  case round =>
    obtain ⟨k, p, ys, hk, rfl, hpk, hr, hB, hO⟩ := hrel
    obtain ⟨ar, cr, rfl⟩ := row_slice2 hO
    have HO := Lib.hid hO
    clear ho hr4 hO
    by_cases hlt : k < n
    · go_wp2_with fail
      refine (pick_i hr _ (by omega) (by omega) (by omega)).mono ?_; rintro e w5 ⟨k5, rfl, hk5, hr5, g5⟩
      have O5 := row_apart HO.out g5
      have B5 := hB.grown g5 hB.size (fun j hj => by injection hj with hj; omega)
      have H5 := Lib.hid O5
      clear O5 HO
      go_wp2_with fail
      refine (num_i hr5 [(k5 : Int), 0, 1, 3, 99] _ (by omega) (by simp) (by simp)).mono ?_; rintro e w6 ⟨x, hx, rfl, hr6, g6⟩
      have O6 := row_apart H5.out g6
      have B6 := B5.grown g6 B5.size (fun j hj => by injection hj with hj; omega)
      have hl6 := hr6.lt
      have O7 := World.ownsRow.kept (row := none) O6 (World.grownBy_alloc w6 (.cells #[.int .i64 x] 3) none) (by rcases ho : (Value.slice ar k cr).ownBlock with _ | j; exact .inl rfl; exact .inr (by simp))
      have H7 := Lib.hid O7
      have B7 := B6.alloc B6.size (.cells #[.int .i64 x] 3)
      have r7 := hr6.alloc (.cells #[.int .i64 x] 3)
      have c7 : ∀ j u, [Value.int .i64 x][j]? = some u → (w6.alloc (.cells #[.int .i64 x] 3)).cell? ((⟨w6.heap.size, 0, none⟩ : Addr).add j) = some u := fun j u hj => by
        rw [show (⟨w6.heap.size, 0, none⟩ : Addr).add j = ⟨w6.heap.size, j, none⟩ by simp [Addr.add]; omega]
        exact (row_at w6 [Value.int .i64 x] 3 j).trans hj
      have C7 := Lib.hid c7
      have hs7 : (w6.alloc (.cells #[.int .i64 x] 3)).heap.size = w6.heap.size + 1 := by simp
      have S7 := Lib.hid hs7
      clear O6 O7 c7 hs7 H5
      go_wp2_with (at_builtin; refine wpList_append_own_at _ rfl _ _ 24 rfl (w.heap.size + 1) 3 i0 _ 1 8 Tryz.underlying24 hi hz0 hz1 hz2 rfl (by decide) _ _ _ rfl H7.out ⟨w6.heap.size, 0, none⟩ 1 1 [Value.int .i64 x] rfl rfl C7.out (by simp [Value.oneCell']) (by unfold maxLen; omega) (by omega) (by have := S7.out; omega) ?_; intro v' w8 hown' hgrow hnil hwhere)
      have hlo : ∀ j, (Value.slice ar k cr).ownBlock = some j → w.heap.size + 1 ≤ j := fun j hj => (World.ownsRow.lt H7.out j hj).1
      have B8 := B7.grown hgrow B7.size (fun j hj => Nat.le_of_succ_le (hlo j hj))
      have r8 := r7.above (grown_above hgrow hlo (by have := S7.out; omega))
      exact ⟨⟨k + 1, p + 2, _, by omega, by go_num, by omega, by rw [show p + 2 = p + 1 + 1 by omega]; exact r8, B8, hown'⟩, by simp [intOf]; omega⟩
    · obtain rfl : k = n := by omega
      go_wp2_with fail
      refine (pick_i hr _ (by omega) (by omega) (by omega)).mono ?_; rintro e w5 ⟨k5, rfl, hk5, hr5, g5⟩
      have O5 := row_apart HO.out g5
      have B5 := hB.grown g5 hB.size (fun j hj => by injection hj with hj; omega)
      have hl5 := hr5.lt
      by_cases h0 : k5 = 0
      · subst h0
        have O7 := World.ownsRow.kept (row := none) O5 (World.grownBy_alloc w5 (.cells #[.int .i64 1] 3) none) (by rcases ho : (Value.slice ar k cr).ownBlock with _ | j; exact .inl rfl; exact .inr (by simp))
        have H7 := Lib.hid O7
        have B7 := B5.alloc B5.size (.cells #[.int .i64 1] 3)
        have c7 : ∀ j u, [Value.int .i64 1][j]? = some u → (w5.alloc (.cells #[.int .i64 1] 3)).cell? ((⟨w5.heap.size, 0, none⟩ : Addr).add j) = some u := fun j u hj => by
          rw [show (⟨w5.heap.size, 0, none⟩ : Addr).add j = ⟨w5.heap.size, j, none⟩ by simp [Addr.add]; omega]
          exact (row_at w5 [Value.int .i64 1] 3 j).trans hj
        have C7 := Lib.hid c7
        have hs7 : (w5.alloc (.cells #[.int .i64 1] 3)).heap.size = w5.heap.size + 1 := by simp
        have S7 := Lib.hid hs7
        clear O5 O7 c7 hs7 HO
        go_wp2_with (at_builtin; refine wpList_append_own_at _ rfl _ _ 24 rfl (w.heap.size + 1) 3 i0 _ 1 8 Tryz.underlying24 hi hz0 hz1 hz2 rfl (by decide) _ _ _ rfl H7.out ⟨w5.heap.size, 0, none⟩ 1 1 [Value.int .i64 1] rfl rfl C7.out (by simp [Value.oneCell']) (by unfold maxLen; omega) (by omega) (by have := S7.out; omega) ?_; intro v' w8 hown' hgrow hnil hwhere)
        have hlo : ∀ j, (Value.slice ar k cr).ownBlock = some j → w.heap.size + 1 ≤ j := fun j hj => (World.ownsRow.lt H7.out j hj).1
        have B8 := B7.grown hgrow B7.size (fun j hj => Nat.le_of_succ_le (hlo j hj))
        go_ret2
        exact ⟨s, _, rfl, hs, B8⟩
      · have h0i : ¬ (k5 : Int) = 0 := by omega
        by_cases h1 : k5 = 1
        · subst h1
          by_cases hk0 : k = 0
          · subst hk0
            clear O5 HO
            go_wp2_with fail
            go_ret2
            exact ⟨s, _, rfl, hs, B5⟩
          · have hk0i : 0 < (k : Int) := by omega
            have F5 := Lib.hid O5
            clear O5 HO
            go_wp2_with fail
            refine (num_i hr5 [100, -1] _ (by omega) (by simp) (by simp)).mono ?_; rintro e w6 ⟨x, hx, rfl, hr6, g6⟩
            have O6 := row_apart F5.out g6
            have B6 := B5.grown g6 B5.size (fun j hj => by injection hj with hj; omega)
            obtain ⟨g, y, rfl, hg, hc, hf⟩ := row_first O6 (by omega)
            clear O6 F5
            go_wp2_with fail
            go_ret2
            exact ⟨s, _, rfl, hs, B6.setCell (p := ⟨g, 0, none⟩) (by show w.heap.size ≤ g; omega) _⟩
        · have h1i : ¬ (k5 : Int) = 1 := by omega
          clear O5 HO
          go_wp2_with fail
          go_ret2
          exact ⟨s, _, rfl, hs, B5⟩
end Go.Proofs.YtbdepjcndjcfoaaGreatDoor
