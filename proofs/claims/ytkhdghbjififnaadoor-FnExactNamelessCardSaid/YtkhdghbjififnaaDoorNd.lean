import Derived.Test.YtkhdghbjififnaaDoorNc
import Derived.Laws.EntriesVeiled
/- Nameless: the program's knotOf and nameless. -/
namespace Go.Proofs.YtkhdghbjififnaaDoor
open Go.RowKit
open Ff
set_option linter.unusedVariables false
attribute [local go_sem] Oper.semAt_some

def KnC (n : Nat) : Prop := ∀ (f : UInt8 → Int) (t : Tm) (fv : Value) (w : World), t.depth ≤ n → OkF n f → t.good → (parts t).length ≤ 4000 → Within w fv f →
  Calls Tryd.prog 16 #[enc t, fv] w fun e w' => ∃ v, e = .returned v ∧ Below w.heap.size w w' ∧ KRep (New w w') w' (knT n f t) v
theorem enter_k2 (a : Value) (w : World) (v : Value) : (callFunc 26 (#[v] ++ #[a])).run Tryd.prog w = .ok (.enter 26 (#[v] ++ #[a])) w := by kernel_rfl
theorem enter_k3 (a : Value) (w : World) (v : Value) : (callFunc 27 (#[v] ++ #[a])).run Tryd.prog w = .ok (.enter 27 (#[v] ++ #[a])) w := by kernel_rfl
theorem cells3 {w : World} {b : Nat} {z0 z1 z2 : Value} {t : TypeId} (h : w.heap[b]? = some (.cells #[z0, z1, z2] t (0, 0))) : w.cell? ⟨b, 0, none⟩ = some z0 ∧ w.cell? ⟨b, 1, none⟩ = some z1 ∧ w.cell? ⟨b, 2, none⟩ = some z2 ∧ w.frozen? ⟨b, 0, none⟩ = false ∧ w.frozen? ⟨b, 1, none⟩ = false ∧ w.frozen? ⟨b, 2, none⟩ = false := by
  refine ⟨?_, ?_, ?_, ?_, ?_, ?_⟩ <;> simp [World.cell?, World.frozen?, h]
abbrev set3 (W : World) (b : Nat) (z0 z1 z2 : Value) : World := ((W.setCell ⟨b, 0, none⟩ z0).setCell ⟨b, 1, none⟩ z1).setCell ⟨b, 2, none⟩ z2
theorem set3_size (W : World) (b : Nat) (z0 z1 z2 : Value) : (set3 W b z0 z1 z2).heap.size = W.heap.size := by simp [World.setCell]
theorem set3_far (W : World) (b : Nat) (z0 z1 z2 : Value) (g : Nat) (h : g ≠ b) : (set3 W b z0 z1 z2).heap[g]? = W.heap[g]? :=
  (Below.heap_setCell _ _ _ _ h).trans ((Below.heap_setCell _ _ _ _ h).trans (Below.heap_setCell _ _ _ _ h))
theorem set3_below {B b : Nat} {w W : World} (h : Below B w W) (hb : B ≤ b) (z0 z1 z2 : Value) : Below B w (set3 W b z0 z1 z2) :=
  ((h.setCell (p := ⟨b, 0, none⟩) hb _).setCell (p := ⟨b, 1, none⟩) hb _).setCell (p := ⟨b, 2, none⟩) hb _
abbrev knO : Obj := .cells #[.int .u8 0, .int .i64 0, .slice none 0 0] 39
set_option maxRecDepth 100000 in
set_option maxHeartbeats 2000000 in
theorem k2_c (n : Nat) (ih : KnC n) (f : UInt8 → Int) (s : Tm) (q : Nat) (fv : Value) (w : World) (hd : s.depth ≤ n) (hf : OkF n f) (hg : s.good) (hp : (parts s).length ≤ 4000) (hW : Within w fv f) (h0 : w.cell? ⟨q, 0, none⟩ = some fv) :
    Calls Tryd.prog 26 #[enc s, .pointer (some ⟨q, 0, none⟩)] w fun e w' => ∃ v, e = .returned v ∧ Below w.heap.size w w' ∧ KRep (New w w') w' (knT n f s) v := by
  have hb0 := (Below.refl _ w).alloc (Nat.le_refl _) knO
  have K := ih f s fv (w.alloc knO) hd hf hg hp (hW.keep hb0)
  obtain ⟨i, cap, rfl, _, _⟩ := hW
  have z0 := World.alloc_heap_new w knO
  have hz : (w.alloc knO).heap.size = w.heap.size + 1 := by simp
  have h1 := (hb0.cell (p := ⟨q, 0, none⟩) (World.block_lt_of_cell? w _ h0)).trans h0
  obtain ⟨sn, sv, hs⟩ := enc_gen s
  rw [hs] at K ⊢
  have HZ := Lib.hid hz
  clear hs h0 hz
  go_enter Tryd.func26, Tryd.ntmps26
  go_wp2_with fail
  refine K.mono ?_
  clear K
  rintro e w2 ⟨v, rfl, hb2, hr2⟩
  obtain ⟨y0, y1, y2, y3, y4, rfl⟩ := hr2.junk
  obtain ⟨c0, c1, c2, f0, f1, f2⟩ := cells3 ((hb2.block w.heap.size (by rw [HZ.out]; omega)).trans z0)
  go_wp2_with fail
  refine bodyPost_ret (v := .agg #[.int .u8 y0, .int .i64 y1, .slice y2 y3 y4]) (by simp [results, Tryd.results26, go_sem, c0, c1, c2]) rfl ?_
  exact ⟨_, rfl, set3_below (hb0.trans (hb2.mono (by rw [HZ.out]; omega))) (Nat.le_refl _) _ _ _, hr2.keep (fun g hg => set3_far _ _ _ _ _ _ (by have := hg.1; rw [HZ.out] at this; omega)) (fun g hg => ⟨by have := hg.1; rw [HZ.out] at this; omega, by rw [set3_size]; exact hg.2⟩)⟩
set_option maxRecDepth 100000 in
set_option maxHeartbeats 2000000 in
theorem k3_c (n : Nat) (ih : KnC n) (f : UInt8 → Int) (s : Tm) (q : Nat) (fv : Value) (w : World) (hd : s.depth ≤ n) (hf : OkF n f) (hg : s.good) (hp : (parts s).length ≤ 4000) (hW : Within w fv f) (h0 : w.cell? ⟨q, 0, none⟩ = some fv) :
    Calls Tryd.prog 27 #[enc s, .pointer (some ⟨q, 0, none⟩)] w fun e w' => ∃ v, e = .returned v ∧ Below w.heap.size w w' ∧ KRep (New w w') w' (knT n f s) v := by
  have hb0 := (Below.refl _ w).alloc (Nat.le_refl _) knO
  have K := ih f s fv (w.alloc knO) hd hf hg hp (hW.keep hb0)
  obtain ⟨i, cap, rfl, _, _⟩ := hW
  have z0 := World.alloc_heap_new w knO
  have hz : (w.alloc knO).heap.size = w.heap.size + 1 := by simp
  have h1 := (hb0.cell (p := ⟨q, 0, none⟩) (World.block_lt_of_cell? w _ h0)).trans h0
  obtain ⟨sn, sv, hs⟩ := enc_gen s
  rw [hs] at K ⊢
  have HZ := Lib.hid hz
  clear hs h0 hz
  go_enter Tryd.func27, Tryd.ntmps27
  go_wp2_with fail
  refine K.mono ?_
  clear K
  rintro e w2 ⟨v, rfl, hb2, hr2⟩
  obtain ⟨y0, y1, y2, y3, y4, rfl⟩ := hr2.junk
  obtain ⟨c0, c1, c2, f0, f1, f2⟩ := cells3 ((hb2.block w.heap.size (by rw [HZ.out]; omega)).trans z0)
  go_wp2_with fail
  refine bodyPost_ret (v := .agg #[.int .u8 y0, .int .i64 y1, .slice y2 y3 y4]) (by simp [results, Tryd.results27, go_sem, c0, c1, c2]) rfl ?_
  exact ⟨_, rfl, set3_below (hb0.trans (hb2.mono (by rw [HZ.out]; omega))) (Nat.le_refl _) _ _ _, hr2.keep (fun g hg => set3_far _ _ _ _ _ _ (by have := hg.1; rw [HZ.out] at this; omega)) (fun g hg => ⟨by have := hg.1; rw [HZ.out] at this; omega, by rw [set3_size]; exact hg.2⟩)⟩
theorem knT_eta (n : Nat) (f : UInt8 → Int) {t : Tm} (hg : t.good) : knT (n + 1) f t = .mk (signK (knT (n + 1) f t)) (valK (knT (n + 1) f t)) (t.kids.mapIdx (knK n f t)) := by
  by_cases hk : t.kids = []
  · cases t with
    | num k => rfl
    | var c => simp only [knT, Tm.kids, List.mapIdx_nil]; split <;> rfl
    | _ => simp [Tm.kids] at hk
  · rw [knT_node n f hg hk]; rfl
set_option maxRecDepth 100000 in
set_option maxHeartbeats 8000000 in
theorem knot_step (n : Nat) (ih : KnC n) (f : UInt8 → Int) (t : Tm) (fv : Value) (w : World) (hd : t.depth ≤ n + 1) (hf : OkF (n + 1) f) (hg : t.good) (hp : (parts t).length ≤ 4000) (hW : Within w fv f) :
    Calls Tryd.prog 16 #[enc t, fv] w fun e w' => ∃ v, e = .returned v ∧ Below w.heap.size w w' ∧ KRep (New w w') w' (knT (n + 1) f t) v := by
  have hn24 := hf.1
  have KB := fun w' => boundBy_c t hg w'
  have hlen := binds_len t
  have hff : ∀ c, f c = -1 ∨ (0 ≤ f c ∧ f c ≤ 99) := fun c => by have := hf.2 c; omega
  have KM := fun W (hB : Below w.heap.size w W) => markOf_c n t f fv W (by omega) hg hp (hW.keep hB)
  have hb0 := below_two w (.cells #[fv] 51) knO
  have z0 : ((w.alloc (.cells #[fv] 51)).alloc knO).cell? ⟨w.heap.size, 0, none⟩ = some fv := by simp [go_sem]
  have z1 : ((w.alloc (.cells #[fv] 51)).alloc knO).heap[w.heap.size + 1]? = some knO := by
    have := World.alloc_heap_new (w.alloc (.cells #[fv] 51)) knO
    rwa [World.size_alloc] at this
  have hz : ((w.alloc (.cells #[fv] 51)).alloc knO).heap.size = w.heap.size + 2 := by simp
  have HW := Lib.hid hW
  obtain ⟨i, cap, rfl, _, _⟩ := hW
  have KV := fun W => visitN_c t (knK n f t) (.func (.func 26) #[] #[.pointer (some ⟨w.heap.size, 0, none⟩)]) W
  have hE := knT_eta n f hg
  obtain ⟨L, hL⟩ : ∃ L, (bindsOf t).length = L := ⟨_, rfl⟩
  rw [enc_ty t] at KB KM ⊢
  have HE := Lib.hid hE
  clear hE KV
  go_enter Tryd.func16, Tryd.ntmps16
  go_wp2_with fail
  generalize (w.alloc (.cells #[.func (.func i) #[] cap] 51)).alloc knO = W0 at *
  refine (KB _).mono ?_
  clear KB
  rintro e w1 ⟨v, rfl, hsv, hb1⟩
  obtain ⟨an, rfl, hrow⟩ := hsv.row
  rw [List.length_map, hL]
  have hs1 := hb1.size
  have hlow : w.heap.size + 2 ≤ w1.heap.size := by omega
  have hb2 := below_two w1 (.cells #[.slice an L L] 43) (.cells #[.func (.func 24) #[] #[.pointer (some ⟨w1.heap.size, 0, none⟩), .pointer (some ⟨w.heap.size, 0, none⟩)]] 51)
  have y0 := (hb2.cell (p := ⟨w.heap.size, 0, none⟩) (by show w.heap.size < _; omega)).trans ((hb1.cell (p := ⟨w.heap.size, 0, none⟩) (by show w.heap.size < _; omega)).trans z0)
  have y1 := (hb2.block (w.heap.size + 1) (by omega)).trans ((hb1.block (w.heap.size + 1) (by omega)).trans z1)
  have y2 : ((w1.alloc (.cells #[.slice an L L] 43)).alloc (.cells #[.func (.func 24) #[] #[.pointer (some ⟨w1.heap.size, 0, none⟩), .pointer (some ⟨w.heap.size, 0, none⟩)]] 51)).cell? ⟨w1.heap.size, 0, none⟩ = some (.slice an L L) := by simp [go_sem]
  have y3 : ((w1.alloc (.cells #[.slice an L L] 43)).alloc (.cells #[.func (.func 24) #[] #[.pointer (some ⟨w1.heap.size, 0, none⟩), .pointer (some ⟨w.heap.size, 0, none⟩)]] 51)).cell? ⟨w1.heap.size + 1, 0, none⟩ = some (.func (.func 24) #[] #[.pointer (some ⟨w1.heap.size, 0, none⟩), .pointer (some ⟨w.heap.size, 0, none⟩)]) := by simp [go_sem]
  have y4 := hrow.keep hb2
  have hz2 : ((w1.alloc (.cells #[.slice an L L] 43)).alloc (.cells #[.func (.func 24) #[] #[.pointer (some ⟨w1.heap.size, 0, none⟩), .pointer (some ⟨w.heap.size, 0, none⟩)]] 51)).heap.size = w1.heap.size + 2 := by simp
  have hB2 : Below w.heap.size w _ := (hb0.trans (hb1.mono (by omega))).trans (hb2.mono (by omega))
  go_wp2_with fail
  generalize (w1.alloc (.cells #[.slice an L L] 43)).alloc (.cells #[.func (.func 24) #[] #[.pointer (some ⟨w1.heap.size, 0, none⟩), .pointer (some ⟨w.heap.size, 0, none⟩)]] 51) = V at *
  have hWd : Within V (.func (.func 24) #[] #[.pointer (some ⟨w1.heap.size, 0, none⟩), .pointer (some ⟨w.heap.size, 0, none⟩)]) (deeper (bindsOf t) f) :=
    ⟨_, _, rfl, enter_deep _ _, fun W hW c => deep_c (bindsOf t) w1.heap.size w.heap.size an L _ f w W c hlen hff HW.out (hB2.trans (hW.mono hB2.size)) (by rw [hL]; exact (hW.cell (p := ⟨w1.heap.size, 0, none⟩) (by show w1.heap.size < _; omega)).trans y2) ((hW.cell (p := ⟨w.heap.size, 0, none⟩) (by show w.heap.size < _; omega)).trans y0) (y4.keep hW)⟩
  refine (KM _ hB2).mono ?_
  clear KM
  rintro e w3 ⟨rfl, hb3⟩
  have hs3 := hb3.size
  have hvis : ∀ k s, t.kids[k]? = some s → VisK w3 (if k + 1 = t.kids.length then (.func (.func 27) #[] #[.pointer (some ⟨w1.heap.size + 1, 0, none⟩)] : Value) else (.func (.func 26) #[] #[.pointer (some ⟨w.heap.size, 0, none⟩)] : Value)) s (knK n f t k s) := by
    intro k s hs
    have hmem := List.mem_of_getElem? hs
    have hds := kid_depth hmem
    have hgs := Tm.kid_good hg hmem
    have hps := parts_kid_le hmem
    unfold knK
    by_cases hl : k + 1 = t.kids.length
    · simp only [if_pos hl]
      refine ⟨_, _, rfl, enter_k3 _, fun W hW => ?_⟩
      have hV := hb3.trans (hW.mono hs3)
      exact k3_c n ih _ s (w1.heap.size + 1) _ W (by omega) (okF_deeper hf hlen) hgs (by omega) (hWd.keep hV) ((hV.cell (p := ⟨w1.heap.size + 1, 0, none⟩) (by show w1.heap.size + 1 < _; omega)).trans y3)
    · simp only [if_neg hl]
      refine ⟨_, _, rfl, enter_k2 _, fun W hW => ?_⟩
      have hV := hb3.trans (hW.mono hs3)
      exact k2_c n ih _ s w.heap.size _ W (by omega) (okF_less hf) hgs (by omega) (HW.out.keep (hB2.trans (hV.mono hB2.size))) ((hV.cell (p := ⟨w.heap.size, 0, none⟩) (by show w.heap.size < _; omega)).trans y0)
  have KV := visitN_c t (knK n f t) _ _ w3 hvis
  rw [enc_ty t] at KV
  have y1' := (hb3.block (w.heap.size + 1) (by omega)).trans y1
  have hs2 := hB2.size
  have HZ := Lib.hid hz
  have HZ2 := Lib.hid hz2
  clear hvis hWd y0 y1 y2 y3 y4 hrow hsv z0 z1 hz hz2
  go_wp2_with fail
  refine KV.mono ?_
  clear KV
  rintro e w4 ⟨g, cp, c, rfl, hb4, hg4, hc4, hr4⟩
  obtain ⟨c0, c1, c2, f0, f1, f2⟩ := cells3 ((hb4.block (w.heap.size + 1) (by have := HZ2.out; omega)).trans y1')
  have HC4 := Lib.hid hc4
  have HR4 := Lib.hid hr4
  clear hc4 hr4 y1'
  obtain ⟨kk, hkk⟩ : ∃ kk, knT (n + 1) f t = kk := ⟨_, rfl⟩
  rw [hkk] at HE ⊢
  obtain ⟨lk, hlk⟩ : ∃ lk, t.kids.length = lk := ⟨_, rfl⟩
  rw [hlk]
  go_wp2_with fail
  refine bodyPost_ret (v := .agg #[.int .u8 ((signK kk).toNat : Int), .int .i64 (valK kk), .slice (some ⟨g, 0, none⟩) lk cp]) (by simp [results, Tryd.results16, go_sem, c0, c1, c2]) rfl ?_
  have hB4 : Below w.heap.size w w4 := hB2.trans ((hb3.trans (hb4.mono hs3)).mono hs2)
  have hfar : ∀ g', New w3 w4 g' → (set3 w4 (w.heap.size + 1) (.int .u8 ((signK kk).toNat : Int)) (.int .i64 (valK kk)) (.slice (some ⟨g, 0, none⟩) lk cp)).heap[g']? = w4.heap[g']? := fun g' hg' => set3_far _ _ _ _ _ _ (by have := hg'.1; have := HZ2.out; omega)
  refine ⟨_, rfl, set3_below hB4 (by omega) _ _ _, ?_⟩
  have hlm : (t.kids.mapIdx (knK n f t)).length = lk := by rw [List.length_mapIdx, hlk]
  have R := KRep.mk (S := New w (set3 w4 (w.heap.size + 1) (.int .u8 ((signK kk).toNat : Int)) (.int .i64 (valK kk)) (.slice (some ⟨g, 0, none⟩) lk cp))) (w := set3 w4 (w.heap.size + 1) (.int .u8 ((signK kk).toNat : Int)) (.int .i64 (valK kk)) (.slice (some ⟨g, 0, none⟩) lk cp)) (signK kk) (valK kk) (t.kids.mapIdx (knK n f t)) g cp c
    ⟨by have := hg4.1; omega, by rw [set3_size]; exact hg4.2⟩ (fun k hk => (World.cell?_of_block (a := ⟨g, k, none⟩) (hfar g hg4)).trans (HC4.out k (by rw [hlm] at hk; rw [hlk]; exact hk))) (fun i x hx => (HR4.out i x hx).keep hfar (fun g' hg' => ⟨by have := hg'.1; omega, by rw [set3_size]; exact hg'.2⟩))
  rw [hlm, ← HE.out] at R
  rw [hkk]
  exact R
theorem knot_c : ∀ n, KnC n
  | 0 => fun f t fv w hd => absurd hd (by have := t.depth_pos; omega)
  | n + 1 => fun f t fv w hd hf hg hp hW => knot_step n (knot_c n) f t fv w hd hf hg hp hW
/-- No name is bound. -/
abbrev noF : UInt8 → Int := fun _ => -1
theorem noF_ok : OkF 24 noF := ⟨by omega, fun c => .inl rfl⟩
set_option maxRecDepth 100000 in
set_option maxHeartbeats 2000000 in
theorem nameless_c (t : Tm) (w : World) (hd : t.depth ≤ 24) (hg : t.good) (hp : (parts t).length ≤ 4000) :
    Calls Tryd.prog 9 #[enc t] w fun e w' => ∃ v, e = .returned v ∧ Below w.heap.size w w' ∧ KRep (New w w') w' (knT 24 noF t) v := by
  have hb0 := (Below.refl _ w).alloc (Nat.le_refl _) knO
  have K := knot_c 24 noF t _ (w.alloc knO) hd noF_ok hg hp (within_free _)
  have z0 := World.alloc_heap_new w knO
  have hz : (w.alloc knO).heap.size = w.heap.size + 1 := by simp
  obtain ⟨sn, sv, hs⟩ := enc_gen t
  rw [hs] at K ⊢
  have HZ := Lib.hid hz
  clear hs hz
  go_enter Tryd.func9, Tryd.ntmps9
  go_wp2_with fail
  refine K.mono ?_
  clear K
  rintro e w2 ⟨v, rfl, hb2, hr2⟩
  obtain ⟨y0, y1, y2, y3, y4, rfl⟩ := hr2.junk
  obtain ⟨c0, c1, c2, f0, f1, f2⟩ := cells3 ((hb2.block w.heap.size (by rw [HZ.out]; omega)).trans z0)
  go_wp2_with fail
  refine bodyPost_ret (v := .agg #[.int .u8 y0, .int .i64 y1, .slice y2 y3 y4]) (by simp [results, Tryd.results9, go_sem, c0, c1, c2]) rfl ?_
  exact ⟨_, rfl, set3_below (hb0.trans (hb2.mono (by rw [HZ.out]; omega))) (Nat.le_refl _) _ _ _, hr2.keep (fun g hg => set3_far _ _ _ _ _ _ (by have := hg.1; rw [HZ.out] at this; omega)) (fun g hg => ⟨by have := hg.1; rw [HZ.out] at this; omega, by rw [set3_size]; exact hg.2⟩)⟩
end Go.Proofs.YtkhdghbjififnaaDoor
