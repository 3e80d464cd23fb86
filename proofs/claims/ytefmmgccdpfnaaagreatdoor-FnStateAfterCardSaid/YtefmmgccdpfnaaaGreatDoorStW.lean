import Derived.Test.YtefmmgccdpfnaaaGreatDoorStC
import Derived.Deep.RegionHeld3
/- The specification's l4With: a term with another part at a path. -/
namespace Go.Proofs.YtefmmgccdpfnaaaGreatDoor
open Go.RowKit
open Ff
set_option linter.unusedVariables false
attribute [local irreducible] Calls

/-- A term remade with as many kids: nothing else changes. -/
theorem re_same {t : Tm} (hk : t.kids ≠ []) {ks : List Tm} (hl : ks.length = t.kids.length) : (reTm t (bindsOf t) ks).kids = ks ∧ kindOf (reTm t (bindsOf t) ks) = kindOf t ∧ numOf (reTm t (bindsOf t) ks) = numOf t ∧ namesOf (reTm t (bindsOf t) ks) = namesOf t := by
  cases t with
  | num k => exact absurd rfl hk
  | var c => exact absurd rfl hk
  | fn c b => match ks, hl with | [x], _ => exact ⟨rfl, rfl, rfl, rfl⟩
  | fix f c b => match ks, hl with | [x], _ => exact ⟨rfl, rfl, rfl, rfl⟩
  | app f a => match ks, hl with | [x, y], _ => exact ⟨rfl, rfl, rfl, rfl⟩
  | bind c v b => match ks, hl with | [x, y], _ => exact ⟨rfl, rfl, rfl, rfl⟩
  | op o l r => match ks, hl with | [x, y], _ => exact ⟨rfl, rfl, rfl, rfl⟩
  | sel a b c => match ks, hl with | [x, y, z], _ => exact ⟨rfl, rfl, rfl, rfl⟩
/-- The cells of all kids. -/
theorem all_cells {S : Nat → Prop} {w : World} {t : Tm} {g : Nat} {c : Nat → Value} (hc : ∀ k, k < 4 * t.kids.length → w.cell? ⟨g, k, none⟩ = some (c k)) (hr : ∀ i s, t.kids[i]? = some s → Rep S w s (four c i)) :
    ∃ news : List Value, news.length = t.kids.length * 4 ∧ (∀ j u, news[j]? = some u → w.cell? ⟨g, j, none⟩ = some u) ∧ (∀ u ∈ news, u.oneCell' = true) ∧ ∀ j, j < t.kids.length * 4 → news[j]? = some (c j) := by
  have hat : ∀ j, j < t.kids.length * 4 → ((List.range (t.kids.length * 4)).map c)[j]? = some (c j) := fun j hj => by simp [hj]
  refine ⟨(List.range (t.kids.length * 4)).map c, by simp, fun j u hu => ?_, fun u hu => ?_, hat⟩
  · have hj : j < t.kids.length * 4 := by
      have := (List.getElem?_eq_some_iff.1 hu).1
      simpa using this
    rw [hat j hj] at hu
    injection hu with hu
    subst hu
    exact hc j (by omega)
  · simp only [List.mem_map, List.mem_range] at hu
    obtain ⟨j, hj, rfl⟩ := hu
    obtain ⟨s, hs⟩ : ∃ s, t.kids[j / 4]? = some s := ⟨_, List.getElem?_eq_getElem (by omega)⟩
    obtain ⟨y0, y1, y2, y3, y4, y5, he⟩ := (hr _ s hs).junk
    unfold four at he
    simp only [Value.agg.injEq, Array.mk.injEq, List.cons.injEq, and_true] at he
    obtain ⟨i0, i1, i2, i3⟩ := he
    have hd : j = 4 * (j / 4) ∨ j = 4 * (j / 4) + 1 ∨ j = 4 * (j / 4) + 2 ∨ j = 4 * (j / 4) + 3 := by omega
    rcases hd with h | h | h | h <;> rw [h]
    · rw [i0]; rfl
    · rw [i1]; rfl
    · rw [i2]; rfl
    · rw [i3]; rfl
/-- A path as a row of numbers, from some place of a block on. -/
def PathO (W : World) (a : Option Addr) (p : List Nat) : Prop := ∀ (j u : Nat), p[j]? = some u → ∃ g o, a = some ⟨g, o, none⟩ ∧ g < W.heap.size ∧ W.cell? ⟨g, o + j, none⟩ = some (iV u)
theorem PathO.keep {W W' : World} {a : Option Addr} {p : List Nat} (h : PathO W a p) (hb : Below W.heap.size W W') : PathO W' a p := fun j u hj => by
  obtain ⟨g, o, h1, h2, h3⟩ := h j u hj
  exact ⟨g, o, h1, by have := hb.size; omega, (hb.cell (p := ⟨g, o + j, none⟩) h2).trans h3⟩
/-- What putting a part into its place comes to. -/
def WithC (p : List Nat) : Prop := ∀ (S : Nat → Prop) (t x : Tm) (vt vx : Value) (a : Option Addr) (cp : Nat) (w : World), PathOk t p → (∀ g, S g → g < w.heap.size) → Rep S w t vt → Rep S w x vx → PathO w a p → p.length ≤ cp → p.length ≤ 4000 →
  Calls Tryz.prog 63 #[vt, .slice a p.length cp, vx] w fun e w' => ∃ v, e = .returned v ∧ Below w.heap.size w w' ∧ Rep (fun g => S g ∨ New w w' g) w' (withAt t p x) v
set_option maxRecDepth 100000 in
set_option maxHeartbeats 1000000 in
theorem with_nil : WithC [] := by
  intro S t x vt vx a cp w hok hS hrt hrx hp hcp hpl
  obtain ⟨x0, x1, x2, x3, x4, x5, rfl⟩ := hrt.junk
  obtain ⟨y0, y1, y2, y3, y4, y5, rfl⟩ := hrx.junk
  have HR := Lib.hid hrx
  clear hrt hrx
  go_enter Tryz.func63, Tryz.ntmps63
  go_wp2_with fail
  refine bodyPost_ret (v := .agg #[.int .u8 y0, .int .i64 y1, .string y2, .slice y3 y4 y5]) (by simp [results, Tryz.results63, go_sem]) rfl ?_
  have hb := below_three w (tmO x0 x1 x2 x3 x4 x5) (tmO y0 y1 y2 y3 y4 y5) (tmO y0 y1 y2 y3 y4 y5)
  refine ⟨_, rfl, hb, ?_⟩
  show Rep _ _ x _
  exact HR.out.keep (fun g hg => hb.block g (hS g hg)) (fun g hg => .inl hg)
theorem own_shape4 {W : World} {base : Nat} {e : TypeId} {size : Nat} {v : Value} {n : Nat} {xs : List Value} (h : W.ownsRow base e size v n xs) (hv : v ≠ .slice none 0 0) : ∃ g cap, v = .slice (some ⟨g, 0, none⟩) n cap ∧ base ≤ g ∧ g < W.heap.size := by
  obtain ⟨_, ⟨h1, _⟩ | ⟨g, cap, cur, h1, h2, h3, _⟩⟩ := h
  · exact absurd h1 hv
  · exact ⟨g, cap, h1, h2, (Array.getElem?_eq_some_iff.1 h3).1⟩
theorem lit_own4 (W : World) (B : Nat) (hB : B ≤ W.heap.size) : (W.alloc (.cells #[] 54)).ownsRow B 54 4 (.slice (some ⟨W.heap.size, 0, none⟩) 0 0) 0 [] :=
  World.ownsRow_lit W #[] 0 hB (by simp [maxLen]) (by simp)
theorem below_row4 {w W W' : World} {row : Option Nat} (h : Below w.heap.size w W) (hg : W.grownBy W' row) (hr : ∀ r, row = some r → w.heap.size ≤ r) : Below w.heap.size w W' :=
  ⟨hg.os.trans h.os, hg.tape.trans h.tape, hg.output.trans h.output, Nat.le_trans h.size hg.size, fun k hk => (hg.block k (by have := h.size; omega) (fun e => by have := hr k e.symm; omega)).trans (h.block k hk)⟩
/-- The object of a row. -/
theorem row_obj {W : World} {base : Nat} {e : TypeId} {size g n cap : Nat} {xs : List Value} (h : W.ownsRow base e size (.slice (some ⟨g, 0, none⟩) n cap) n xs) : ∃ cur : Array Value, W.heap[g]? = some (.cells cur e (0, 0)) ∧ ∀ (j : Nat) (u : Value), xs[j]? = some u → cur[j]? = some u := by
  rcases h.2 with ⟨h1, _⟩ | ⟨g', cap', cur, h1, h2, h3, h4, h5, h6, h7⟩
  · cases h1
  · injection h1 with e1 e2 e3
    injection e1 with e1
    injection e1 with e1
    subst e1
    refine ⟨cur, h3, fun j u hu => ?_⟩
    rw [← h7, List.getElem?_take] at hu
    split at hu
    · simpa using hu
    · cases hu
theorem UnW.kids {w W : World} {k n : Int} {s : ByteArray} {a : Option Addr} {l c : Nat} {k' n' : Int} {s' : ByteArray} {a' : Option Addr} {l' c' : Nat} (h : UnW w k n s a l c k' n' s' a' l' c' W) (a2 : Option Addr) (l2 c2 : Nat) : UnW w k n s a2 l2 c2 k' n' s' a' l' c' (W.setCell ⟨w.heap.size, 3, none⟩ (.slice a2 l2 c2)) := by
  refine ⟨by simp [World.setCell, Array.getElem?_modify, h.body], (Below.heap_setCell _ _ _ _ (by first | (simp; done) | (simp; omega))).trans h.put, (Below.heap_setCell _ _ _ _ (by first | (simp; done) | (simp; omega))).trans h.res, h.below.setCell (p := ⟨w.heap.size, 3, none⟩) (Nat.le_refl _) _, by simpa [World.setCell] using h.size⟩
/-- Four cells of a row that is made are stored. -/
abbrev set4o (W : World) (b o : Nat) (z0 z1 z2 z3 : Value) : World := (((W.setCell ⟨b, o, none⟩ z0).setCell ⟨b, o + 1, none⟩ z1).setCell ⟨b, o + 2, none⟩ z2).setCell ⟨b, o + 3, none⟩ z3
theorem set4o_far (W : World) (b o : Nat) (z0 z1 z2 z3 : Value) (g : Nat) (h : g ≠ b) : (set4o W b o z0 z1 z2 z3).heap[g]? = W.heap[g]? :=
  (Below.heap_setCell _ _ _ _ (by simpa using h)).trans ((Below.heap_setCell _ _ _ _ (by simpa using h)).trans ((Below.heap_setCell _ _ _ _ (by simpa using h)).trans (Below.heap_setCell _ _ _ _ (by simpa using h))))
theorem set4o_size (W : World) (b o : Nat) (z0 z1 z2 z3 : Value) : (set4o W b o z0 z1 z2 z3).heap.size = W.heap.size := by simp [World.setCell]
theorem set4o_below {B b o : Nat} {w W : World} (h : Below B w W) (hb : B ≤ b) (z0 z1 z2 z3 : Value) : Below B w (set4o W b o z0 z1 z2 z3) :=
  (((h.setCell (p := ⟨b, o, none⟩) hb _).setCell (p := ⟨b, o + 1, none⟩) hb _).setCell (p := ⟨b, o + 2, none⟩) hb _).setCell (p := ⟨b, o + 3, none⟩) hb _
theorem set4o_cell {W : World} {b o : Nat} {z0 z1 z2 z3 : Value} {k : Nat} {u : Value} (h : W.cell? ⟨b, k, none⟩ = some u) (hk : k < o ∨ o + 4 ≤ k) : (set4o W b o z0 z1 z2 z3).cell? ⟨b, k, none⟩ = some u := by
  rw [World.cell?_setCell_other _ _ _ _ (by first | (simp; done) | (simp; omega)), World.cell?_setCell_other _ _ _ _ (by first | (simp; done) | (simp; omega)), World.cell?_setCell_other _ _ _ _ (by first | (simp; done) | (simp; omega)), World.cell?_setCell_other _ _ _ _ (by first | (simp; done) | (simp; omega))]
  exact h
theorem set4o_here {W : World} {b o : Nat} {z0 z1 z2 z3 u0 u1 u2 u3 : Value} (h0 : W.cell? ⟨b, o, none⟩ = some u0) (h1 : W.cell? ⟨b, o + 1, none⟩ = some u1) (h2 : W.cell? ⟨b, o + 2, none⟩ = some u2) (h3 : W.cell? ⟨b, o + 3, none⟩ = some u3) :
    (set4o W b o z0 z1 z2 z3).cell? ⟨b, o, none⟩ = some z0 ∧ (set4o W b o z0 z1 z2 z3).cell? ⟨b, o + 1, none⟩ = some z1 ∧ (set4o W b o z0 z1 z2 z3).cell? ⟨b, o + 2, none⟩ = some z2 ∧ (set4o W b o z0 z1 z2 z3).cell? ⟨b, o + 3, none⟩ = some z3 := by
  have A1 : (W.setCell ⟨b, o, none⟩ z0).cell? ⟨b, o + 1, none⟩ = some u1 := by rw [World.cell?_setCell_other _ _ _ _ (by simp)]; exact h1
  have A2 : ((W.setCell ⟨b, o, none⟩ z0).setCell ⟨b, o + 1, none⟩ z1).cell? ⟨b, o + 2, none⟩ = some u2 := by rw [World.cell?_setCell_other _ _ _ _ (by simp), World.cell?_setCell_other _ _ _ _ (by simp)]; exact h2
  have A3 : (((W.setCell ⟨b, o, none⟩ z0).setCell ⟨b, o + 1, none⟩ z1).setCell ⟨b, o + 2, none⟩ z2).cell? ⟨b, o + 3, none⟩ = some u3 := by rw [World.cell?_setCell_other _ _ _ _ (by simp), World.cell?_setCell_other _ _ _ _ (by simp), World.cell?_setCell_other _ _ _ _ (by simp)]; exact h3
  refine ⟨?_, ?_, ?_, World.cell?_setCell_same _ _ _ A3⟩
  · rw [World.cell?_setCell_other _ _ _ _ (by simp), World.cell?_setCell_other _ _ _ _ (by simp), World.cell?_setCell_other _ _ _ _ (by simp)]; exact World.cell?_setCell_same _ _ _ h0
  · rw [World.cell?_setCell_other _ _ _ _ (by simp), World.cell?_setCell_other _ _ _ _ (by simp)]; exact World.cell?_setCell_same _ _ _ A1
  · rw [World.cell?_setCell_other _ _ _ _ (by simp)]; exact World.cell?_setCell_same _ _ _ A2
/-- The term that is told at the end. -/
theorem with_rep {S : Nat → Prop} {w W2 w3 W5 : World} {t T r : Tm} {i L gl cl : Nat} {kd nu : Int} {ns : Text} {c : Nat → Value} {z0 z1 : Int} {z2 : ByteArray} {z3 : Option Addr} {z4 z5 : Nat} (hTk : T.kids = t.kids.set i r) (h1 : ((kindOf T : Nat) : Int) = kd) (h2 : ((numOf T : Nat) : Int) = nu) (h3 : namesOf T = ns) (hL : t.kids.length = L) (hi : i < L)
    (hw2 : w.heap.size ≤ W2.heap.size) (hgl : w.heap.size ≤ gl ∧ gl < W2.heap.size) (hw3 : W2.heap.size ≤ w3.heap.size ∧ w3.heap.size = W5.heap.size) (hglS : ¬ S gl) (hS : ∀ g, S g → g < w.heap.size)
    (hk : ∀ j q, t.kids[j]? = some q → Rep S w q (four c j)) (hold : ∀ g, S g → W5.heap[g]? = w.heap[g]?) (hr : Rep (fun g => S g ∨ New W2 w3 g) w3 r (.agg #[.int .u8 z0, .int .i64 z1, .string z2, .slice z3 z4 z5])) (hnew : ∀ g, (S g ∨ New W2 w3 g) → g ≠ w.heap.size + 1 + 1 → g ≠ gl → W5.heap[g]? = w3.heap[g]?)
    (hrow : ∀ j, j < L * 4 → (j < i * 4 ∨ i * 4 + 4 ≤ j) → W5.cell? ⟨gl, j, none⟩ = some (c j)) (hz : W5.cell? ⟨gl, i * 4, none⟩ = some (.int .u8 z0) ∧ W5.cell? ⟨gl, i * 4 + 1, none⟩ = some (.int .i64 z1) ∧ W5.cell? ⟨gl, i * 4 + 2, none⟩ = some (.string z2) ∧ W5.cell? ⟨gl, i * 4 + 3, none⟩ = some (.slice z3 z4 z5)) (hcl : L ≤ cl) (hbx : w.heap.size + 3 ≤ W2.heap.size) :
    Rep (fun g => S g ∨ New w W5 g) W5 T (.agg #[.int .u8 kd, .int .i64 nu, .string ⟨ns.toArray⟩, .slice (some ⟨gl, 0, none⟩) L cl]) := by
  have hTl : T.kids.length = L := by rw [hTk, List.length_set]; exact hL
  have R : Rep (fun g => S g ∨ New w W5 g) W5 T (tmHead T gl cl) := by
    refine .mk T gl cl (fun j => if j / 4 = i then (if j % 4 = 0 then .int .u8 z0 else if j % 4 = 1 then .int .i64 z1 else if j % 4 = 2 then .string z2 else .slice z3 z4 z5) else c j) (.inr ⟨hgl.1, by omega⟩) (fun j hj => ?_) (fun j q hq => ?_) (by rw [hTl]; exact hcl)
    · rw [hTl] at hj
      by_cases hji : j / 4 = i
      · simp only [hji, if_true]
        have : j = i * 4 ∨ j = i * 4 + 1 ∨ j = i * 4 + 2 ∨ j = i * 4 + 3 := by omega
        rcases this with h | h | h | h
        · rw [if_pos (by omega), h]; exact hz.1
        · rw [if_neg (by omega), if_pos (by omega), h]; exact hz.2.1
        · rw [if_neg (by omega), if_neg (by omega), if_pos (by omega), h]; exact hz.2.2.1
        · rw [if_neg (by omega), if_neg (by omega), if_neg (by omega), h]; exact hz.2.2.2
      · simp only [if_neg hji]
        exact hrow j (by omega) (by omega)
    · rw [hTk, List.getElem?_set] at hq
      by_cases hij : i = j
      · subst hij
        rw [if_pos rfl, if_pos (by omega)] at hq
        injection hq with hq
        subst hq
        have e : four (fun j => if j / 4 = i then (if j % 4 = 0 then Value.int .u8 z0 else if j % 4 = 1 then .int .i64 z1 else if j % 4 = 2 then .string z2 else .slice z3 z4 z5) else c j) i = .agg #[.int .u8 z0, .int .i64 z1, .string z2, .slice z3 z4 z5] := by
          unfold four
          dsimp only
          rw [if_pos (by omega), if_pos (by omega), if_pos (by omega), if_neg (by omega), if_pos (by omega), if_pos (by omega), if_neg (by omega), if_neg (by omega), if_pos (by omega), if_pos (by omega), if_neg (by omega), if_neg (by omega), if_neg (by omega)]
        rw [e]
        exact hr.keep (fun g hg => hnew g hg (by rcases hg with h | h; have := hS g h; omega; have := h.1; omega) (by rcases hg with h | h; intro e; subst e; exact hglS h; have := h.1; omega)) (fun g hg => hg.imp id (fun h => ⟨by have := h.1; omega, by have := h.2; omega⟩))
      · rw [if_neg hij] at hq
        have e : four (fun j => if j / 4 = i then (if j % 4 = 0 then Value.int .u8 z0 else if j % 4 = 1 then .int .i64 z1 else if j % 4 = 2 then .string z2 else .slice z3 z4 z5) else c j) j = four c j := by
          unfold four
          dsimp only
          rw [if_neg (by omega), if_neg (by omega), if_neg (by omega), if_neg (by omega)]
        rw [e]
        exact (hk j q hq).keep (fun g hg => hold g hg) (fun g hg => .inl hg)
  unfold tmHead at R
  rw [h1, h2, h3, hTl] at R
  exact R
theorem box_far4 {W : World} {b : Nat} {z0 z1 z2 z3 : Value} {t : TypeId} {o : Obj} (h : W.heap[b]? = some (.cells #[z0, z1, z2, z3] t (0, 0))) : (W.alloc o).heap[b]? = some (.cells #[z0, z1, z2, z3] t (0, 0)) := by
  rw [alloc_far _ _ (Array.getElem?_eq_some_iff.1 h).1]; exact h
set_option maxRecDepth 100000 in
set_option maxHeartbeats 4000000 in
theorem with_cons (i : Nat) (p : List Nat) (ih : WithC p) : WithC (i :: p) := by
  intro S t x vt vx a cp w hok hS hrt hrx hp hcp hpl
  obtain ⟨s, hs, hokp⟩ := hok
  have hil := (List.getElem?_eq_some_iff.1 hs).1
  have hne : t.kids ≠ [] := fun e => by rw [e] at hil; simp at hil
  have hL3 : t.kids.length ≤ 3 := by cases t <;> simp [Tm.kids]
  obtain ⟨g', o, rfl, hg'1, hpc⟩ := hp 0 i rfl
  rw [Nat.add_zero] at hpc
  obtain ⟨y0, y1, y2, y3, y4, y5, rfl⟩ := hrx.junk
  have eW : withAt t (i :: p) x = reTm t (bindsOf t) (t.kids.set i (withAt s p x)) := by simp [withAt, hs]
  obtain ⟨T, hT⟩ : ∃ T, reTm t (bindsOf t) (t.kids.set i (withAt s p x)) = T := ⟨_, rfl⟩
  rw [eW, hT]
  have hre := re_same hne (ks := t.kids.set i (withAt s p x)) (by simp)
  cases hrt with
  | mk _ g cap c hgS hc hkr hcap =>
  have hgw := hS g hgS
  obtain ⟨news, n1, n2, n3, n4⟩ := all_cells hc hkr
  unfold tmHead
  obtain ⟨i0, hi, hj0, hj1, hj2⟩ := info_parts Tryz.infoTerm
  have U0 := UnW.new w (kindOf t : Int) (numOf t : Int) ⟨(namesOf t).toArray⟩ (some ⟨g, 0, none⟩) t.kids.length cap y0 y1 y2 y3 y4 y5
  have hq0 : (((p.length : Int) + 1) == 0) = false := by rw [beq_eq_false_iff_ne]; omega
  simp only [List.length_cons] at hcp hpl ⊢
  have HK := Lib.hid hkr
  have HC := Lib.hid hc
  have HX := Lib.hid hrx
  have HS := Lib.hid hs
  rw [hT] at hre
  have hk1 : ((kindOf T : Nat) : Int) = ((kindOf t : Nat) : Int) := by rw [hre.2.1]
  have hk2 : ((numOf T : Nat) : Int) = ((numOf t : Nat) : Int) := by rw [hre.2.2.1]
  have HTK := Lib.hid hre.1
  have HT1 := Lib.hid hk1
  have HT2 := Lib.hid hk2
  have HT3 := Lib.hid hre.2.2.2
  clear hk1 hk2 hT
  have HN4 := Lib.hid n4
  have HPO := Lib.hid hp
  clear hkr hc hrx hs hre n4 hp eW
  obtain ⟨L, hL⟩ : ∃ L, t.kids.length = L := ⟨_, rfl⟩
  rw [hL] at hil hL3 n1 hcap U0 ⊢
  have HL := Lib.hid hL
  clear hL
  generalize (kindOf t : Int) = kd at *
  generalize (numOf t : Int) = nu at *
  generalize namesOf t = ns at *
  obtain ⟨W0, hW0⟩ : ∃ W0, (((w.alloc (tmO kd nu ⟨ns.toArray⟩ (some ⟨g, 0, none⟩) L cap)).alloc (tmO y0 y1 y2 y3 y4 y5)).alloc (tmO 0 0 ⟨#[]⟩ none 0 0)) = W0 := ⟨_, rfl⟩
  have hWz : W0.heap.size = w.heap.size + 1 + 1 + 1 := by rw [← hW0]; simp
  rw [hW0] at U0
  have hB0 := U0.below
  have own0 : (W0.alloc (.cells #[] 54)).ownsRow (w.heap.size + 1 + 1 + 1) 54 4 (.slice (some ⟨w.heap.size + 1 + 1 + 1, 0, none⟩) 0 0) 0 [] := by
    have h := lit_own4 W0 W0.heap.size (Nat.le_refl _)
    rw [hWz] at h
    exact h
  have ncell : ∀ j u, news[j]? = some u → (W0.alloc (.cells #[] 54)).cell? ((⟨g, 0, none⟩ : Addr).add j) = some u := fun j u hu => by
    rw [Addr.add_lit, Nat.zero_add]
    exact ((hB0.alloc hB0.size _).cell (p := ⟨g, j, none⟩) hgw).trans (n2 j u hu)
  have hm4 : 0 + L ≤ maxLen := by unfold maxLen; omega
  have hm5 : (0 + L) * 56 ≤ 140737488355328 := by omega
  have hm6 : w.heap.size + 1 + 1 + 1 ≤ (W0.alloc (.cells #[] 54)).heap.size := by simp; omega
  have hrow : ∀ r, Value.ownBlock (.slice (some ⟨w.heap.size + 1 + 1 + 1, 0, none⟩) 0 0) = some r → w.heap.size ≤ r := fun r hr => by
    have := Option.some.inj (show some (w.heap.size + 1 + 1 + 1) = some r from hr)
    omega
  have hrow2 : ∀ k, k < W0.heap.size → some k ≠ Value.ownBlock (.slice (some ⟨w.heap.size + 1 + 1 + 1, 0, none⟩) 0 0) := fun k hk e => by
    have := Option.some.inj (show some k = some (w.heap.size + 1 + 1 + 1) from e)
    omega
  have hgz : W0.heap.size = w.heap.size + 1 + 1 + 1 := hWz
  obtain ⟨a0, a1, a2, a3, _⟩ := cells4 U0.body
  have aa := fun o : Obj => (cells4 (box_far4 (o := o) U0.body)).2.2.2.1
  clear hWz
  go_enter Tryz.func63, Tryz.ntmps63
  go_wp2_with (at_builtin; (refine wpList_append_own_at _ rfl _ _ 52 rfl (w.heap.size + 1 + 1 + 1) 54 i0 _ 4 56 Tryz.underlying52 hi hj0 hj1 hj2 rfl (by decide) _ _ _ rfl own0 ⟨g, 0, none⟩ L cap news rfl n1 ncell n3 hm4 hm5 hm6 ?_); intro v1 w1 hown hgrow hnil hwhere; (simp only [Nat.zero_add, List.nil_append] at hown); (obtain ⟨gl, cl, rfl, hgl1, hgl2⟩ := own_shape4 hown (fun e => by have := (hnil.1 e).1; cases this)); (have hB1 : Below w.heap.size w w1 := below_row4 (hB0.alloc hB0.size _) hgrow hrow); (have hz1 : W0.heap.size + 1 ≤ w1.heap.size := by (have := hgrow.size; simpa using this)); (have hsame : ∀ k, k < W0.heap.size → w1.heap[k]? = W0.heap[k]? := fun k hk => (hgrow.block k (by simp; omega) (hrow2 k hk)).trans (alloc_far _ _ hk)); (have U1 : UnW w kd nu ⟨ns.toArray⟩ (some ⟨g, 0, none⟩) L cap y0 y1 y2 y3 y4 y5 w1 := ⟨(hsame _ (by omega)).trans U0.body, (hsame _ (by omega)).trans U0.put, (hsame _ (by omega)).trans U0.res, hB1, by omega⟩); (have hLcl := own_cap hown); (obtain ⟨cur, hcur, hcv⟩ := row_obj hown); (obtain ⟨c0, c1, c2, c3, d0, d1, d2, d3⟩ := cells4 U1.body); (clear hown hgrow hnil hwhere own0 ncell U0))
  have U2 := U1.kids (some ⟨gl, 0, none⟩) L cl
  have hcur2 : (w1.setCell ⟨w.heap.size, 3, none⟩ (.slice (some ⟨gl, 0, none⟩) L cl)).heap[gl]? = some (.cells cur 54 (0, 0)) := (Below.heap_setCell _ _ _ _ (by show gl ≠ w.heap.size; omega)).trans hcur
  have hz2 : (w1.setCell ⟨w.heap.size, 3, none⟩ (.slice (some ⟨gl, 0, none⟩) L cl)).heap.size = w1.heap.size := by simp [World.setCell]
  rw [← hz2] at hgl2
  clear c0 c1 c2 c3 d0 d1 d2 d3 U1 hcur hB1 hB0 hsame hz1
  generalize (w1.setCell ⟨w.heap.size, 3, none⟩ (.slice (some ⟨gl, 0, none⟩) L cl)) = W2 at *
  have B2 := U2.below
  have hz3 := U2.size
  obtain ⟨c0, c1, c2, c3, d0, d1, d2, d3⟩ := cells4 U2.body
  obtain ⟨b0, b1, b2, b3, _⟩ := cells4 U2.put
  have hrow : ∀ j, j < L * 4 → W2.cell? ⟨gl, j, none⟩ = some (c j) := fun j hj => by simp [World.cell?, hcur2, hcv j (c j) (HN4.out j (by rw [HL.out]; exact hj))]
  have hfz : ∀ j, W2.frozen? ⟨gl, j, none⟩ = false := fun j => by simp [World.frozen?, hcur2]
  have hks := HK.out i s HS.out
  obtain ⟨k0, k1, k2, k3, k4, k5, hk⟩ := hks.junk
  have hkR : Rep S w s (.agg #[.int .u8 k0, .int .i64 k1, .string k2, .slice k3 k4 k5]) := by rw [← hk]; exact hks
  unfold four at hk
  simp only [Value.agg.injEq, Array.mk.injEq, List.cons.injEq, and_true] at hk
  obtain ⟨j0, j1, j2, j3⟩ := hk
  have e0 : W2.cell? ⟨gl, i * 4, none⟩ = some (.int .u8 k0) := by rw [hrow _ (by omega), Nat.mul_comm i 4, j0]
  have e1 : W2.cell? ⟨gl, i * 4 + 1, none⟩ = some (.int .i64 k1) := by rw [hrow _ (by omega), Nat.mul_comm i 4, j1]
  have e2 : W2.cell? ⟨gl, i * 4 + 2, none⟩ = some (.string k2) := by rw [hrow _ (by omega), Nat.mul_comm i 4, j2]
  have e3 : W2.cell? ⟨gl, i * 4 + 3, none⟩ = some (.slice k3 k4 k5) := by rw [hrow _ (by omega), Nat.mul_comm i 4, j3]
  have hpath : W2.cell? ⟨g', o, none⟩ = some (.int .i64 (i : Int)) := (B2.cell (p := ⟨g', o, none⟩) hg'1).trans hpc
  have hI0 : (0 : Int) ≤ (i : Int) := by omega
  have hI1 : (i : Int) < (L : Int) := by omega
  have hI2 : (0 : Int) < (p.length : Int) + 1 := by omega
  have hI3 : (1 : Int) ≤ (p.length : Int) + 1 := by omega
  have hI4 : (p.length : Int) + 1 ≤ (cp : Int) := by omega
  have hPT : PathO W2 (if cp = 1 then some ⟨g', o, none⟩ else some ⟨g', o + 1, none⟩) p := fun j u hj => by
    have hjl := (List.getElem?_eq_some_iff.1 hj).1
    obtain ⟨g2, o2, h1, h2, h3⟩ := HPO.out (j + 1) u (by simpa using hj)
    injection h1 with h1
    injection h1 with h1 h4 _
    subst h1
    subst h4
    refine ⟨g', o + 1, by rw [if_neg (by omega)], by have := B2.size; omega, ?_⟩
    rw [show o + 1 + j = o + (j + 1) by omega]
    exact (B2.cell (p := ⟨g', o + (j + 1), none⟩) h2).trans h3
  obtain ⟨A, hA⟩ : ∃ A, (if cp = 1 then some (⟨g', o, none⟩ : Addr) else some ⟨g', o + 1, none⟩) = A := ⟨_, rfl⟩
  rw [hA] at hPT
  have hS2 : ∀ g, S g → W2.heap[g]? = w.heap[g]? := fun g hg => B2.block g (hS g hg)
  have KW : ∀ W, Below W2.heap.size W2 W → Calls Tryz.prog 63 #[.agg #[.int .u8 k0, .int .i64 k1, .string k2, .slice k3 k4 k5], .slice A p.length (cp - 1), .agg #[.int .u8 y0, .int .i64 y1, .string y2, .slice y3 y4 y5]] W fun e W' =>
      ∃ (z0 z1 : Int) (z2 : ByteArray) (z3 : Option Addr) (z4 z5 : Nat), e = .returned (.agg #[.int .u8 z0, .int .i64 z1, .string z2, .slice z3 z4 z5]) ∧ Below W2.heap.size W2 W' ∧ Rep (fun g => S g ∨ New W2 W' g) W' (withAt s p x) (.agg #[.int .u8 z0, .int .i64 z1, .string z2, .slice z3 z4 z5]) := fun W hW =>
    (ih S s x _ _ A (cp - 1) W hokp (fun g hg => by have := hS g hg; have := hW.size; have := B2.size; omega) (hkR.keep (fun g hg => (hW.block g (by have := hS g hg; have := B2.size; omega)).trans (hS2 g hg)) (fun g hg => hg)) (HX.out.keep (fun g hg => (hW.block g (by have := hS g hg; have := B2.size; omega)).trans (hS2 g hg)) (fun g hg => hg)) (hPT.keep hW) (by omega) (by omega)).mono fun e W' h => by
      obtain ⟨v, he, hb, hr⟩ := h
      obtain ⟨z0, z1, z2, z3, z4, z5, rfl⟩ := hr.junk
      exact ⟨z0, z1, z2, z3, z4, z5, he, hW.trans (hb.mono hW.size), hr.keep (fun _ _ => rfl) (fun g hg => hg.imp id (fun h => ⟨by have := h.1; have := hW.size; omega, h.2⟩))⟩
  have LB : ∀ W, Below W2.heap.size W2 W → W.cell? ⟨w.heap.size, 3, none⟩ = some (.slice (some ⟨gl, 0, none⟩) L cl) ∧ W.cell? ⟨g', o, none⟩ = some (.int .i64 (i : Int)) ∧ W.cell? ⟨w.heap.size + 1, 0, none⟩ = some (.int .u8 y0) ∧ W.cell? ⟨w.heap.size + 1, 1, none⟩ = some (.int .i64 y1) ∧ W.cell? ⟨w.heap.size + 1, 2, none⟩ = some (.string y2) ∧ W.cell? ⟨w.heap.size + 1, 3, none⟩ = some (.slice y3 y4 y5) := fun W hW =>
    ⟨(hW.cell (p := ⟨w.heap.size, 3, none⟩) (by show w.heap.size < _; omega)).trans c3, (hW.cell (p := ⟨g', o, none⟩) (by show g' < _; omega)).trans hpath, (hW.cell (p := ⟨w.heap.size + 1, 0, none⟩) (by show w.heap.size + 1 < _; omega)).trans b0, (hW.cell (p := ⟨w.heap.size + 1, 1, none⟩) (by show w.heap.size + 1 < _; omega)).trans b1, (hW.cell (p := ⟨w.heap.size + 1, 2, none⟩) (by show w.heap.size + 1 < _; omega)).trans b2, (hW.cell (p := ⟨w.heap.size + 1, 3, none⟩) (by show w.heap.size + 1 < _; omega)).trans b3⟩
  have hglw : gl ≠ w.heap.size := by omega
  have hglS : ¬ S gl := fun h => by have := hS gl h; omega
  have hglw1 : gl ≠ w.heap.size + 1 := by omega
  have hglg : gl ≠ g' := by omega
  have HRW := Lib.hid hrow
  have HFZ := Lib.hid hfz
  have HCU := Lib.hid hcur2
  clear hrow hfz hcur2 hcv hks hkR hS2 hPT
  refine wp_region_held_drew (S := (fun w' => w'.cell? ⟨w.heap.size, 3, none⟩ = some (.slice (some ⟨gl, 0, none⟩) L cl) ∧ w'.cell? ⟨g', o, none⟩ = some (.int .i64 (i : Int)) ∧ w'.cell? ⟨w.heap.size + 1, 0, none⟩ = some (.int .u8 y0) ∧ w'.cell? ⟨w.heap.size + 1, 1, none⟩ = some (.int .i64 y1) ∧ w'.cell? ⟨w.heap.size + 1, 2, none⟩ = some (.string y2) ∧ w'.cell? ⟨w.heap.size + 1, 3, none⟩ = some (.slice y3 y4 y5))) (by kernel_rfl) ?_ (fun hHeld => ?_)
  · first | (refine LB _ ?_; solve | (repeat' (first | assumption | exact Below.refl _ _ | refine Below.drew ?_))) | (refine ⟨?_, ?_, ?_, ?_, ?_, ?_⟩ <;> (rw [World.cell?_setCell_other _ _ _ _ (by first | (simp; done) | (simp; omega)), World.cell?_setCell_other _ _ _ _ (by first | (simp; done) | (simp; omega)), World.cell?_setCell_other _ _ _ _ (by first | (simp; done) | (simp; omega)), World.cell?_setCell_other _ _ _ _ (by first | (simp; done) | (simp; omega))]; assumption))
  refine wpAnyH_take (i := 0) (v := ?_) rfl (by kernel_rfl) (by kernel_rfl) (by kernel_rfl) (fun _ _ _ h => h) (Or.inl ⟨by rfl, ?_⟩) (by assumption) ?_
  rotate_left 1
  · intro w' hSw
    (try dsimp only at hSw)
    go_simp
    try with_reducible rfl
  try simp only [Act.put, List.setIfInBounds_toArray]
  refine wpAnyH_take (i := 1) (v := ?_) rfl (by kernel_rfl) (by kernel_rfl) (by kernel_rfl) (fun _ _ _ h => h) (Or.inl ⟨by rfl, ?_⟩) (by assumption) ?_
  rotate_left 1
  · intro w' hSw
    (try dsimp only at hSw)
    go_simp
    try with_reducible rfl
  try simp only [Act.put]
  refine wpAnyH_take (i := 2) (v := ?_) rfl (by kernel_rfl) (by kernel_rfl) (by kernel_rfl) (fun _ _ _ h => h) (Or.inl ⟨by rfl, ?_⟩) (by assumption) ?_
  rotate_left 1
  · intro w' hSw
    (try dsimp only at hSw)
    go_simp
    try with_reducible rfl
  try simp only [Act.put]
  refine wpAnyH_take (i := 3) (v := ?_) rfl (by kernel_rfl) (by kernel_rfl) (by kernel_rfl) (fun _ _ _ h => h) (Or.inl ⟨by rfl, ?_⟩) (by assumption) ?_
  rotate_left 1
  · intro w' hSw
    (try dsimp only at hSw)
    go_simp
    try with_reducible rfl
  try simp only [Act.put]
  refine wpAnyH_take (i := 4) (v := ?_) rfl (by kernel_rfl) (by kernel_rfl) (by kernel_rfl) (fun _ _ _ h => h) (Or.inl ⟨by rfl, ?_⟩) (by assumption) ?_
  rotate_left 1
  · intro w' hSw
    (try dsimp only at hSw)
    go_simp
    try with_reducible rfl
  try simp only [Act.put]
  refine wpAnyH_take (i := 5) (v := ?_) rfl (by kernel_rfl) (by kernel_rfl) (by kernel_rfl) (fun _ _ _ h => h) (Or.inl ⟨by rfl, ?_⟩) (by assumption) ?_
  rotate_left 1
  · intro w' hSw
    (try dsimp only at hSw)
    go_simp
    try with_reducible rfl
  try simp only [Act.put]
  refine wpAnyH_take (i := 6) (v := ?_) rfl (by kernel_rfl) (by kernel_rfl) (by kernel_rfl) (fun _ _ _ h => h) (Or.inl ⟨by rfl, ?_⟩) (by assumption) ?_
  rotate_left 1
  · intro w' hSw
    (try dsimp only at hSw)
    go_simp
    try with_reducible rfl
  try simp only [Act.put]
  refine wpAnyH_take (i := 7) (v := ?_) rfl (by kernel_rfl) (by kernel_rfl) (by kernel_rfl) (fun _ _ _ h => h) (Or.inl ⟨by rfl, ?_⟩) (by assumption) ?_
  rotate_left 1
  · intro w' hSw
    (try dsimp only at hSw)
    go_simp
    try with_reducible rfl
  try simp only [Act.put]
  refine wpAnyH_take (i := 8) (v := ?_) rfl (by kernel_rfl) (by kernel_rfl) (by kernel_rfl) (fun _ _ _ h => h) (Or.inl ⟨by rfl, ?_⟩) (by assumption) ?_
  rotate_left 1
  · intro w' hSw
    (try dsimp only at hSw)
    go_simp
    try with_reducible rfl
  try simp only [Act.put]
  refine wpAnyH_take (i := 9) (v := ?_) rfl (by kernel_rfl) (by kernel_rfl) (by kernel_rfl) (fun _ _ _ h => h) (Or.inl ⟨by rfl, ?_⟩) (by assumption) ?_
  rotate_left 1
  · intro w' hSw
    (try dsimp only at hSw)
    go_simp
    try with_reducible rfl
  try simp only [Act.put]
  refine wpAnyH_take (i := 10) (v := ?_) rfl (by kernel_rfl) (by kernel_rfl) (by kernel_rfl) (fun _ _ _ h => h) (Or.inl ⟨by rfl, ?_⟩) (by assumption) ?_
  rotate_left 1
  · intro w' hSw
    (try dsimp only at hSw)
    go_simp
    try with_reducible rfl
  try simp only [Act.put]
  refine wpAnyH_take (i := 12) (v := ?_) rfl (by kernel_rfl) (by kernel_rfl) (by kernel_rfl) (fun _ _ _ h => h) (Or.inl ⟨by rfl, ?_⟩) (by assumption) ?_
  rotate_left 1
  · intro w' hSw
    (try dsimp only at hSw)
    go_simp
    try with_reducible rfl
  try simp only [Act.put]
  refine wpAnyH_take (i := 13) (v := ?_) rfl (by kernel_rfl) (by kernel_rfl) (by kernel_rfl) (fun _ _ _ h => h) (Or.inl ⟨by rfl, ?_⟩) (by assumption) ?_
  rotate_left 1
  · intro w' hSw
    (try dsimp only at hSw)
    go_simp
    try with_reducible rfl
  try simp only [Act.put]
  refine wpAnyH_take (i := 14) (v := ?_) rfl (by kernel_rfl) (by kernel_rfl) (by kernel_rfl) (fun _ _ _ h => h) (Or.inl ⟨by rfl, ?_⟩) (by assumption) ?_
  rotate_left 1
  · intro w' hSw
    (try dsimp only at hSw)
    go_simp
    try with_reducible rfl
  try simp only [Act.put]
  refine wpAnyH_ready (rs := [11]) (by kernel_rfl) (by simp) ?_
  refine AllReadyH.cons rfl (fun K hK => ?_) AllReadyH.nil
  go_simp
  refine hK.out _ _ ?_ (fun hHeld2 => ?_)
  · first | (refine LB _ ?_; solve | (repeat' (first | assumption | exact Below.refl _ _ | refine Below.drew ?_))) | (refine ⟨?_, ?_, ?_, ?_, ?_, ?_⟩ <;> (rw [World.cell?_setCell_other _ _ _ _ (by first | (simp; done) | (simp; omega)), World.cell?_setCell_other _ _ _ _ (by first | (simp; done) | (simp; omega)), World.cell?_setCell_other _ _ _ _ (by first | (simp; done) | (simp; omega)), World.cell?_setCell_other _ _ _ _ (by first | (simp; done) | (simp; omega))]; assumption))
  clear hK K
  try simp only [Act.put, List.setIfInBounds_toArray, List.set_cons_zero, List.set_cons_succ]
  refine wpAnyH_ready (rs := [15]) (by kernel_rfl) (by simp) ?_
  refine AllReadyH.cons rfl (fun K hK => ?_) AllReadyH.nil
  go_simp
  go_at_call 63; refine (KW _ ?_).mono ?_; (solve | (repeat' (first | assumption | exact Below.refl _ _ | refine Below.drew ?_))); rintro e w3 ⟨z0, z1, z2, z3, z4, z5, rfl, hb3, hr3⟩; obtain ⟨x0, x1, x2, x3, x4, x5⟩ := LB w3 hb3; have m0 := (hb3.cell (p := ⟨gl, i * 4, none⟩) hgl2).trans e0; have m1 := (hb3.cell (p := ⟨gl, i * 4 + 1, none⟩) hgl2).trans e1; have m2 := (hb3.cell (p := ⟨gl, i * 4 + 2, none⟩) hgl2).trans e2; have m3 := (hb3.cell (p := ⟨gl, i * 4 + 3, none⟩) hgl2).trans e3; have f0 := (World.frozen?_of_block (a := ⟨gl, i * 4, none⟩) (hb3.block gl hgl2)).trans (HFZ.out _); have f1 := (World.frozen?_of_block (a := ⟨gl, i * 4 + 1, none⟩) (hb3.block gl hgl2)).trans (HFZ.out _); have f2 := (World.frozen?_of_block (a := ⟨gl, i * 4 + 2, none⟩) (hb3.block gl hgl2)).trans (HFZ.out _); have f3 := (World.frozen?_of_block (a := ⟨gl, i * 4 + 3, none⟩) (hb3.block gl hgl2)).trans (HFZ.out _)
  go_wp2_with fail
  refine hK.out _ _ ?_ (fun hHeld3 => ?_)
  · first | (refine LB _ ?_; solve | (repeat' (first | assumption | exact Below.refl _ _ | refine Below.drew ?_))) | (refine ⟨?_, ?_, ?_, ?_, ?_, ?_⟩ <;> (rw [World.cell?_setCell_other _ _ _ _ (by first | (simp; done) | (simp; omega)), World.cell?_setCell_other _ _ _ _ (by first | (simp; done) | (simp; omega)), World.cell?_setCell_other _ _ _ _ (by first | (simp; done) | (simp; omega)), World.cell?_setCell_other _ _ _ _ (by first | (simp; done) | (simp; omega))]; assumption))
  clear hK K
  try simp only [Act.put, List.setIfInBounds_toArray, List.set_cons_zero, List.set_cons_succ]
  refine wpAnyH_take (i := 16) (v := ?_) rfl (by kernel_rfl) (by kernel_rfl) (by kernel_rfl) (fun _ _ _ h => h) (Or.inl ⟨by rfl, ?_⟩) (by assumption) ?_
  rotate_left 1
  · intro w' hSw
    (try dsimp only at hSw)
    go_simp
    try with_reducible rfl
  try simp only [Act.put, List.setIfInBounds_toArray]
  refine wpAnyH_ready (rs := [17]) (by kernel_rfl) (by simp) ?_
  refine AllReadyH.cons rfl (fun K hK => ?_) AllReadyH.nil
  go_simp
  refine hK.out _ _ ?_ (fun hHeld4 => ?_)
  · first | (refine LB _ ?_; solve | (repeat' (first | assumption | exact Below.refl _ _ | refine Below.drew ?_))) | (refine ⟨?_, ?_, ?_, ?_, ?_, ?_⟩ <;> (rw [World.cell?_setCell_other _ _ _ _ (by first | (simp; done) | (simp; omega)), World.cell?_setCell_other _ _ _ _ (by first | (simp; done) | (simp; omega)), World.cell?_setCell_other _ _ _ _ (by first | (simp; done) | (simp; omega)), World.cell?_setCell_other _ _ _ _ (by first | (simp; done) | (simp; omega))]; assumption))
  clear hK K
  try simp only [Act.put, List.setIfInBounds_toArray, List.set_cons_zero, List.set_cons_succ]
  refine wpAnyH_done (by kernel_rfl) ?_ _
  all_goals
    have U4 : UnW w kd nu ⟨ns.toArray⟩ (some ⟨gl, 0, none⟩) L cl y0 y1 y2 y3 y4 y5 (set4o w3 gl (i * 4) (.int .u8 z0) (.int .i64 z1) (.string z2) (.slice z3 z4 z5)) := by
      have U3 := U2.keep hb3
      exact ⟨(set4o_far _ _ _ _ _ _ _ _ (Ne.symm hglw)).trans U3.body, (set4o_far _ _ _ _ _ _ _ _ (Ne.symm hglw1)).trans U3.put, (set4o_far _ _ _ _ _ _ _ _ (by omega)).trans U3.res, set4o_below U3.below (by omega) _ _ _ _, by rw [set4o_size]; exact U3.size⟩
    have hrow4 : ∀ j, j < L * 4 → (j < i * 4 ∨ i * 4 + 4 ≤ j) → (set4o w3 gl (i * 4) (.int .u8 z0) (.int .i64 z1) (.string z2) (.slice z3 z4 z5)).cell? ⟨gl, j, none⟩ = some (c j) := fun j hj hji => set4o_cell ((hb3.cell (p := ⟨gl, j, none⟩) hgl2).trans (HRW.out j hj)) hji
    obtain ⟨n0, nn1, nn2, nn3⟩ := set4o_here (W := w3) (b := gl) (o := i * 4) (z0 := .int .u8 z0) (z1 := .int .i64 z1) (z2 := .string z2) (z3 := .slice z3 z4 z5) m0 m1 m2 m3
    have hz4 : (set4o w3 gl (i * 4) (.int .u8 z0) (.int .i64 z1) (.string z2) (.slice z3 z4 z5)).heap.size = w3.heap.size := set4o_size _ _ _ _ _ _ _
    have hfar4 : ∀ g, g ≠ gl → (set4o w3 gl (i * 4) (.int .u8 z0) (.int .i64 z1) (.string z2) (.slice z3 z4 z5)).heap[g]? = w3.heap[g]? := fun g hg => set4o_far _ _ _ _ _ _ _ g hg
    have hs3 := hb3.size
    clear x0 x1 x2 x3 x4 x5 m0 m1 m2 m3 f0 f1 f2 f3 c0 c1 c2 c3 d0 d1 d2 d3 b0 b1 b2 b3
    dsimp only [set4o] at U4 hrow4 n0 nn1 nn2 nn3 hz4 hfar4
    generalize (((w3.setCell ⟨gl, i * 4, none⟩ (.int .u8 z0)).setCell ⟨gl, i * 4 + 1, none⟩ (.int .i64 z1)).setCell ⟨gl, i * 4 + 2, none⟩ (.string z2)).setCell ⟨gl, i * 4 + 3, none⟩ (.slice z3 z4 z5) = W4 at *
    obtain ⟨q0, q1, q2, q3, _⟩ := cells4 U4.body
    obtain ⟨r0, r1, r2, r3, f0, f1, f2, f3⟩ := cells4 U4.res
    go_wp2_with fail
    refine bodyPost_ret (v := .agg #[.int .u8 kd, .int .i64 nu, .string ⟨ns.toArray⟩, .slice (some ⟨gl, 0, none⟩) L cl]) (by simp [results, Tryz.results63, go_sem, r0, r1, r2, r3]) rfl ?_
    refine ⟨_, rfl, set4_below U4.below (by omega) _ _ _ _, ?_⟩
    have hfar5 : ∀ g, g ≠ w.heap.size + 1 + 1 → (set4 W4 (w.heap.size + 1 + 1) (.int .u8 kd) (.int .i64 nu) (.string ⟨ns.toArray⟩) (.slice (some ⟨gl, 0, none⟩) L cl)).heap[g]? = W4.heap[g]? := fun g hg => set4_far _ _ _ _ _ _ g hg
    have hz5 : (set4 W4 (w.heap.size + 1 + 1) (.int .u8 kd) (.int .i64 nu) (.string ⟨ns.toArray⟩) (.slice (some ⟨gl, 0, none⟩) L cl)).heap.size = W4.heap.size := set4_size _ _ _ _ _ _
    dsimp only [set4] at hfar5 hz5
    generalize (((W4.setCell ⟨w.heap.size + 1 + 1, 0, none⟩ (.int .u8 kd)).setCell ⟨w.heap.size + 1 + 1, 1, none⟩ (.int .i64 nu)).setCell ⟨w.heap.size + 1 + 1, 2, none⟩ (.string ⟨ns.toArray⟩)).setCell ⟨w.heap.size + 1 + 1, 3, none⟩ (.slice (some ⟨gl, 0, none⟩) L cl) = W5 at *
    exact with_rep HTK.out HT1.out HT2.out HT3.out HL.out hil (by omega) ⟨by omega, hgl2⟩ ⟨hs3, by omega⟩ hglS hS HK.out (fun g hg => (hfar5 g (by have := hS g hg; omega)).trans ((hfar4 g (by have := hS g hg; omega)).trans ((hb3.block g (by have := hS g hg; omega)).trans (B2.block g (hS g hg))))) hr3 (fun g _ h2 h3 => (hfar5 g h2).trans (hfar4 g h3)) (fun j hj hji => (World.cell?_of_block (a := ⟨gl, j, none⟩) (hfar5 gl (by omega))).trans (hrow4 j hj hji)) ⟨(World.cell?_of_block (a := ⟨gl, i * 4, none⟩) (hfar5 gl (by omega))).trans n0, (World.cell?_of_block (a := ⟨gl, i * 4 + 1, none⟩) (hfar5 gl (by omega))).trans nn1, (World.cell?_of_block (a := ⟨gl, i * 4 + 2, none⟩) (hfar5 gl (by omega))).trans nn2, (World.cell?_of_block (a := ⟨gl, i * 4 + 3, none⟩) (hfar5 gl (by omega))).trans nn3⟩ hLcl (by omega)
theorem withAt_c : ∀ p, WithC p
  | [] => with_nil
  | i :: p => with_cons i p (withAt_c p)
end Go.Proofs.YtefmmgccdpfnaaaGreatDoor
