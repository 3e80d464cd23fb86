import Derived.Test.YtcabmcpalgpfpaaRnA
import Derived.Test.YtcabmcpalgpfpaaMPe
import Derived.Test.YtcabmcpalgpfpaaPtD
import Derived.Deep.AppendLies
import Derived.Deep.RegionLaw
/- Rename, purely: what the specification makes of a binder. -/
namespace Go.Proofs.Ytcabmcpalgpfpaa
open Go.RowKit
open Ff
set_option linter.unusedVariables false

theorem swap_len (ns : Text) (x y : UInt8) : (swap ns x y).length = ns.length := by simp [swap]
theorem swap_self (ns : Text) (x : UInt8) : swap ns x x = ns := by
  unfold swap
  conv => rhs; rw [← List.map_id ns]
  apply List.map_congr_left
  intro c _
  by_cases h : c = x <;> simp [h]
/-- The names made so far, one more. -/
theorem swap_snoc {ns : Text} {k : Nat} {c : UInt8} (h : ns[k]? = some c) (x y : UInt8) : (swap ns x y).take (k + 1) = (swap ns x y).take k ++ [if c = x then y else c] := by
  apply take_snoc
  simp [swap, h]
theorem withNB_kids {t : Tm} (hb : bindsOf t ≠ []) (ns : Text) (b : Tm) : (withNB t ns b).kids = t.kids.dropLast ++ [b] := by
  cases t <;> first | exact absurd rfl hb | simp [withNB, Tm.kids]
theorem withNB_kind {t : Tm} (hb : bindsOf t ≠ []) (ns : Text) (b : Tm) : kindOf (withNB t ns b) = kindOf t ∧ numOf (withNB t ns b) = numOf t := by
  cases t <;> first | exact absurd rfl hb | exact ⟨rfl, rfl⟩
theorem withNB_names {t : Tm} (hb : bindsOf t ≠ []) {ns : Text} (h : ns.length = (bindsOf t).length) (b : Tm) : namesOf (withNB t ns b) = ns := by
  cases t with
  | fn c s =>
    obtain ⟨c', e⟩ := one_of h
    subst e; rfl
  | bind c v s =>
    obtain ⟨c', e⟩ := one_of h
    subst e; rfl
  | fix f c s =>
    obtain ⟨f', c', e⟩ := two_of' h
    subst e; rfl
  | num _ => exact absurd rfl hb
  | var _ => exact absurd rfl hb
  | app _ _ => exact absurd rfl hb
  | op _ _ _ => exact absurd rfl hb
  | sel _ _ _ => exact absurd rfl hb
/-- A name put for itself: the same term. -/
theorem renT_self {t : Tm} (hb : bindsOf t ≠ []) (x : UInt8) : renT t x x = (t, true) := by
  unfold renT
  rw [swap_self, subS_self]
  exact Prod.ext (withNB_self hb) rfl
/-- What Rename comes to, with no way of its own for a name that is the same. -/
theorem renO_eq {s n m : Text} {t : Tm} {x y : UInt8} (hs : readS s = some t) (hn : nameOf n = some x) (hm : nameOf m = some y) :
    renO s n m = if x ∉ bindsOf t ∨ (x ≠ y ∧ (y ∈ bindsOf t ∨ cntF (lastK t) y ≠ 0)) ∨ (renT t x y).2 = false then none else some (renT t x y).1 := by
  unfold renO
  rw [hs, hn, hm]
  simp only [Option.bind_some]
  by_cases h1 : x ∈ bindsOf t
  · have hb : bindsOf t ≠ [] := by intro e; rw [e] at h1; cases h1
    by_cases h2 : x = y
    · subst h2
      simp [h1, renT_self hb]
    · by_cases h3 : y ∈ bindsOf t
      · simp [h1, h2, h3]
      · by_cases h4 : cntF (lastK t) y = 0
        · cases (renT t x y).2 <;> simp [h1, h2, h3, h4]
        · simp [h1, h2, h3, h4]
  · simp [h1]
end Go.Proofs.Ytcabmcpalgpfpaa

/- What the specification's Rename builds: a row of kids, appended to twice in a region that draws its order; the term that is then told. -/
namespace Go.Proofs.Ytcabmcpalgpfpaa
open Go.RowKit
open Ff
set_option linter.unusedVariables false

/-- A step of a region that draws: append to a row of the call's own. -/
theorem step_append_row {P : Program} {w : World} {ops : Array Oper} {o : Oper} {a : Act} {K : Act → World → Prop} {Q : Exit → Act → World → Prop} {E : Prop} (hgd : o.guard = none) (s x : Operand) (t : TypeId)
    (ho : o.op = .call { callee := .builtin .append, args := #[s, x], argTypes := #[t, t] })
    (base : Nat) (e : TypeId) (i : TypeInfo) (z : Value) (size bytes : Nat) (ht : P.underlying t = some (.slice e)) (hi : P.info? e = some i) (hz : i.zero = some z)
    (hsize : i.size = size) (hby : i.bytes = bytes) (hzs : z.cells.size = size) (hsz : 0 < size)
    (v : Value) (n : Nat) (xs : List Value) (hs : a.eval s = v) (hown : w.ownsRow base e size v n xs)
    (ad : Addr) (m c : Nat) (news : List Value) (hx : a.eval x = .slice (some ad) m c) (hl : news.length = m * size) (hnews : ∀ j u, news[j]? = some u → w.cell? (ad.add j) = some u) (h1 : ∀ u ∈ news, u.oneCell' = true)
    (h63 : n + m ≤ maxLen) (hbytes : (n + m) * bytes ≤ 140737488355328) (hbase : base ≤ w.heap.size)
    (h : ∀ v' w', w'.ownsRow base e size v' (n + m) (xs ++ news) → w.grownBy w' v.ownBlock → (v' = .slice none 0 0 ↔ v = .slice none 0 0 ∧ m = 0) → (v'.ownBlock = v.ownBlock ∨ v'.ownBlock = some w.heap.size) → K (a.put o.dst v') w') :
    if Region.wanted o (yielded ops a.tmps) = true then Oper.wp P o a w K Q else E := by
  have hw : Region.wanted o (yielded ops a.tmps) = true := by simp [Region.wanted, hgd]
  rw [if_pos hw]
  obtain ⟨v', w', hr, h2, h3, h4, h5⟩ := run_append_own_at (P := P) w base t o.type e i z size bytes ht hi hz hsize hby hzs hsz v n xs hown ad m c news hl hnews h1 h63 hbytes hbase
  unfold Oper.wp execOp
  simp only [ho, resolve, invoke, builtin, Sem.run_bind, Sem.run_pure, Result.andThen_ok, List.map_toArray, List.map_cons, List.map_nil, hs, hx, hr]
  exact h v' w' h2 h3 h4 h5
/-- The cells of all kids but the last. -/
theorem front_cells {S : Nat → Prop} {w : World} {t : Tm} {g m : Nat} {c : Nat → Value} (hc : ∀ k, k < 4 * t.kids.length → w.cell? ⟨g, k, none⟩ = some (c k)) (hr : ∀ i s, t.kids[i]? = some s → Rep S w s (four c i)) (hm : t.kids.length = m + 1) :
    ∃ news : List Value, news.length = m * 4 ∧ (∀ j u, news[j]? = some u → w.cell? ⟨g, j, none⟩ = some u) ∧ (∀ u ∈ news, u.oneCell' = true) ∧ ∀ i s, t.kids.dropLast[i]? = some s → Rep S w s (four (fun j => (news[j]?).getD undef) i) := by
  have hat : ∀ j, j < m * 4 → ((List.range (m * 4)).map c)[j]? = some (c j) := fun j hj => by simp [hj]
  refine ⟨(List.range (m * 4)).map c, by simp, fun j u hu => ?_, fun u hu => ?_, fun i s hs => ?_⟩
  · have hj : j < m * 4 := by
      have := (List.getElem?_eq_some_iff.1 hu).1
      simpa using this
    rw [hat j hj] at hu
    injection hu with hu
    subst hu
    exact hc j (by omega)
  · simp only [List.mem_map, List.mem_range] at hu
    obtain ⟨j, hj, rfl⟩ := hu
    obtain ⟨s, hs⟩ : ∃ s, t.kids[j / 4]? = some s := ⟨_, List.getElem?_eq_getElem (by omega)⟩
    obtain ⟨y0, y1, y2, y3, y4, y5, he⟩ := (hr _ s hs).junk
    unfold four at he
    simp only [Value.agg.injEq, Array.mk.injEq, List.cons.injEq, and_true] at he
    obtain ⟨i0, i1, i2, i3⟩ := he
    have hd : j = 4 * (j / 4) ∨ j = 4 * (j / 4) + 1 ∨ j = 4 * (j / 4) + 2 ∨ j = 4 * (j / 4) + 3 := by omega
    rcases hd with h | h | h | h <;> rw [h]
    · rw [i0]; rfl
    · rw [i1]; rfl
    · rw [i2]; rfl
    · rw [i3]; rfl
  · have hi : i < m := by
      have := (List.getElem?_eq_some_iff.1 hs).1
      simp at this
      omega
    rw [List.getElem?_dropLast, if_pos (by omega)] at hs
    have e : four (fun j => (((List.range (m * 4)).map c)[j]?).getD undef) i = four c i := by
      unfold four
      simp only [hat (4 * i) (by omega), hat (4 * i + 1) (by omega), hat (4 * i + 2) (by omega), hat (4 * i + 3) (by omega), Option.getD_some]
    rw [e]
    exact hr i s hs
theorem add_block (B j : Nat) : ((⟨B, 0, none⟩ : Addr).add j).block = B := by rw [Addr.add_lit]
theorem own_shape3 {W : World} {base : Nat} {e : TypeId} {size : Nat} {v : Value} {n : Nat} {xs : List Value} (h : W.ownsRow base e size v n xs) (hv : v ≠ .slice none 0 0) : ∃ g cap, v = .slice (some ⟨g, 0, none⟩) n cap ∧ base ≤ g ∧ g < W.heap.size := by
  obtain ⟨_, ⟨h1, _⟩ | ⟨g, cap, cur, h1, h2, h3, _⟩⟩ := h
  · exact absurd h1 hv
  · exact ⟨g, cap, h1, h2, (Array.getElem?_eq_some_iff.1 h3).1⟩
theorem lit_own (W : World) (B : Nat) (hB : B ≤ W.heap.size) : (W.alloc (.cells #[] 27)).ownsRow B 27 4 (.slice (some ⟨W.heap.size, 0, none⟩) 0 0) 0 [] :=
  World.ownsRow_lit W #[] 0 hB (by simp [maxLen]) (by simp)
theorem below_row {w W W' : World} {row : Option Nat} (h : Below w.heap.size w W) (hg : W.grownBy W' row) (hr : ∀ r, row = some r → w.heap.size ≤ r) : Below w.heap.size w W' :=
  ⟨hg.os.trans h.os, hg.tape.trans h.tape, hg.output.trans h.output, Nat.le_trans h.size hg.size, fun k hk => (hg.block k (by have := h.size; omega) (fun e => by have := hr k e.symm; omega)).trans (h.block k hk)⟩
theorem ba {w W : World} (h : Below w.heap.size w W) (o : Obj) : Below w.heap.size w (W.alloc o) := h.alloc h.size o
/-- The row is made: the term that is told. -/
theorem ren_done {w W9 w5 : World} {P m L cap : Nat} {k n : Int} {st : ByteArray} {ga : Option Addr} {T b : Tm} {l : List Tm} {v5 v0 v1 v2 v3 : Value} {news : List Value} (hB : Below w.heap.size w W9) (hP1 : w.heap.size ≤ P) (hP : P < W9.heap.size) (hbox : W9.heap[P]? = some (tmO k n st ga L cap)) (h5 : Below W9.heap.size W9 w5)
    (hown : w5.ownsRow W9.heap.size 27 4 v5 (m + 1) (news ++ [v0, v1, v2, v3])) (hnl : news.length = m * 4) (hlm : l.length = m)
    (hkids : ∀ i s, l[i]? = some s → Rep (fun g' => g' < W9.heap.size ∧ g' ≠ P) W9 s (four (fun j => (news[j]?).getD undef) i)) (hb : Rep (fun g' => g' < W9.heap.size ∧ g' ≠ P) W9 b (.agg #[v0, v1, v2, v3]))
    (hT : T.kids = l ++ [b]) (hk : (kindOf T : Int) = k) (hn : (numOf T : Int) = n) (hs : (⟨(namesOf T).toArray⟩ : ByteArray) = st) :
    ∃ gl cl, v5 = .slice (some ⟨gl, 0, none⟩) (m + 1) cl ∧ (w5.cell? ⟨P, 0, none⟩ = some (.int .u8 k) ∧ w5.cell? ⟨P, 1, none⟩ = some (.int .i64 n) ∧ w5.cell? ⟨P, 2, none⟩ = some (.string st) ∧ w5.cell? ⟨P, 3, none⟩ = some (.slice ga L cap) ∧ w5.frozen? ⟨P, 3, none⟩ = false) ∧
      Rep (fun g' => g' < w5.heap.size) (w5.setCell ⟨P, 3, none⟩ (.slice (some ⟨gl, 0, none⟩) (m + 1) cl)) T (.agg #[.int .u8 k, .int .i64 n, .string st, .slice (some ⟨gl, 0, none⟩) (m + 1) cl]) ∧ Below w.heap.size w (w5.setCell ⟨P, 3, none⟩ (.slice (some ⟨gl, 0, none⟩) (m + 1) cl)) ∧ (w5.setCell ⟨P, 3, none⟩ (.slice (some ⟨gl, 0, none⟩) (m + 1) cl)).heap.size = w5.heap.size := by
  have hz := h5.size
  obtain ⟨gl, cl, rfl, hg1, hg2⟩ := hown.form (by omega)
  obtain ⟨a0, a1, a2, a3, f0, f1, f2, f3⟩ := cells4 ((h5.block P hP).trans hbox)
  have hzz : (w5.setCell ⟨P, 3, none⟩ (.slice (some ⟨gl, 0, none⟩) (m + 1) cl)).heap.size = w5.heap.size := by simp [World.setCell]
  refine ⟨gl, cl, rfl, ⟨a0, a1, a2, a3, f3⟩, ?_, (hB.trans (h5.mono hB.size)).setCell (p := ⟨P, 3, none⟩) hP1 _, hzz⟩
  have hfar : ∀ g', g' ≠ P → (w5.setCell ⟨P, 3, none⟩ (.slice (some ⟨gl, 0, none⟩) (m + 1) cl)).heap[g']? = w5.heap[g']? := fun g' h => Below.heap_setCell _ _ _ _ (by simpa using h)
  have hK : T.kids.length = m + 1 := by rw [hT]; simp [hlm]
  have R : Rep (fun g' => g' < w5.heap.size) (w5.setCell ⟨P, 3, none⟩ (.slice (some ⟨gl, 0, none⟩) (m + 1) cl)) T (tmHead T gl cl) := by
    have hlen := hown.1
    have hxl : (news ++ [v0, v1, v2, v3]).length = (m + 1) * 4 := by simp [hnl]; omega
    refine .mk T gl cl (fun j => ((news ++ [v0, v1, v2, v3])[j]?).getD undef) hg2 (fun j hj => ?_) (fun i s hi => ?_) (by rw [hK]; exact own_cap hown)
    · rw [hK] at hj
      obtain ⟨y, hy⟩ : ∃ y, (news ++ [v0, v1, v2, v3])[j]? = some y := ⟨_, List.getElem?_eq_getElem (by rw [hxl]; omega)⟩
      have c := hown.cells (g := gl) rfl j y hy
      rw [Addr.add_lit, Nat.zero_add] at c
      rw [World.cell?_of_block (a := ⟨gl, j, none⟩) (hfar gl (by omega)), c, hy]
      rfl
    · rw [hT] at hi
      by_cases hlt : i < m
      · rw [List.getElem?_append_left (by omega)] at hi
        have e : four (fun j => ((news ++ [v0, v1, v2, v3])[j]?).getD undef) i = four (fun j => (news[j]?).getD undef) i := by
          unfold four
          simp only [List.getElem?_append_left (show 4 * i < news.length by omega), List.getElem?_append_left (show 4 * i + 1 < news.length by omega), List.getElem?_append_left (show 4 * i + 2 < news.length by omega), List.getElem?_append_left (show 4 * i + 3 < news.length by omega)]
        rw [e]
        exact (hkids i s hi).keep (fun g' hg' => (hfar g' hg'.2).trans (h5.block g' hg'.1)) (fun g' hg' => by have := hg'.1; omega)
      · have hi0 : i = l.length := by
          have := (List.getElem?_eq_some_iff.1 hi).1
          simp at this
          omega
        subst hi0
        rw [List.getElem?_append_right (Nat.le_refl _)] at hi
        simp only [Nat.sub_self, List.getElem?_cons_zero, Option.some.injEq] at hi
        subst hi
        have e : four (fun j => ((news ++ [v0, v1, v2, v3])[j]?).getD undef) l.length = .agg #[v0, v1, v2, v3] := by
          unfold four
          have e0 : 4 * l.length = news.length := by omega
          simp [e0]
        rw [e]
        exact hb.keep (fun g' hg' => (hfar g' hg'.2).trans (h5.block g' hg'.1)) (fun g' hg' => by have := hg'.1; omega)
  unfold tmHead at R
  rw [hk, hn, hs, hK] at R
  exact R
end Go.Proofs.Ytcabmcpalgpfpaa
