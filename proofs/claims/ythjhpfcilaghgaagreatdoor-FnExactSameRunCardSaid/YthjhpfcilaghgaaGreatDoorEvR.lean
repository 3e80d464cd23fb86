import Derived.Test.YthjhpfcilaghgaaGreatDoorEvE
import Derived.Deep.AppendLies
import Derived.Deep.RegionLaw
import Derived.Deep.RegionHeld3
/- The runner's rows grow: its calls, and what it has enclosed. -/
namespace Go.Proofs.YthjhpfcilaghgaaGreatDoor
open Go.RowKit Go.Shelf
open Ff
set_option linter.unusedVariables false
variable {X : Nat → Prop}
attribute [local irreducible] Calls

theorem nine_block {W : World} {B : Nat} {cs : List Value} {t : TypeId} (h : W.heap[B]? = some (.cells cs.toArray t (0, 0))) : ∀ j u, cs[j]? = some u → W.cell? ((⟨B, 0, none⟩ : Addr).add j) = some u := fun j u hu => by
  rw [show (⟨B, 0, none⟩ : Addr).add j = ⟨B, j, none⟩ by simp [Addr.add]; omega]
  simp [World.cell?, h, hu]
theorem alloc_at (W : World) (o : Obj) : (W.alloc o).heap[W.heap.size]? = some o := World.alloc_heap_new W o
theorem alloc_old {W : World} {o : Obj} {j : Nat} {c : Obj} (h : W.heap[j]? = some c) : (W.alloc o).heap[j]? = some c := by
  rw [Below.heap_alloc _ _ _ (Array.getElem?_eq_some_iff.1 h).1]; exact h
theorem row_not2 {w : World} {r sz : Nat} {cv : Value} {e : TypeId} {n : Nat} {xs : List Value} (h : w.ownsRow (r + 1) e sz cv n xs) : cv.ownBlock ≠ some r := by
  rcases h.2 with ⟨h2, _⟩ | ⟨g, cap, cur, hv, hb, _⟩
  · subst h2; simp [Value.ownBlock]
  · subst hv; simp [Value.ownBlock]; omega
theorem wp_cut {P : Program} {c : Code} {K : Act → World → Prop} {R : Exit → Act → World → Prop} {a : Act} {w : World} {G : Nat → Nat → Act} (Φ : Nat → Nat → World → Prop) (H : Nat → Nat → World → World)
    (h : c.wp P (Exit.then (fun a w' => ∃ g cr w5, Φ g cr w5 ∧ a = G g cr ∧ w' = H g cr w5) R) a w) (hk : ∀ g cr w5, Φ g cr w5 → K (G g cr) (H g cr w5)) : c.wp P (Exit.then K R) a w :=
  Code.wp_mono (fun e a w q => by cases e <;> first | exact q | (obtain ⟨g, cr, w5, q1, rfl, rfl⟩ := q; exact hk g cr w5 q1)) h
theorem row_up {b sz n : Nat} {e : TypeId} {v : Value} {xs : List Value} {W : World} (h : W.ownsRow b e sz v n xs) (o : Obj) : (W.alloc o).drew.ownsRow b e sz v n xs :=
  World.ownsRow.kept (row := none) h (grown_none (((Below.refl _ W).alloc (Nat.le_refl _) o).drew)) (by rcases ho : v.ownBlock with _ | j; exact .inl rfl; exact .inr (by simp))
theorem Tryz.infoInt : (Tryz.prog.info? 3).map (fun i => (i.zero, i.size, i.bytes)) = some (some (.int .i64 0), 1, 8) := by kernel_rfl
theorem step_app_int {ops : Array Oper} {o : Oper} {a : Act} {K : Act → World → Prop} {Q : Exit → Act → World → Prop} {E : Prop} (W : World) (hgd : o.guard = none) (s x : Operand)
    (ho : o.op = .call { callee := .builtin .append, args := #[s, x], argTypes := #[33, 33] })
    (base : Nat) (v : Value) (n : Nat) (xs : List Value) (hs : a.eval s = v) (hown : W.ownsRow base 3 1 v n xs) (ad : Addr) (news : List Value) (hx : a.eval x = .slice (some ad) 1 1) (hl : news.length = 1 * 1) (hnews : ∀ j u, news[j]? = some u → W.cell? (ad.add j) = some u) (h1 : ∀ u ∈ news, u.oneCell' = true)
    (hn : n ≤ 10000) (hbase : base ≤ W.heap.size)
    (h : ∀ g c w', w'.ownsRow base 3 1 (.slice (some ⟨g, 0, none⟩) (n + 1) c) (n + 1) (xs ++ news) → W.grownBy w' v.ownBlock → ((Value.slice (some ⟨g, 0, none⟩) (n + 1) c).ownBlock = v.ownBlock ∨ (Value.slice (some ⟨g, 0, none⟩) (n + 1) c).ownBlock = some W.heap.size) → K (a.put o.dst (.slice (some ⟨g, 0, none⟩) (n + 1) c)) w') :
    if Region.wanted o (yielded ops a.tmps) = true then Oper.wp Tryz.prog o a W K Q else E := by
  obtain ⟨i0, hi0, hz0, hz1, hz2⟩ := info_parts Tryz.infoInt
  have hw : Region.wanted o (yielded ops a.tmps) = true := by simp [Region.wanted, hgd]
  rw [if_pos hw]
  obtain ⟨v', w', hr, h2, h3, h4, h5⟩ := run_append_own_at (P := Tryz.prog) W base 33 o.type 3 i0 _ 1 8 Tryz.underlying33 hi0 hz0 hz1 hz2 rfl (by decide) v n xs hown ad 1 1 news hl hnews h1 (by unfold maxLen; omega) (by omega) hbase
  obtain ⟨g, c, rfl, _, _⟩ := h2.form (by omega)
  unfold Oper.wp execOp
  simp only [ho, resolve, invoke, builtin, Sem.run_bind, Sem.run_pure, Result.andThen_ok, List.map_toArray, List.map_cons, List.map_nil, hs, hx, hr]
  exact h g c w' h2 h3 h5
theorem Tryz.infoPair : (Tryz.prog.info? 85).map (fun i => (i.zero, i.size, i.bytes)) = some (some (.agg #[.int .i64 0, .int .i64 0]), 2, 16) := by kernel_rfl
theorem step_app_pair {ops : Array Oper} {o : Oper} {a : Act} {K : Act → World → Prop} {Q : Exit → Act → World → Prop} {E : Prop} (W : World) (hgd : o.guard = none) (s x : Operand)
    (ho : o.op = .call { callee := .builtin .append, args := #[s, x], argTypes := #[63, 63] })
    (base : Nat) (v : Value) (n : Nat) (xs : List Value) (hs : a.eval s = v) (hown : W.ownsRow base 85 2 v n xs) (ad : Addr) (news : List Value) (hx : a.eval x = .slice (some ad) 1 1) (hl : news.length = 1 * 2) (hnews : ∀ j u, news[j]? = some u → W.cell? (ad.add j) = some u) (h1 : ∀ u ∈ news, u.oneCell' = true)
    (hn : n ≤ 10000) (hbase : base ≤ W.heap.size)
    (h : ∀ g c w', w'.ownsRow base 85 2 (.slice (some ⟨g, 0, none⟩) (n + 1) c) (n + 1) (xs ++ news) → W.grownBy w' v.ownBlock → ((Value.slice (some ⟨g, 0, none⟩) (n + 1) c).ownBlock = v.ownBlock ∨ (Value.slice (some ⟨g, 0, none⟩) (n + 1) c).ownBlock = some W.heap.size) → K (a.put o.dst (.slice (some ⟨g, 0, none⟩) (n + 1) c)) w') :
    if Region.wanted o (yielded ops a.tmps) = true then Oper.wp Tryz.prog o a W K Q else E := by
  obtain ⟨i0, hi0, hz0, hz1, hz2⟩ := info_parts Tryz.infoPair
  have hw : Region.wanted o (yielded ops a.tmps) = true := by simp [Region.wanted, hgd]
  rw [if_pos hw]
  obtain ⟨v', w', hr, h2, h3, h4, h5⟩ := run_append_own_at (P := Tryz.prog) W base 63 o.type 85 i0 _ 2 16 Tryz.underlying63 hi0 hz0 hz1 hz2 rfl (by decide) v n xs hown ad 1 1 news hl hnews h1 (by unfold maxLen; omega) (by omega) hbase
  obtain ⟨g, c, rfl, _, _⟩ := h2.form (by omega)
  unfold Oper.wp execOp
  simp only [ho, resolve, invoke, builtin, Sem.run_bind, Sem.run_pure, Result.andThen_ok, List.map_toArray, List.map_cons, List.map_nil, hs, hx, hr]
  exact h g c w' h2 h3 h5
theorem RunAt.below {r : Nat} {cv : Rw} {w w' : World} {s : St} (h : RunAt X r cv w s) (hb : Below w.heap.size w w') : RunAt X r cv w' s :=
  ⟨h.cells.imp fun k q => (hb.block _ h.lt).trans q, World.ownsRow.kept (row := none) h.row (grown_none hb) (by rcases ho : cv.c.ownBlock with _ | j; exact .inl rfl; exact .inr (by simp)), World.ownsRow.kept (row := none) h.rowD (grown_none hb) (by rcases ho : cv.d.ownBlock with _ | j; exact .inl rfl; exact .inr (by simp)), h.len, h.sep, fun g hg => Nat.lt_of_lt_of_le (h.priv g hg) hb.size⟩
theorem grown_block {W w5 : World} {o : Obj} {row : Option Nat} (hg : (W.alloc o).drew.grownBy w5 row) {b : Nat} (hb : b < W.heap.size) (hn : some b ≠ row) : w5.heap[b]? = W.heap[b]? := by
  have hz : (W.alloc o).drew.heap.size = W.heap.size + 1 := by simp
  exact (hg.block b (by omega) hn).trans (((Below.refl _ W).alloc (Nat.le_refl _) o).drew.block b hb)
/-- One closure more is noted. -/
theorem RunAt.addEncl {r : Nat} {cv : Rw} {d' : Value} {W w5 : World} {s : St} {o : Obj} {j : Nat} (hR : RunAt X r cv W s) (hrow : w5.ownsRow (r + 1) 3 1 d' (s.encl.length + 1) (intsV s.encl ++ [.int .i64 (j : Int)])) (hg : (W.alloc o).drew.grownBy w5 cv.d.ownBlock) (ho : d'.ownBlock = cv.d.ownBlock ∨ d'.ownBlock = some (W.alloc o).drew.heap.size) :
    RunAt X r ⟨cv.c, d'⟩ (w5.setCell ⟨r, 8, none⟩ d') { s with encl := s.encl ++ [j] } ∧ Kep r cv W ⟨cv.c, d'⟩ (w5.setCell ⟨r, 8, none⟩ d') := by
  obtain ⟨k, hc⟩ := hR.cells
  have hr := hR.lt
  have hz : (W.alloc o).drew.heap.size = W.heap.size + 1 := by simp
  have hsz := hg.size
  have hrh : w5.heap[r]? = W.heap[r]? := grown_block hg hr (fun e => row_not2 hR.rowD e.symm)
  have hown : ∀ m, cv.own m → m < W.heap.size := fun m hm => (hR.owns m hm).2
  have hC : w5.ownsRow (r + 1) 85 2 cv.c s.called.length (pairsV s.froms s.called) := World.ownsRow.kept (row := cv.d.ownBlock) (row_up hR.row o) hg (by
    rcases ha : cv.c.ownBlock with _ | m
    · exact .inl rfl
    · exact .inr (fun e => hR.sep m ha e.symm))
  refine ⟨⟨⟨k, ?_⟩, row_set_r hC 8 d', row_set_r (by simpa [intsV] using hrow) 8 d', hR.len, fun m hm hd => ?_, fun g hg2 => by have := hR.priv g hg2; simp; omega⟩, ?_⟩
  · rw [heap_setCell_same _ _ _ _ _ _ (hrh.trans hc)]
    simp [runC]
  · rcases ho with h | h
    · exact hR.sep m hm (by rw [← h]; exact hd)
    · rw [h] at hd; injection hd with hd; have := hown m (.inl hm); omega
  · refine kep_set (cv := ⟨cv.c, d'⟩) (c0 := cv) (w0 := W) (w := w5) ⟨hg.os, hg.tape, hg.output, by omega, fun m hm hr hc => grown_block hg hm (fun e => hc (.inr e.symm)), fun m hm => ?_⟩ 8 d'
    rcases hm with hm | hm
    · exact .inl (.inl hm)
    · rcases ho with h | h
      · exact .inl (.inr (by rw [← h]; exact hm))
      · have hm : d'.ownBlock = some m := hm
        rw [h] at hm; injection hm with hm; exact .inr (by omega)
/-- One call more is noted. -/
theorem RunAt.addCall {r : Nat} {cv : Rw} {c' : Value} {W w5 : World} {s : St} {o : Obj} {p j : Nat} (hR : RunAt X r cv W s) (hrow : w5.ownsRow (r + 1) 85 2 c' (s.called.length + 1) (pairsV s.froms s.called ++ [.int .i64 (p : Int), .int .i64 (j : Int)])) (hg : (W.alloc o).drew.grownBy w5 cv.c.ownBlock) (ho : c'.ownBlock = cv.c.ownBlock ∨ c'.ownBlock = some (W.alloc o).drew.heap.size) :
    RunAt X r ⟨c', cv.d⟩ (w5.setCell ⟨r, 7, none⟩ c') { s with called := s.called ++ [j], froms := s.froms ++ [p] } ∧ Kep r cv W ⟨c', cv.d⟩ (w5.setCell ⟨r, 7, none⟩ c') := by
  obtain ⟨k, hc⟩ := hR.cells
  have hr := hR.lt
  have hz : (W.alloc o).drew.heap.size = W.heap.size + 1 := by simp
  have hsz := hg.size
  have hrh : w5.heap[r]? = W.heap[r]? := grown_block hg hr (fun e => row_not2 hR.row e.symm)
  have hown : ∀ m, cv.own m → m < W.heap.size := fun m hm => (hR.owns m hm).2
  have hD : w5.ownsRow (r + 1) 3 1 cv.d s.encl.length (intsV s.encl) := World.ownsRow.kept (row := cv.c.ownBlock) (row_up hR.rowD o) hg (by
    rcases ha : cv.d.ownBlock with _ | m
    · exact .inl rfl
    · exact .inr (fun e => hR.sep m e.symm ha))
  refine ⟨⟨⟨k, ?_⟩, row_set_r (by rw [pairsV_add _ _ _ _ hR.len]; simpa using hrow) 7 c', row_set_r hD 7 c', by simp [hR.len], fun m hm hd => ?_, fun g hg2 => by have := hR.priv g hg2; simp; omega⟩, ?_⟩
  · rw [heap_setCell_same _ _ _ _ _ _ (hrh.trans hc)]
    simp [runC]
  · rcases ho with h | h
    · exact hR.sep m (by rw [← h]; exact hm) hd
    · have hm : c'.ownBlock = some m := hm
      rw [h] at hm; injection hm with hm; have := hown m (.inr hd); omega
  · refine kep_set (cv := ⟨c', cv.d⟩) (c0 := cv) (w0 := W) (w := w5) ⟨hg.os, hg.tape, hg.output, by omega, fun m hm hr hc => grown_block hg hm (fun e => hc (.inl e.symm)), fun m hm => ?_⟩ 7 c'
    rcases hm with hm | hm
    · rcases ho with h | h
      · exact .inl (.inl (by rw [← h]; exact hm))
      · have hm : c'.ownBlock = some m := hm
        rw [h] at hm; injection hm with hm; exact .inr (by omega)
    · exact .inl (.inr hm)
/-- The runner's cells, behind what has grown. -/
theorem RunAt.cellD {r : Nat} {cv : Rw} {W w5 : World} {s : St} {o : Obj} (hR : RunAt X r cv W s) (hg : (W.alloc o).drew.grownBy w5 cv.d.ownBlock) : w5.cell? ⟨r, 8, none⟩ = some cv.d ∧ w5.frozen? ⟨r, 8, none⟩ = false := by
  have hrh : w5.heap[r]? = W.heap[r]? := grown_block hg hR.lt (fun e => row_not2 hR.rowD e.symm)
  obtain ⟨_, _, _, _, _, _, _, _, c8, _, fz⟩ := hR.at
  exact ⟨(World.cell?_of_block (a := ⟨r, 8, none⟩) hrh).trans c8, (World.frozen?_of_block (a := ⟨r, 8, none⟩) hrh).trans (fz 8)⟩
theorem RunAt.cellC {r : Nat} {cv : Rw} {W w5 : World} {s : St} {o : Obj} (hR : RunAt X r cv W s) (hg : (W.alloc o).drew.grownBy w5 cv.c.ownBlock) : w5.cell? ⟨r, 7, none⟩ = some cv.c ∧ w5.frozen? ⟨r, 7, none⟩ = false := by
  have hrh : w5.heap[r]? = W.heap[r]? := grown_block hg hR.lt (fun e => row_not2 hR.row e.symm)
  obtain ⟨_, _, _, _, _, _, _, c7, _, _, fz⟩ := hR.at
  exact ⟨(World.cell?_of_block (a := ⟨r, 7, none⟩) hrh).trans c7, (World.frozen?_of_block (a := ⟨r, 7, none⟩) hrh).trans (fz 7)⟩
end Go.Proofs.YthjhpfcilaghgaaGreatDoor
