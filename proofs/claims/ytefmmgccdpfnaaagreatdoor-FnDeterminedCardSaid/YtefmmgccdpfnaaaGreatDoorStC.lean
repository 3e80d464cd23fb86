import Derived.Test.YtefmmgccdpfnaaaGreatDoorStB
/- The specification's l4Next at every term; l4At. -/
namespace Go.Proofs.YtefmmgccdpfnaaaGreatDoor
open Go.RowKit
open Ff
set_option linter.unusedVariables false

theorem l4next_c : ∀ n, NextC n
  | 0 => fun _ t _ _ hd => absurd hd (by have := t.depth_pos; omega)
  | n + 1 => by
    intro S t v w hd hn hg hc hS hr
    have ih := l4next_c n
    cases hv : t.isVal
    · rw [← hv]
      cases t with
      | num k => cases hv
      | fn c b => cases hv
      | fix f c b => cases hv
      | var c => exact absurd (hc c) (by simp [cntF])
      | bind c a b => exact next_one n ih S _ v w hd hn hg hc hS hr hv rfl true false (by simp [kindOf]) (by simp [kindOf]) rfl (by simp [kindOf])
      | sel a b c => exact next_one n ih S _ v w hd hn hg hc hS hr hv rfl false true (by simp [kindOf]) (by simp [kindOf]) rfl (by simp [kindOf])
      | app f a => exact next_all n ih S _ v w hd hn hg hc hS hr hv rfl (by simp [kindOf]) (by simp [kindOf]) (by simp [kindOf])
      | op o l r =>
        have ho : o.toNat = 43 ∨ o.toNat = 45 ∨ o.toNat = 42 := by rcases hg.1 with h | h | h <;> subst h <;> decide
        exact next_all n ih S _ v w hd hn hg hc hS hr hv rfl (by rw [beq_eq_false_iff_ne]; simp only [kindOf]; omega) (by rw [beq_eq_false_iff_ne]; simp only [kindOf]; omega) (by rw [beq_eq_false_iff_ne]; simp only [kindOf]; omega)
    · rw [← hv]
      exact next_val S t v w hg hS hr hv
/-- A path that leads somewhere. -/
def PathOk : Tm → List Nat → Prop
  | _, [] => True
  | t, i :: p => ∃ s, t.kids[i]? = some s ∧ PathOk s p
theorem redexP_ok : ∀ t : Tm, PathOk t (redexP t)
  | .num _ => trivial
  | .var _ => trivial
  | .fn _ _ => trivial
  | .fix _ _ _ => trivial
  | .app f a => by
    have h1 := redexP_ok f
    have h2 := redexP_ok a
    simp only [redexP]
    split
    · split
      · trivial
      · exact ⟨a, rfl, h2⟩
    · exact ⟨f, rfl, h1⟩
  | .op _ f a => by
    have h1 := redexP_ok f
    have h2 := redexP_ok a
    simp only [redexP]
    split
    · split
      · trivial
      · exact ⟨a, rfl, h2⟩
    · exact ⟨f, rfl, h1⟩
  | .bind _ v b => by
    have h1 := redexP_ok v
    simp only [redexP]
    split
    · trivial
    · exact ⟨v, rfl, h1⟩
  | .sel a b c => by
    have h1 := redexP_ok a
    simp only [redexP]
    split
    · trivial
    · exact ⟨a, rfl, h1⟩
theorem Rep.open {S : Nat → Prop} {w : World} {t : Tm} {k n : Int} {s : ByteArray} {a : Option Addr} {l c : Nat} (h : Rep S w t (.agg #[.int .u8 k, .int .i64 n, .string s, .slice a l c])) (hS : ∀ g, S g → g < w.heap.size) :
    ∃ g, a = some ⟨g, 0, none⟩ ∧ l = t.kids.length ∧ S g ∧ ∀ (k : Nat) (s : Tm), t.kids[k]? = some s → ∃ (y0 y1 : Int) (y2 : ByteArray) (y3 : Option Addr) (y4 y5 : Nat), Rep S w s (.agg #[.int .u8 y0, .int .i64 y1, .string y2, .slice y3 y4 y5]) ∧ ∀ W, Below w.heap.size w W →
      W.cell? ⟨g, k * 4, none⟩ = some (.int .u8 y0) ∧ W.cell? ⟨g, k * 4 + 1, none⟩ = some (.int .i64 y1) ∧ W.cell? ⟨g, k * 4 + 2, none⟩ = some (.string y2) ∧ W.cell? ⟨g, k * 4 + 3, none⟩ = some (.slice y3 y4 y5) := by
  generalize hv : Value.agg #[.int .u8 k, .int .i64 n, .string s, .slice a l c] = v at h
  cases h with
  | mk _ g cap c' hg hc hk =>
    unfold tmHead at hv
    simp only [Value.agg.injEq, Array.mk.injEq, List.cons.injEq, and_true] at hv
    obtain ⟨_, _, _, h4⟩ := hv
    injection h4 with h4 h5 _
    exact ⟨g, h4, h5, hg, fun k s hs => kid_cells (hS g hg) hc hk hs⟩
theorem partAt_snoc : ∀ (t : Tm) (p : List Nat) (i : Nat) (s : Tm), PathOk t p → (partAt t p).kids[i]? = some s → partAt t (p ++ [i]) = s
  | t, [], i, s, _, h => by simp only [List.nil_append, partAt] at h ⊢; rw [h]
  | t, j :: p, i, s, hp, h => by
    obtain ⟨r, hr, hp⟩ := hp
    simp only [partAt, List.cons_append, hr] at h ⊢
    exact partAt_snoc r p i s hp h
theorem pathOk_split : ∀ (t : Tm) (p q : List Nat), PathOk t (p ++ q) → PathOk t p ∧ PathOk (partAt t p) q
  | t, [], q, h => ⟨trivial, h⟩
  | t, i :: p, q, h => by
    obtain ⟨s, hs, h⟩ := h
    have := pathOk_split s p q h
    exact ⟨⟨s, hs, this.1⟩, by simp only [partAt, hs]; exact this.2⟩
/-- The boxes at the head of a round of l4At: the part, the result. -/
structure AtW (w : World) (y0 y1 : Int) (y2 : ByteArray) (y3 : Option Addr) (y4 y5 : Nat) (W : World) : Prop where
  box : W.heap[w.heap.size]? = some (tmO y0 y1 y2 y3 y4 y5)
  res : W.heap[w.heap.size + 1]? = some (tmO 0 0 ⟨#[]⟩ none 0 0)
  below : Below w.heap.size w W
theorem AtW.new (w : World) (y0 y1 : Int) (y2 : ByteArray) (y3 : Option Addr) (y4 y5 : Nat) : AtW w y0 y1 y2 y3 y4 y5 ((w.alloc (tmO y0 y1 y2 y3 y4 y5)).alloc (tmO 0 0 ⟨#[]⟩ none 0 0)) := by
  refine ⟨?_, ?_, below_two w _ _⟩
  · rw [alloc_far _ _ (by simp)]; exact alloc_here _ _
  · have h := alloc_here (w.alloc (tmO y0 y1 y2 y3 y4 y5)) (tmO 0 0 ⟨#[]⟩ none 0 0)
    rwa [World.size_alloc] at h
theorem AtW.store {w W : World} {y0 y1 : Int} {y2 : ByteArray} {y3 : Option Addr} {y4 y5 : Nat} (h : AtW w y0 y1 y2 y3 y4 y5 W) (z0 z1 : Int) (z2 : ByteArray) (z3 : Option Addr) (z4 z5 : Nat) : AtW w z0 z1 z2 z3 z4 z5 (set4 W w.heap.size (.int .u8 z0) (.int .i64 z1) (.string z2) (.slice z3 z4 z5)) :=
  ⟨set4_here h.box _ _ _ _, (set4_far _ _ _ _ _ _ _ (by omega)).trans h.res, set4_below h.below (Nat.le_refl _) _ _ _ _⟩
set_option maxRecDepth 100000 in
set_option maxHeartbeats 4000000 in
theorem at_c (S : Nat → Prop) (t : Tm) (v : Value) (p : List Nat) (gp cp : Nat) (w : World) (hS : ∀ g, S g → g < w.heap.size) (hrep : Rep S w t v) (hp : PathAt w gp p) (hok : PathOk t p) (hpl : p.length ≤ 4000) :
    Calls Tryz.prog 56 #[v, .slice (some ⟨gp, 0, none⟩) p.length cp] w fun e w' => ∃ v', e = .returned v' ∧ Rep S w' (partAt t p) v' ∧ Below w.heap.size w w' := by
  obtain ⟨x0, x1, x2, x3, x4, x5, rfl⟩ := hrep.junk
  have A0 := AtW.new w x0 x1 x2 x3 x4 x5
  obtain ⟨n, hn⟩ : ∃ n, p.length = n := ⟨_, rfl⟩
  rw [hn] at hpl ⊢
  have HN := Lib.hid hn
  have HOK := Lib.hid hok
  have HP := Lib.hid hp
  clear hn hok hp
  go_enter Tryz.func56, Tryz.ntmps56
  go_wp2_with fail
  go_loopw [9] (fun ix wr => ∃ (k : Nat) (y0 y1 : Int) (y2 : ByteArray) (y3 : Option Addr) (y4 y5 : Nat), k ≤ n ∧ ix = .int .i64 k ∧ Rep S w (partAt t (p.take k)) (.agg #[.int .u8 y0, .int .i64 y1, .string y2, .slice y3 y4 y5]) ∧ AtW w y0 y1 y2 y3 y4 y5 wr) (fun ix _ => n - (intOf ix).toNat)
  case atStart => exact ⟨0, _, _, _, _, _, _, Nat.zero_le _, rfl, by simpa [partAt] using hrep, A0⟩
  case round =>
    clear A0
    obtain ⟨k, y0, y1, y2, y3, y4, y5, hkl, rfl, hr, hA⟩ := hrel
    obtain ⟨c0, c1, c2, c3, f0, f1, f2, f3⟩ := cells4 hA.box
    have hBl := hA.below
    by_cases hlt : k < n
    · obtain ⟨i, hi⟩ : ∃ i, p[k]? = some i := ⟨_, List.getElem?_eq_getElem (by have := HN.out; omega)⟩
      have hsp := pathOk_split t (p.take k) (p.drop k) (by rw [List.take_append_drop]; exact HOK.out)
      have hdr : p.drop k = i :: p.drop (k + 1) := by
        have hlen : k < p.length := (List.getElem?_eq_some_iff.1 hi).1
        rw [List.drop_eq_getElem_cons hlen, (List.getElem?_eq_some_iff.1 hi).2]
      rw [hdr] at hsp
      obtain ⟨hp1, s, hs, _⟩ := hsp
      obtain ⟨g, rfl, hy4, hgS, hkids⟩ := hr.open hS
      obtain ⟨z0, z1, z2, z3, z4, z5, hrs, hcc⟩ := hkids i s hs
      obtain ⟨e0, e1, e2, e3⟩ := hcc wr hBl
      have hcell : wr.cell? ⟨gp, k, none⟩ = some (iV i) := (hBl.cell (p := ⟨gp, k, none⟩) HP.out.1).trans (HP.out.2 k _ (by simp [hi]))
      have hiL : (i : Int) < (y4 : Int) := by rw [hy4]; have := (List.getElem?_eq_some_iff.1 hs).1; omega
      have hi0 : (0 : Int) ≤ (i : Int) := by omega
      have hts := Lib.hid (show partAt t (p.take (k + 1)) = s by rw [List.take_add_one, hi]; exact partAt_snoc t _ _ _ hp1 hs)
      clear hp1 hs hdr hkids hcc hi hy4 hr
      go_wp2_with fail
      exact ⟨⟨k + 1, z0, z1, z2, z3, z4, z5, by omega, by go_num, by rw [hts.out]; exact hrs, hA.store _ _ _ _ _ _⟩, by simp [intOf]; omega⟩
    · obtain rfl : k = n := by omega
      have hpt : partAt t (p.take k) = partAt t p := by rw [List.take_of_length_le (by have := HN.out; omega)]
      rw [hpt] at hr
      obtain ⟨r0, r1, r2, r3, j0, j1, j2, j3⟩ := cells4 hA.res
      clear hpt
      go_wp2_with fail
      refine bodyPost_ret (v := .agg #[.int .u8 y0, .int .i64 y1, .string y2, .slice y3 y4 y5]) (by simp [results, Tryz.results56, go_sem, r0, r1, r2, r3]) rfl ?_
      refine ⟨_, rfl, hr.keep (fun g hg => ?_) (fun g hg => hg), set4_below hBl (by omega) _ _ _ _⟩
      have := hS g hg
      exact (set4_far _ _ _ _ _ _ g (by omega)).trans (hBl.block g this)
end Go.Proofs.YtefmmgccdpfnaaaGreatDoor
