import Derived.Test.YthjhpfcilaghgaaGreatDoorEvD
import Derived.Test.YthjhpfcilaghgaaGreatDoorMCt
import Derived.Maps.AppendAt
/- The program's places: all parts of a term where they stand. -/
namespace Go.Proofs.YthjhpfcilaghgaaGreatDoor
open Go.RowKit Go.Shelf
open Ff
set_option linter.unusedVariables false
variable {X : Nat → Prop}

/-- What lay elsewhere than in r and in a row lies as it lay. -/
structure KepP (r : Nat) (cv : Value) (w : World) (cv' : Value) (w' : World) : Prop where
  os : w'.os = w.os
  tape : w'.tape = w.tape
  output : w'.output = w.output
  size : w.heap.size ≤ w'.heap.size
  block : ∀ j, j < w.heap.size → j ≠ r → cv.ownBlock ≠ some j → w'.heap[j]? = w.heap[j]?
  own : ∀ j, cv'.ownBlock = some j → cv.ownBlock = some j ∨ w.heap.size ≤ j
theorem KepP.refl (r : Nat) (cv : Value) (w : World) : KepP r cv w cv w := ⟨rfl, rfl, rfl, Nat.le_refl _, fun _ _ _ _ => rfl, fun _ h => .inl h⟩
theorem KepP.trans {r : Nat} {c0 c1 c2 : Value} {w0 w1 w2 : World} (h : KepP r c0 w0 c1 w1) (k : KepP r c1 w1 c2 w2) : KepP r c0 w0 c2 w2 := by
  refine ⟨k.os.trans h.os, k.tape.trans h.tape, k.output.trans h.output, Nat.le_trans h.size k.size, fun j hj hr hc => ?_, fun j hj => ?_⟩
  · rw [k.block j (Nat.lt_of_lt_of_le hj h.size) hr (fun e => (h.own j e).elim hc (fun h => by omega))]
    exact h.block j hj hr hc
  · rcases k.own j hj with h1 | h1
    · exact h.own j h1
    · exact .inr (Nat.le_trans h.size h1)
theorem KepP.below {r : Nat} {cv : Value} {w w' : World} (h : Below w.heap.size w w') : KepP r cv w cv w' := ⟨h.os, h.tape, h.output, h.size, fun j hj _ _ => h.block j hj, fun _ h => .inl h⟩
def SafeP (X : Nat → Prop) (r : Nat) (cv : Value) (w : World) (g : Nat) : Prop := g < w.heap.size ∧ g ≠ r ∧ cv.ownBlock ≠ some g ∧ ¬ X g
theorem KepP.safe {r : Nat} {c0 c1 : Value} {w0 w1 : World} (h : KepP r c0 w0 c1 w1) {g : Nat} (hs : SafeP X r c0 w0 g) : w1.heap[g]? = w0.heap[g]? ∧ SafeP X r c1 w1 g :=
  ⟨h.block g hs.1 hs.2.1 hs.2.2.1, Nat.lt_of_lt_of_le hs.1 h.size, hs.2.1, fun e => (h.own g e).elim hs.2.2.1 (fun k => by have := hs.1; omega), hs.2.2.2⟩
theorem kepP_set {r : Nat} {cv c0 : Value} {w0 w : World} (h : KepP r c0 w0 cv w) (k : Nat) (u : Value) : KepP r c0 w0 cv (w.setCell ⟨r, k, none⟩ u) := by
  refine h.trans ⟨rfl, rfl, rfl, by simp, fun j _ hr _ => Below.heap_setCell _ _ _ _ hr, fun j h => .inl h⟩
theorem nodup_le {α : Type} [DecidableEq α] : ∀ (l m : List α), l.Nodup → (∀ x ∈ l, x ∈ m) → l.length ≤ m.length
  | [], m, _, _ => Nat.zero_le _
  | a :: l, m, hn, hs => by
    have ha := hs a (by simp)
    have hn2 := List.nodup_cons.1 hn
    have := nodup_le l (m.erase a) hn2.2 (fun x hx => (List.mem_erase_of_ne (fun e => hn2.1 (by rw [← e]; exact hx))).2 (hs x (by simp [hx])))
    rw [List.length_erase_of_mem ha] at this
    have : 0 < m.length := List.length_pos_of_mem ha
    simp only [List.length_cons]
    omega
theorem tally_count {w : World} {b n : Nat} {D : DataW Unit} (hown : w.ownsMap Tryz.prog 5 (plainElem Tryz.prog 3) b n D) {m : UInt8 → Nat} (h : (∀ c, D.atKey (lk c) (.lit (.int .i64 0)) = .lit (.int .i64 (m c : Int)) ∧ Maps.has D (lk c) = decide (m c ≠ 0)) ∧ ∀ kl, Maps.has D kl = true → ∃ c, kl = lk c) (hl : ∀ c, m c ≠ 0 → c ∈ letters) :
    Maps.size D = (namesIn m).length := by
  obtain ⟨es, rfl, hnd, hk⟩ := hown.entries Tryz.law8
  have _ : DecidableEq Lit := fun a b => Classical.propDecidable _
  have n1 : (es.map (·.1)).Nodup := List.pairwise_map.2 hnd
  have n2 : ((namesIn m).map lk).Nodup := by
    refine List.pairwise_map.2 (List.Pairwise.imp (fun {a b} (hne : a ≠ b) (e : lk a = lk b) => hne (lk_inj e)) ?_)
    exact List.Pairwise.filter _ (by decide : letters.Nodup)
  have s1 : ∀ x ∈ es.map (·.1), x ∈ (namesIn m).map lk := fun x hx => by
    obtain ⟨p, hp, rfl⟩ := List.mem_map.1 hx
    have hh : Maps.has (.map es) p.1 = true := by
      rw [Maps.has_eq, List.any_eq_true]
      exact ⟨p, hp, WideAt.sameKey_self (hk p hp)⟩
    obtain ⟨c, hc⟩ := h.2 _ hh
    have h2 := (h.1 c).2
    rw [← hc, hh] at h2
    have h3 : m c ≠ 0 := by simpa using h2.symm
    rw [hc]
    exact List.mem_map.2 ⟨c, List.mem_filter.2 ⟨hl c h3, by simpa using h3⟩, rfl⟩
  have s2 : ∀ x ∈ (namesIn m).map lk, x ∈ es.map (·.1) := fun x hx => by
    obtain ⟨c, hc, rfl⟩ := List.mem_map.1 hx
    have h3 : m c ≠ 0 := by simpa using (List.mem_filter.1 hc).2
    have h2 := (h.1 c).2
    rw [decide_eq_true h3, Maps.has_eq, List.any_eq_true] at h2
    obtain ⟨p, hp, he⟩ := h2
    exact List.mem_map.2 ⟨p, hp, WideAt.sameKey_eq he⟩
  have h1 := nodup_le _ _ n1 s1
  have h2 := nodup_le _ _ n2 s2
  simp only [List.length_map] at h1 h2
  show es.length = _
  omega
/-- 'len' of a tally. -/
theorem Tally.count {w : World} {b n : Nat} {m : UInt8 → Nat} (h : Tally w b n m) (hl : ∀ c, m c ≠ 0 → c ∈ letters) (t : TypeId) : (Builtin.len_ #[80] t #[.map (some b)]).run Tryz.prog w = .ok (.int .i64 ((namesIn m).length : Nat)) w := by
  obtain ⟨D, hown, h1⟩ := h
  rw [← tally_count hown h1 hl]
  exact hown.len Tryz.underTally t
theorem Tryz.infoPl : (Tryz.prog.info? 117).map (fun i => (i.zero, i.size, i.bytes)) = some (some (.pointer none), 1, 8) := by kernel_rfl
/-- A place in the making: k of its kids are there. -/
structure PlAt (t : Tm) (i : Nat) (w0 : World) (b : Nat) (k : Nat) (kv : Value) (ps : List Value) (W : World) : Prop where
  cells : W.heap[b]? = some (.cells #[.iface (ty t) (pl t), .int .i64 (i : Int), .int .i64 ((i + (before t k).length : Nat) : Int), kv, .int .i64 0] 145 (0, 0))
  row : W.ownsRow (b + 1) 117 1 kv k ps
  kids : ∀ j s, j < k → t.kids[j]? = some s → ∃ pj, ps[j]? = some pj ∧ PlaceR (fun g => w0.heap.size ≤ g ∧ SafeP NoX b kv W g) W s (i + (before t j).length) pj
  below : Below w0.heap.size w0 W
  at_ : w0.heap.size ≤ b
/-- What a place comes to. -/
def PlacePost (t : Tm) (i : Nat) (w : World) (e : Ending) (w' : World) : Prop :=
  ∃ b, e = .returned (ptr b) ∧ PlaceR (fun g => w.heap.size ≤ g ∧ g < w'.heap.size) w' t i (ptr b) ∧ w'.cell? ⟨b, 2, none⟩ = some (.int .i64 ((i + (parts t).length : Nat) : Int)) ∧ Below w.heap.size w w'
def PlaceC (n : Nat) : Prop := ∀ (t : Tm) (i : Nat) (w : World), t.depth ≤ n → n ≤ 4000 → i + (parts t).length ≤ 4000 → t.good → Calls Tryz.prog 58 #[.int .i64 (i : Int), enc t] w (PlacePost t i w)
theorem row_set_e {w : World} {r : Nat} {cv : Value} {e : TypeId} {n : Nat} {xs : List Value} (h : w.ownsRow (r + 1) e 1 cv n xs) (k : Nat) (u : Value) : (w.setCell ⟨r, k, none⟩ u).ownsRow (r + 1) e 1 cv n xs := by
  obtain ⟨h1, h2 | ⟨g, cap, cur, hv, hb, hh, rest⟩⟩ := h
  · exact ⟨h1, .inl h2⟩
  · exact ⟨h1, .inr ⟨g, cap, cur, hv, hb, by rw [Below.heap_setCell _ _ _ _ (by show g ≠ r; omega)]; exact hh, rest⟩⟩
theorem row_not {w : World} {r : Nat} {cv : Value} {e : TypeId} {n : Nat} {xs : List Value} (h : w.ownsRow (r + 1) e 1 cv n xs) : cv.ownBlock ≠ some r := by
  rcases h.2 with ⟨h2, _⟩ | ⟨g, cap, cur, hv, hb, _⟩
  · subst h2; simp [Value.ownBlock]
  · subst hv; simp [Value.ownBlock]; omega
theorem kepP_grown {r : Nat} {cv cv' : Value} {w w' : World} (h : w.grownBy w' cv.ownBlock) (ho : cv'.ownBlock = cv.ownBlock ∨ cv'.ownBlock = some w.heap.size) : KepP r cv w cv' w' :=
  ⟨h.os, h.tape, h.output, h.size, fun j hj _ hc => h.block j hj (fun e => hc e.symm), fun j hj => ho.elim (fun e => .inl (by rw [← e]; exact hj)) (fun e => .inr (by rw [e] at hj; injection hj with hj; omega))⟩
theorem five_of {w : World} {b : Nat} {z0 z1 z2 z3 z4 : Value} {t : TypeId} (h : w.heap[b]? = some (.cells #[z0, z1, z2, z3, z4] t (0, 0))) : w.cell? ⟨b, 0, none⟩ = some z0 ∧ w.cell? ⟨b, 1, none⟩ = some z1 ∧ w.cell? ⟨b, 2, none⟩ = some z2 ∧ w.cell? ⟨b, 3, none⟩ = some z3 ∧ w.cell? ⟨b, 4, none⟩ = some z4 ∧ ∀ k, w.frozen? ⟨b, k, none⟩ = false := by
  refine ⟨?_, ?_, ?_, ?_, ?_, fun k => ?_⟩ <;> simp [World.cell?, World.frozen?, h]
theorem kidsV {w : World} {r : Nat} {cv : Value} {e : TypeId} {n : Nat} {xs : List Value} (h : w.ownsRow r e 1 cv n xs) : ∃ a c, cv = .slice a n c := by
  rcases h.2 with ⟨h2, h3⟩ | ⟨g, cap, cur, hv, _⟩
  · exact ⟨none, 0, by rw [h2, h3]⟩
  · exact ⟨_, _, hv⟩
theorem below_kep {B n : Nat} {kv kv' : Value} {w w' : World} (h : KepP B kv w kv' w') (hB : n ≤ B) (hn : n ≤ w.heap.size) (ho : ∀ j, kv.ownBlock = some j → n ≤ j) : Below n w w' :=
  ⟨h.os, h.tape, h.output, h.size, fun j hj => h.block j (by omega) (by omega) (fun e => by have := ho j e; omega)⟩
/-- One kid more. -/
theorem plat_next {t s : Tm} {i k : Nat} {w wr w2 w3 w4 : World} {kv kv' : Value} {ps : List Value} {b2 idx : Nat} (hP : PlAt t i w w.heap.size k kv ps wr) (hs : t.kids[k]? = some s) (hidx : i + (before t k).length = idx)
    (hb2 : Below wr.heap.size wr w2) (hb3 : Below w2.heap.size w2 w3) (hp2 : PlaceR (fun g => wr.heap.size ≤ g ∧ g < w2.heap.size) w2 s idx (ptr b2)) (hrow4 : w4.ownsRow (w.heap.size + 1) 117 1 kv' (k + 1) (ps ++ [ptr b2])) (hK4 : KepP w.heap.size kv w3 kv' w4)
    (hc4 : w4.heap[w.heap.size]? = wr.heap[w.heap.size]?) (hlb : w.heap.size < wr.heap.size) :
    PlAt t i w w.heap.size (k + 1) kv' (ps ++ [ptr b2]) ((w4.setCell ⟨w.heap.size, 3, none⟩ kv').setCell ⟨w.heap.size, 2, none⟩ (.int .i64 ((idx : Int) + ((parts s).length : Int)))) ∧ KepP w.heap.size kv wr kv' ((w4.setCell ⟨w.heap.size, 3, none⟩ kv').setCell ⟨w.heap.size, 2, none⟩ (.int .i64 ((idx : Int) + ((parts s).length : Int)))) := by
  have KB := kepP_set (kepP_set ((KepP.below (r := w.heap.size) (cv := kv) hb3).trans hK4) 3 kv') 2 (.int .i64 ((idx : Int) + ((parts s).length : Int)))
  have KA := (KepP.below (r := w.heap.size) (cv := kv) hb2).trans KB
  have hown : ∀ j, kv.ownBlock = some j → w.heap.size + 1 ≤ j ∧ j < wr.heap.size := fun j hj => World.ownsRow.lt hP.row j hj
  refine ⟨⟨?_, row_set_e (row_set_e hrow4 _ _) _ _, fun j s' hj hs' => ?_, hP.below.trans (below_kep KA (Nat.le_refl _) (by omega) (fun j hj => by have := hown j hj; omega)), Nat.le_refl _⟩, KA⟩
  · have e : ((idx : Int) + ((parts s).length : Int)) = ((i + (before t (k + 1)).length : Nat) : Int) := by rw [before_succ t k s hs, List.length_append]; omega
    rw [heap_setCell_same _ _ _ _ _ _ (heap_setCell_same _ _ _ _ _ _ (hc4.trans hP.cells)), e]
    simp
  · have hlen := hP.row.1
    by_cases hjk : j < k
    · obtain ⟨pj, h1, h2⟩ := hP.kids j s' hjk hs'
      refine ⟨pj, by rw [List.getElem?_append_left (by omega)]; exact h1, h2.keep (fun g hg => ?_)⟩
      have := KA.safe hg.2
      exact ⟨this.1, hg.1, this.2⟩
    · obtain rfl : j = k := by omega
      rw [hs] at hs'
      injection hs' with hs'
      subst hs'
      refine ⟨ptr b2, by rw [List.getElem?_append_right (by omega)]; simp [show ps.length = j by omega], ?_⟩
      rw [hidx]
      refine hp2.keep (fun g hg => ?_)
      have hsf : SafeP NoX w.heap.size kv w2 g := ⟨hg.2, by omega, fun e => by have := hown g e; omega, id⟩
      have := KB.safe hsf
      exact ⟨this.1, by omega, this.2⟩
theorem plat_done {t : Tm} {i : Nat} {w W W' : World} {kv : Value} {ps : List Value} (hP : PlAt t i w w.heap.size t.kids.length kv ps W) (hK : KepP w.heap.size kv W kv W') (n : Nat) (hn : n = if isFun t then (sfree t).length else 0)
    (hc : W'.heap[w.heap.size]? = some (.cells #[.iface (ty t) (pl t), .int .i64 (i : Int), .int .i64 ((i + (before t t.kids.length).length : Nat) : Int), kv, .int .i64 (n : Int)] 145 (0, 0))) (hlb : w.heap.size < W.heap.size) (ho : ∀ j, kv.ownBlock = some j → W'.heap[j]? = W.heap[j]?) :
    PlacePost t i w (.returned (ptr w.heap.size)) W' := by
  obtain ⟨a0, a1, a2, a3, a4, _⟩ := five_of hc
  have hown : ∀ j, kv.ownBlock = some j → w.heap.size + 1 ≤ j ∧ j < W.heap.size := fun j hj => World.ownsRow.lt hP.row j hj
  have hlen := hP.row.1
  refine ⟨_, rfl, ?_, by rw [a2, before_all], hP.below.trans (below_kep hK (Nat.le_refl _) (by omega) (fun j hj => by have := hown j hj; omega))⟩
  have hrow : ∃ g cap, (t.kids ≠ [] → kv = .slice (some ⟨g, 0, none⟩) t.kids.length cap ∧ w.heap.size + 1 ≤ g ∧ g < W.heap.size) ∧ ∀ j pj, j < t.kids.length → ps[j]? = some pj → W.cell? ⟨g, j, none⟩ = some pj := by
    rcases hP.row.2 with ⟨h2, h3⟩ | ⟨g, cap, cur, hv, hb, hh, _, _, _, ht⟩
    · exact ⟨0, 0, fun h => absurd (List.eq_nil_of_length_eq_zero h3) h, fun j pj hj => by omega⟩
    · refine ⟨g, cap, fun _ => ⟨hv, hb, (Array.getElem?_eq_some_iff.1 hh).1⟩, fun j pj hj hpj => ?_⟩
      have h := hP.row.cells (g := g) (by rw [hv]; rfl) j pj hpj
      rwa [show (⟨g, 0, none⟩ : Addr).add j = ⟨g, j, none⟩ by simp [Addr.add]; omega] at h
  obtain ⟨g, cap, hg, hcell⟩ := hrow
  have key : ∀ j s, t.kids[j]? = some s → ∃ pj, ps[j]? = some pj ∧ PlaceR (fun g => w.heap.size ≤ g ∧ g < W'.heap.size) W' s (i + (before t j).length) pj := fun j s hs => by
    obtain ⟨pj, h1, h2⟩ := hP.kids j s (List.getElem?_eq_some_iff.1 hs).1 hs
    refine ⟨pj, h1, h2.keep (fun g hg => ?_)⟩
    have := hK.safe hg.2
    exact ⟨this.1, hg.1, this.2.1⟩
  refine .mk t i w.heap.size g cap kv (fun j => (ps[j]?).getD undef) ⟨Nat.le_refl _, Nat.lt_of_lt_of_le hlb hK.size⟩ (by rw [a0, enc_ty]) a1 a3 (by rw [a4, hn]; split <;> simp) (fun h => ?_) (fun j s hs => ?_) (fun j s hs => ?_)
  · obtain ⟨h1, h2, h3⟩ := hg h
    exact ⟨h1, by omega, Nat.lt_of_lt_of_le h3 hK.size⟩
  · obtain ⟨pj, h1, _⟩ := key j s hs
    have hj := (List.getElem?_eq_some_iff.1 hs).1
    obtain ⟨h3, h4, h5⟩ := hg (fun e => by rw [e] at hs; simp at hs)
    have h2 := hcell j pj hj h1
    rw [h1]
    exact (World.cell?_of_block (a := ⟨g, j, none⟩) (ho g (by rw [h3]; rfl))).trans h2
  · obtain ⟨pj, h1, h2⟩ := key j s hs
    rw [h1]
    exact h2
theorem one_new (W : World) (v : Value) (t : TypeId) : ∀ j u, [v][j]? = some u → (W.alloc (.cells #[v] t)).cell? ((⟨W.heap.size, 0, none⟩ : Addr).add j) = some u := by
  intro j u hj
  cases j with
  | zero => exact (cell_new W [v] t 0).trans hj
  | succ j => simp at hj
theorem wpList_append_ptr {w : World} {ops : Array Oper} {rest : List Oper} {o : Oper} {a : Act} {Q : Exit → Act → World → Prop} {B : Nat} {kv : Value} {k : Nat} {ps : List Value} {b2 : Nat} {i : TypeInfo}
    (hg : o.guard = none) (s x : Operand) (hop : o.op = Op.call { callee := Callee.builtin Builtin.append, args := #[s, x], argTypes := #[143, 143] })
    (hi : Tryz.prog.info? 117 = some i) (hz0 : i.zero = some (.pointer none)) (hz1 : i.size = 1) (hz2 : i.bytes = 8) (hs : a.eval s = kv) (hrow : w.ownsRow (B + 1) 117 1 kv k ps) (ad : Addr) (hx : a.eval x = .slice (some ad) 1 1) (hc : ∀ j u, [ptr b2][j]? = some u → w.cell? (ad.add j) = some u) (hB : B + 1 ≤ w.heap.size) (hk : k ≤ 4000)
    (hK : ∀ v' w', w'.ownsRow (B + 1) 117 1 v' (k + 1) (ps ++ [ptr b2]) → KepP B kv w v' w' → w'.heap[B]? = w.heap[B]? → wpList Tryz.prog ops Q rest (a.put o.dst v') w') : wpList Tryz.prog ops Q (o :: rest) a w := by
  refine wpList_append_own_at w hg s x _ hop (B + 1) 117 i _ 1 8 Tryz.underlying143 hi hz0 hz1 hz2 rfl (by decide) kv k ps hs hrow ad 1 1 [ptr b2] hx rfl hc (by simp [Value.oneCell']) (by unfold maxLen; omega) (by omega) hB ?_
  intro v' w' hown hgr _ ho
  exact hK v' w' hown (kepP_grown hgr ho) (hgr.block B (by omega) (fun e => row_not hrow e.symm))
set_option maxRecDepth 100000 in
set_option maxHeartbeats 4000000 in
theorem place_step (n : Nat) (ih : PlaceC n) : PlaceC (n + 1) := by
  intro t i w ht hn hpp hgd
  have hk3 : t.kids.length ≤ 3 := by cases t <;> simp [Tm.kids]
  have e1 : IntKind.i64.wrap ((i : Int) + 1) = (i : Int) + 1 := by rw [IntKind.wrap_i64]; omega
  obtain ⟨i0, hi0, hz0, hz1, hz2⟩ := info_parts Tryz.infoPl
  rw [enc_ty t]
  go_enter Tryz.func58, Tryz.ntmps58
  have z := World.alloc_heap_new w (.cells #[.iface (ty t) (pl t), .int .i64 (i : Int), .int .i64 ((i : Int) + 1), .slice none 0 0, .int .i64 0] 145)
  have hb0 := (Below.refl w.heap.size w).alloc (Nat.le_refl _) (.cells #[.iface (ty t) (pl t), .int .i64 (i : Int), .int .i64 ((i : Int) + 1), .slice none 0 0, .int .i64 0] 145)
  have hs0 : w.heap.size < (w.alloc (.cells #[.iface (ty t) (pl t), .int .i64 (i : Int), .int .i64 ((i : Int) + 1), .slice none 0 0, .int .i64 0] 145)).heap.size := by simp
  generalize hW0 : w.alloc (.cells #[.iface (ty t) (pl t), .int .i64 (i : Int), .int .i64 ((i : Int) + 1), .slice none 0 0, .int .i64 0] 145) = W0 at z hb0 hs0
  go_wp2_with (refine wpList_invoke rfl _ _ (ty t) (pl t) rfl rfl (kf t) (kids_m t _ (by unfold KidsName; kernel_rfl) _) (kids_f t _) (fun v w' => SliceOf W0.heap.size w' v (t.kids.map enc) ∧ Below W0.heap.size W0 w') (by rw [← hW0]; exact kids_c t _) ?_; rintro x w1 ⟨hs, hb⟩; obtain ⟨a, rfl, hcell⟩ := hs.uni; clear hs; have HC := Lib.hid hcell; clear hcell)
  go_loopw [18] (fun j wr => ∃ (k : Nat) (kv : Value) (ps : List Value), k ≤ t.kids.length ∧ j = .int .i64 k ∧ PlAt t i w w.heap.size k kv ps wr ∧ KepP w.heap.size (.slice none 0 0) w1 kv wr) (fun j _ => t.kids.length - (intOf j).toNat)
  case atStart =>
    refine ⟨0, _, [], Nat.zero_le _, rfl, ⟨?_, ⟨rfl, .inl ⟨rfl, rfl⟩⟩, fun j s hj => by omega, hb0.trans (hb.mono hb0.size), Nat.le_refl _⟩, KepP.refl _ _ _⟩
    rw [hb.block _ hs0, z]
    simp [before]
  case round =>
    obtain ⟨k, kv, ps, hkl, rfl, hP, hK⟩ := hrel
    by_cases hlt : k < t.kids.length
    · obtain ⟨s, hs⟩ : ∃ s, t.kids[k]? = some s := ⟨_, List.getElem?_eq_getElem hlt⟩
      obtain ⟨g, rfl, hg1, hg2, hc⟩ := HC.out k (enc s) (by simp [hs])
      have hc2 := (World.cell?_of_block (a := ⟨g, k, none⟩) (hK.block g hg2 (by omega) (by simp [Value.ownBlock]))).trans hc
      obtain ⟨a0, a1, a2, a3, a4, af⟩ := five_of hP.cells
      have hbl := before_le t k
      have hbs := before_succ t k s hs
      have hpk := parts_kid_le (List.mem_of_getElem? hs)
      have hbl2 := before_le t (k + 1)
      rw [hbs, List.length_append] at hbl2
      have C := ih s (i + (before t k).length) wr (by have := kid_depth (List.mem_of_getElem? hs); omega) (by omega) (by omega) (Tm.kid_good hgd (List.mem_of_getElem? hs))
      have hbs2 : (before t (k + 1)).length = (before t k).length + (parts s).length := by rw [hbs, List.length_append]
      have hps := hP.row.1
      have HS := Lib.hid hs
      have HN := Lib.hid hbs2
      have HL := Lib.hid hbl2
      clear hs hc HC hbs hbs2 hbl2 z hW0
      generalize hidx : i + (before t k).length = idx at C a2
      have HX := Lib.hid hidx
      clear hidx
      go_wp2_with fail
      refine C.mono ?_
      rintro e w2 ⟨b2, rfl, hp2, hc22, hb2⟩
      have hlb : w.heap.size < wr.heap.size := by have := hK.size; have := hb.size; omega
      have f2 : w2.heap[w.heap.size]? = wr.heap[w.heap.size]? := hb2.block _ hlb
      obtain ⟨d0, d1, d2, d3, d4, df⟩ := five_of (f2.trans hP.cells)
      have hrow2 := World.ownsRow.kept (row := none) hP.row (grown_none hb2) (by rcases ho : Value.ownBlock kv with _ | j; exact .inl rfl; exact .inr (by simp))
      have hK2 := hK.trans (KepP.below hb2)
      have hlt2 : b2 < w2.heap.size := by cases hp2 with | mk _ _ _ _ _ _ _ hb _ _ _ _ _ _ _ => exact hb.2
      have hge2 : wr.heap.size ≤ b2 := by cases hp2 with | mk _ _ _ _ _ _ _ hb _ _ _ _ _ _ _ => exact hb.1
      clear C a0 a1 a2 a3 a4 af
      have hrow3 := World.ownsRow.kept (row := none) hrow2 (World.grownBy_alloc w2 (.cells #[ptr b2] 117) none) (by rcases ho : Value.ownBlock kv with _ | j; exact .inl rfl; exact .inr (by simp))
      have hkk : k ≤ 4000 := by omega
      have f3 : (w2.alloc (.cells #[ptr b2] 117)).heap[w.heap.size]? = w2.heap[w.heap.size]? := ((Below.refl _ w2).alloc (Nat.le_refl _) _).block _ (by have := hb2.size; omega)
      have hsafe : SafeP NoX w.heap.size kv (w2.alloc (.cells #[ptr b2] 117)) b2 := ⟨by simp; omega, by omega, fun e => by have := (World.ownsRow.lt hP.row b2 e).2; omega, id⟩
      have h22 : (w2.alloc (.cells #[ptr b2] 117)).cell? ⟨b2, 2, none⟩ = some (.int .i64 ((idx + (parts s).length : Nat) : Int)) := (((Below.refl _ w2).alloc (Nat.le_refl _) _).cell (p := ⟨b2, 2, none⟩) hlt2).trans hc22
      go_wp2_with (at_builtin; refine wpList_append_ptr rfl _ _ rfl hi0 hz0 hz1 hz2 rfl hrow3 ⟨w2.heap.size, 0, none⟩ rfl (one_new w2 _ _) (by simp; omega) hkk ?_; intro kv' w4 hrow4 hK4 hb4; obtain ⟨ka, kc, rfl⟩ := kidsV hrow4; obtain ⟨g0, g1, g2, g3, g4, gf⟩ := five_of (hb4.trans (f3.trans (f2.trans hP.cells))); have h42 := cell_keep (S := SafeP NoX w.heap.size kv (w2.alloc (.cells #[ptr b2] 117))) (S' := fun _ => True) (fun g hg => ⟨(hK4.safe hg).1, trivial⟩) hsafe h22; have hne : b2 ≠ w.heap.size := (by omega))
      obtain ⟨r1, r2⟩ := plat_next hP HS.out HX.out hb2 ((Below.refl _ w2).alloc (Nat.le_refl _) _) hp2 hrow4 hK4 (hb4.trans (f3.trans f2)) hlb
      exact ⟨⟨k + 1, _, _, by omega, by go_num, r1, hK.trans r2⟩, by simp [intOf]; omega⟩
    · obtain rfl : k = t.kids.length := by omega
      have hlb : w.heap.size < wr.heap.size := by have := hK.size; have := hb.size; omega
      have hIF := isFunction_c t wr
      obtain ⟨f, hf⟩ : ∃ f, isFun t = f := ⟨_, rfl⟩
      rw [hf] at hIF
      have HF := Lib.hid hf
      clear hf z hW0 HC
      cases f
      · go_wp2_with fail
        refine hIF.mono ?_
        rintro e w2 ⟨rfl, hb2⟩
        go_wp2_with fail
        go_ret
        refine plat_done hP (KepP.below hb2) 0 (by rw [HF.out]; rfl) ((hb2.block _ hlb).trans hP.cells) hlb (fun j hj => hb2.block j (World.ownsRow.lt hP.row j hj).2)
      · go_wp2_with fail
        refine hIF.mono ?_
        rintro e w2 ⟨rfl, hb2⟩
        have C := freeIn_c 4000 t w2 (by omega) (by omega) (by omega) hgd
        rw [enc_ty t] at C
        go_wp2_with fail
        refine C.mono ?_
        rintro e w3 ⟨bt, kt, rfl, hbt, hkt, hT, hb3⟩
        have hcount := fun ty => hT.count (fun c hc => free_letters hgd ((mem_free hgd c).2 hc)) ty
        rw [← free_names hgd] at hcount
        have f3 : w3.heap[w.heap.size]? = _ := (hb3.block _ (by have := hb2.size; omega)).trans ((hb2.block _ hlb).trans hP.cells)
        obtain ⟨g0, g1, g2, g3, g4, gf⟩ := five_of f3
        go_wp2_with fail
        go_ret
        refine plat_done hP (kepP_set ((KepP.below hb2).trans (KepP.below hb3)) _ _) (sfree t).length (by rw [HF.out]; rfl) ?_ hlb (fun j hj => ?_)
        · rw [heap_setCell_same _ _ _ _ _ _ f3]
          simp
        · have h1 := World.ownsRow.lt hP.row j hj
          rw [Below.heap_setCell _ _ _ _ (by show j ≠ w.heap.size; omega)]
          exact (hb3.block j (by have := hb2.size; omega)).trans (hb2.block j h1.2)
theorem place_c : ∀ n, PlaceC n
  | 0 => fun t _ _ ht => absurd ht (by have := t.depth_pos; omega)
  | n + 1 => place_step n (place_c n)
end Go.Proofs.YthjhpfcilaghgaaGreatDoor
