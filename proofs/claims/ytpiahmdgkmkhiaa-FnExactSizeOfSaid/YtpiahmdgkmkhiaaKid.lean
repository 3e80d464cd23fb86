/- The model's reader of a text: the terms behind a sign. -/
import Derived.Test.YtpiahmdgkmkhiaaRep
import Derived.Maps.AppendAt
import Derived.Deep.DeepMust
namespace Go.Proofs.Ytpiahmdgkmkhiaa
open Go.RowKit
open Ff
set_option linter.unusedVariables false

theorem four_new (w : World) (c0 c1 c2 c3 : Value) (t : TypeId) : ∀ j u, [c0, c1, c2, c3][j]? = some u → (w.alloc (.cells #[c0, c1, c2, c3] t)).cell? ((⟨w.heap.size, 0, none⟩ : Addr).add j) = some u := by
  intro j u hj
  have h : (w.alloc (.cells [c0, c1, c2, c3].toArray t)).cell? ⟨w.heap.size, j, none⟩ = [c0, c1, c2, c3][j]? := by
    show (match (w.heap.push _)[w.heap.size]? with | some (.cells c _ _) => if (none : Option Nat).isSome then none else c[j]? | _ => none) = _
    simp
  have e : ((⟨w.heap.size, 0, none⟩ : Addr).add j) = ⟨w.heap.size, j, none⟩ := by
    unfold Addr.add
    split
    · rename_i h0; subst h0; rfl
    · simp
  rw [e, h, hj]

theorem Start.lt {b : Nat} {T : Text} {s : Option Text} {d : Int} {w : World} (h : Start b T d w s) : b < w.heap.size := by
  match s, h with
  | some s, ⟨a, ha, hd, hs⟩ => exact hs.lt
  | none, ⟨a, d, ha, hs⟩ => exact hs.lt
theorem own_ne {W : World} {base : Nat} {e : TypeId} {size : Nat} {v : Value} {n b : Nat} {xs : List Value} (h : W.ownsRow base e size v n xs) (hb : b < base) : v.ownBlock = none ∨ v.ownBlock ≠ some b :=
  .inr fun e => by have := (h.lt b e).1; omega
theorem own_ne_nil {W : World} {base : Nat} {e : TypeId} {size : Nat} {v : Value} {n : Nat} {xs : List Value} (h : W.ownsRow base e size v n xs) (hb : v ≠ .slice none 0 0) : ∃ g, v.ownBlock = some g ∧ base ≤ g ∧ g < W.heap.size := by
  obtain ⟨_, ⟨h1, _⟩ | ⟨g, cap, cur, rfl, h1, h2, _⟩⟩ := h
  · exact absurd h1 hb
  · exact ⟨g, rfl, h1, (Array.getElem?_eq_some_iff.1 h2).1⟩
theorem kids_zero {m b : Nat} {T : Text} {s : Option Text} {w : World} (h : Start b T (24 - (m : Int)) w s) : KidsAt m b T s w 0 (.slice (some ⟨w.heap.size, 0, none⟩) 0 0) (w.alloc (.cells #[] 35)) := by
  refine ⟨[], World.ownsRow_lit w #[] 0 (Nat.le_refl _) (by simp [maxLen]) (by simp), by simp, ?_⟩
  match s, h with
  | some s, ⟨a, ha, hd, hs⟩ => exact .inl ⟨[], s, rfl, ⟨a, ha, hd, hs.alloc _⟩, rfl, fun i t hi => by simp at hi⟩
  | none, ⟨a, d, ha, hs⟩ => exact .inr ⟨rfl, a, d, ha, hs.alloc _⟩
theorem grown_row {w W1 W2 : World} {b : Nat} {o : Obj} {row : Option Nat} (h : w.grownBy W1 (some b)) (hg : (W1.alloc o).grownBy W2 row) (hrow : ∀ g, row = some g → w.heap.size ≤ g) : w.grownBy W2 (some b) := by
  have h1 := grownBy_alloc h o
  exact ⟨hg.os.trans h1.os, hg.tape.trans h1.tape, hg.output.trans h1.output, Nat.le_trans h1.size hg.size, fun k hk hn => (hg.block k (Nat.lt_of_lt_of_le hk h1.size) (fun e => by have := hrow k e.symm; omega)).trans (h1.block k hk hn)⟩
/-- What a round leaves. -/
theorem kids_round {m b : Nat} {T : Text} {s : Option Text} {w W W1 W2 : World} {k : Nat} {v v' c0 c1 c2 c3 : Value} {xs : List Value} {o : Obj} (hbw : b < w.heap.size) (hw : w.heap.size ≤ W.heap.size) (hown : W.ownsRow w.heap.size 35 4 v k xs) (hv : v ≠ .slice none 0 0) (hgr1 : W.grownBy W1 (some b))
    (hl : (∃ ts r t, kidsN m (k + 1) s = some (ts ++ [t], r) ∧ Good b T r (24 - (m : Int)) W1 ∧ ts.length = k ∧ (∀ i t, ts[i]? = some t → Rep (fun g => New w W g ∧ some g ≠ v.ownBlock) W t (four (fun j => (xs[j]?).getD undef) i)) ∧ Rep (New W W1) W1 t (.agg #[c0, c1, c2, c3])) ∨ (kidsN m (k + 1) s = none ∧ Bad b T W1))
    (hown' : W2.ownsRow w.heap.size 35 4 v' (k + 1) (xs ++ [c0, c1, c2, c3])) (hgrow : (W1.alloc o).grownBy W2 v.ownBlock) (hnil : v' = .slice none 0 0 ↔ v = .slice none 0 0 ∧ 1 = 0) (hwhere : v'.ownBlock = v.ownBlock ∨ v'.ownBlock = some (W1.alloc o).heap.size) :
    KidsAt m b T s w (k + 1) v' W2 := by
  obtain ⟨g, hg1, hg2, hg3⟩ := own_ne_nil hown hv
  have hz : (W1.alloc o).heap.size = W1.heap.size + 1 := by simp
  have hs1 := hgr1.size
  have hs2 := hgrow.size
  have hlen := hown.1
  have sr : ∀ {a : Int} {bad : Bool} {d : Int}, SR b T a bad d W1 → SR b T a bad d W2 := by
    intro a bad d h
    have hlt := h.lt
    have hb2 : W2.heap[b]? = (W1.alloc o).heap[b]? := hgrow.block b (by omega) (by rw [hg1]; simp; omega)
    have h' := h.alloc o
    have ec : ∀ j, W2.cell? ⟨b, j, none⟩ = (W1.alloc o).cell? ⟨b, j, none⟩ := fun j => World.cell?_of_block (a := ⟨b, j, none⟩) hb2
    have ef : ∀ j, W2.frozen? ⟨b, j, none⟩ = (W1.alloc o).frozen? ⟨b, j, none⟩ := fun j => World.frozen?_of_block (a := ⟨b, j, none⟩) hb2
    exact ⟨(ec _).trans h'.c0, (ec _).trans h'.c1, (ec _).trans h'.c2, (ec _).trans h'.c3, (ec _).trans h'.c4, (ec _).trans h'.c5, (ef _).trans h'.f1, (ef _).trans h'.f2, (ef _).trans h'.f3⟩
  have keep : ∀ g', g' < W1.heap.size → some g' ≠ v.ownBlock → W2.heap[g']? = W1.heap[g']? := fun g' h1 h2 => (hgrow.block g' (by omega) h2).trans (Below.heap_alloc _ _ _ h1)
  have far : ∀ g', g' < W1.heap.size → some g' ≠ v.ownBlock → some g' ≠ v'.ownBlock := by
    intro g' h1 h2
    rcases hwhere with h | h
    · rw [h]; exact h2
    · rw [h, hz]; simp; omega
  refine ⟨_, hown', fun e => by have := (hnil.1 e).2; omega, ?_⟩
  rcases hl with ⟨ts, r, t, hk, ⟨a, ha, hd, hsr⟩, hts, hrep, hr⟩ | ⟨hk, a, d, ha, hsr⟩
  · refine .inl ⟨ts ++ [t], r, hk, ⟨a, ha, hd, sr hsr⟩, by simp [hts], fun i t' hi => ?_⟩
    by_cases hlt : i < ts.length
    · rw [List.getElem?_append_left hlt] at hi
      have e : four (fun j => ((xs ++ [c0, c1, c2, c3])[j]?).getD undef) i = four (fun j => (xs[j]?).getD undef) i := by
        unfold four
        simp only [List.getElem?_append_left (show 4 * i < xs.length by omega), List.getElem?_append_left (show 4 * i + 1 < xs.length by omega), List.getElem?_append_left (show 4 * i + 2 < xs.length by omega), List.getElem?_append_left (show 4 * i + 3 < xs.length by omega)]
      rw [e]
      refine (hrep i t' hi).keep (fun g' hg' => ?_) (fun g' hg' => ?_)
      · obtain ⟨⟨h1, h2⟩, h3⟩ := hg'
        exact (keep g' (by omega) h3).trans (hgr1.block g' h2 (by simp; omega))
      · obtain ⟨⟨h1, h2⟩, h3⟩ := hg'
        exact ⟨⟨h1, by omega⟩, far g' (by omega) h3⟩
    · have hi0 : i = ts.length := by
        have := (List.getElem?_eq_some_iff.1 hi).1
        simp at this
        omega
      subst hi0
      rw [List.getElem?_append_right (Nat.le_refl _)] at hi
      simp only [Nat.sub_self, List.getElem?_cons_zero, Option.some.injEq] at hi
      subst hi
      have e : four (fun j => ((xs ++ [c0, c1, c2, c3])[j]?).getD undef) ts.length = .agg #[c0, c1, c2, c3] := by
        unfold four
        have e0 : 4 * ts.length = xs.length := by omega
        simp [e0]
      rw [e]
      refine hr.keep (fun g' hg' => keep g' hg'.2 ?_) (fun g' hg' => ⟨⟨by have := hg'.1; omega, by have := hg'.2; omega⟩, far g' hg'.2 ?_⟩)
      · rw [hg1]; have := hg'.1; simp; omega
      · rw [hg1]; have := hg'.1; simp; omega
  · exact .inr ⟨hk, a, d, ha, sr hsr⟩

set_option maxRecDepth 100000 in
set_option maxHeartbeats 2000000 in
theorem skids_c (m n : Nat) (hn : n ≤ 3) (ih : TermS m) (ib : TermBad) (b : Nat) (T : Text) (s : Option Text) (w : World) (h : Start b T (24 - (m : Int)) w s) (hl : T.length ≤ 1000) :
    Calls Try.prog 85 #[.pointer (some ⟨b, 0, none⟩), .int .i64 (n : Int)] w fun e w' => ∃ v, e = .returned v ∧ KidsAt m b T s w n v w' ∧ w.grownBy w' (some b) := by
  have hbw : b < w.heap.size := h.lt
  obtain ⟨i0, hi, hz0, hz1, hz2⟩ := info_parts Try.infoTerm
  go_enter Try.func85, Try.ntmps85
  go_wp2_with fail
  go_loopw [5, 8] (fun v i wr => ∃ (k : Nat), k ≤ n ∧ i = .int .i64 k ∧ KidsAt m b T s w k v wr ∧ w.grownBy wr (some b)) (fun _ i _ => n - (intOf i).toNat)
  case atStart => exact ⟨0, Nat.zero_le _, rfl, kids_zero h, grownBy_alloc (World.grownBy.refl _ _) _⟩
  case round =>
    obtain ⟨k, hk, rfl, hat, hgr⟩ := hrel
    by_cases hlt : k < n
    · obtain ⟨xs, hown, hv, C⟩ := kid_any ih ib hat hl
      go_wp2_with fail
      refine C.mono ?_
      rintro e w1 ⟨x, y, str, a, l, c, rfl, hgr1, hlink⟩
      have HL := Lib.hid hlink; clear hlink
      have hsz := hgr.size
      have hsz1 := hgr1.size
      have hlen := hown.1
      have hown1 := (hown.kept hgr1 (own_ne hown hbw)).alloc (.cells #[.int .u8 x, .int .i64 y, .string str, .slice a l c] 35)
      have HH := Lib.hid hown
      have HV := Lib.hid hv
      clear hown hv C hlen
      have q2 : ∀ u ∈ [Value.int .u8 x, .int .i64 y, .string str, .slice a l c], u.oneCell' = true := by simp [Value.oneCell']
      have q3 : k + 1 ≤ maxLen := by unfold maxLen; omega
      have q5 : w.heap.size ≤ (w1.alloc (.cells #[.int .u8 x, .int .i64 y, .string str, .slice a l c] 35)).heap.size := by simp; omega
      go_wp2_with (at_builtin; (refine wpList_append_own_at _ rfl _ _ 33 rfl w.heap.size 35 i0 _ 4 56 Try.underlying33 hi hz0 hz1 hz2 rfl (by decide) _ _ _ rfl hown1 ⟨w1.heap.size, 0, none⟩ 1 1 [.int .u8 x, .int .i64 y, .string str, .slice a l c] rfl rfl (four_new _ _ _ _ _ _) q2 q3 (by omega) q5 ?_); intro v' w2 hown' hgrow hnil hwhere; have HN := Lib.hid hnil; have HW := Lib.hid hwhere; clear hnil hwhere)
      exact ⟨⟨k + 1, by omega, by go_num, kids_round hbw hsz HH.out HV.out hgr1 HL.out hown' hgrow HN.out HW.out, grown_row (grownBy_trans hgr hgr1) hgrow (fun g e => (HH.out.lt g e).1)⟩, by simp [intOf]; omega⟩
    · obtain rfl : k = n := by omega
      go_wp2_with fail
      go_ret
      exact ⟨_, rfl, hat, hgr⟩
end Go.Proofs.Ytpiahmdgkmkhiaa
