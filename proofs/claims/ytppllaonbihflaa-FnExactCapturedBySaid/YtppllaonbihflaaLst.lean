/- The statements' own helpers over lists of texts: comparing, marking, asking for the marks. -/
import Derived.Test.YtppllaonbihflaaOrd
import Derived.Deep.RegionHeld3
import Derived.RangeFuncBox
namespace Go.Proofs.Ytppllaonbihflaa
open Go.RowKit
open Ff
set_option linter.unusedVariables false

/-- A text as a value. -/
abbrev sv (s : Text) : Value := .string ⟨s.toArray⟩
/-- A slice that lists texts. -/
abbrev Strs (w : World) (base : Nat) (v : Value) (l : List Text) : Prop := w.ownsRow base 9 1 v l.length (l.map sv)
theorem row_set {W : World} {base : Nat} {e : TypeId} {n g cap : Nat} {xs : List Value} (h : W.ownsRow base e 1 (.slice (some ⟨g, 0, none⟩) n cap) n xs) (j : Nat) (u : Value) : (W.setCell ⟨g, j, none⟩ u).ownsRow base e 1 (.slice (some ⟨g, 0, none⟩) n cap) n (xs.set j u) := by
  obtain ⟨h1, h2⟩ := h
  refine ⟨by simpa using h1, ?_⟩
  rcases h2 with ⟨h2, _⟩ | ⟨g', cap', cur, hv, hb, hh, hn, hm, hc, ht⟩
  · cases h2
  · injection hv with hv1 hv2 hv3
    injection hv1 with hv1
    injection hv1 with hv1
    subst hv1 hv3
    refine .inr ⟨g, cap, cur.setIfInBounds j u, rfl, hb, ?_, hn, hm, by simpa using hc, ?_⟩
    · obtain ⟨hlt, hk⟩ := Array.getElem?_eq_some_iff.1 hh
      show (W.heap.modify g _)[g]? = _
      rw [Array.getElem?_eq_getElem (by rw [Array.size_modify]; exact hlt), Array.getElem_modify_self, hk]
      rfl
    · rw [Nat.mul_one] at ht ⊢
      rw [Array.toList_setIfInBounds, List.take_set, ht]
theorem Strs.frozen {W : World} {base : Nat} {e : TypeId} {n g cap size : Nat} {xs : List Value} (h : W.ownsRow base e size (.slice (some ⟨g, 0, none⟩) n cap) n xs) (j : Nat) : W.frozen? ⟨g, j, none⟩ = false := by
  rcases h.2 with ⟨h2, _⟩ | ⟨g', cap', cur, hv, hb, hh, hn, hm, hc, ht⟩
  · cases h2
  · injection hv with hv1
    injection hv1 with hv1
    injection hv1 with hv1
    subst hv1
    simp [World.frozen?, hh]
/-- Either no text and whatever slice, or a slice that is written out, with its cells. -/
theorem Strs.cases {W : World} {base : Nat} {v : Value} {l : List Text} (h : Strs W base v l) : (∃ a c, v = .slice a l.length c) ∧ ∀ (i : Nat) (s : Text), l[i]? = some s → ∃ g c, v = .slice (some ⟨g, 0, none⟩) l.length c ∧ base ≤ g ∧ g < W.heap.size ∧ W.cell? ⟨g, i, none⟩ = some (sv s) ∧ W.frozen? ⟨g, i, none⟩ = false := by
  constructor
  · rcases h.2 with ⟨rfl, h0⟩ | ⟨g, cap, cur, rfl, _⟩
    · exact ⟨none, 0, by rw [h0]⟩
    · exact ⟨_, _, rfl⟩
  · intro i s hs
    have hc := fun g hg => h.cells (g := g) hg i (sv s) (by simp [hs])
    have hl := fun g hg => h.lt g hg
    rcases h.2 with ⟨rfl, h0⟩ | ⟨g, cap, cur, rfl, _⟩
    · have : l = [] := List.length_eq_zero_iff.1 h0
      subst this
      simp at hs
    · have h1 := hc g rfl
      rw [Addr.add_lit, Nat.zero_add] at h1
      exact ⟨g, cap, rfl, (hl g rfl).1, (hl g rfl).2, h1, Strs.frozen h i⟩

set_option maxRecDepth 100000 in
set_option maxHeartbeats 2000000 in
theorem eqS_c (va vb : Value) (b1 b2 : Nat) (l : List Text) (w : World) (ha : Strs w b1 va l) (hb : Strs w b2 vb l) (hl : l.length ≤ 1000000) :
    Calls Try.prog 22 #[va, vb] w fun e w' => e = .returned (.bool true) ∧ Below w.heap.size w w' := by
  obtain ⟨⟨aa, ca, rfl⟩, hca⟩ := ha.cases
  obtain ⟨⟨ab, cb, rfl⟩, hcb⟩ := hb.cases
  have HA := Lib.hid hca
  have HB := Lib.hid hcb
  clear hca hcb ha hb
  go_enter Try.func22, Try.ntmps22
  go_wp2_with fail
  go_loopw [5] (fun i wr => ∃ k : Nat, k ≤ l.length ∧ i = .int .i64 k ∧ Below w.heap.size w wr) (fun i _ => l.length - (intOf i).toNat)
  case atStart => exact ⟨0, Nat.zero_le _, rfl, Below.refl _ _⟩
  case round =>
    obtain ⟨k, hk, rfl, hB⟩ := hrel
    by_cases hlt : k < l.length
    · obtain ⟨s, hs⟩ : ∃ s, l[k]? = some s := ⟨_, List.getElem?_eq_getElem hlt⟩
      obtain ⟨g1, c1, e1, _, hg1, h1, _⟩ := HA.out k s hs
      obtain ⟨g2, c2, e2, _, hg2, h2, _⟩ := HB.out k s hs
      injection e1 with e1 _ e1c
      injection e2 with e2 _ e2c
      subst e1 e1c e2 e2c
      have d1 := (hB.cell (p := ⟨g1, k, none⟩) hg1).trans h1
      have d2 := (hB.cell (p := ⟨g2, k, none⟩) hg2).trans h2
      clear hs h1 h2 HA HB
      go_wp2_with fail
      go_region
      all_goals go_wp2_with fail
      all_goals exact ⟨⟨k + 1, by omega, by go_num, hB.drew⟩, by simp [intOf]; omega⟩
    · obtain rfl : k = l.length := by omega
      go_wp2_with fail
      go_ret
      exact ⟨rfl, hB⟩
/-- The statements' marks. -/
def markF (n : Nat) (acc : Text) : Text := if h : n = 0 then acc else markF (n / 10) (UInt8.ofNat (48 + n % 10) :: acc)
termination_by n
decreasing_by omega
def markT (k : Nat) : Text := 109 :: markF k []
theorem markF_len : ∀ (n : Nat) (acc : Text), n < 10000000 → (markF n acc).length ≤ acc.length + n := by
  intro n
  induction n using Nat.strongRecOn with
  | _ n ih =>
    intro acc hn
    unfold markF
    split
    · omega
    · rename_i h
      have := ih (n / 10) (by omega) (UInt8.ofNat (48 + n % 10) :: acc) (by omega)
      simp only [List.length_cons] at this
      omega
theorem byte_of10 (n : Nat) : ((48 : Int) + (n : Int) % 10) = ((UInt8.ofNat (48 + n % 10)).toNat : Int) := by
  rw [UInt8.toNat_ofNat']
  omega
theorem strY {z : Int} {d : UInt8} (hz : z = (d.toNat : Int)) (W : World) : (convert 48 9 (.slice (some ⟨W.heap.size, 0, none⟩) 1 1)).run Try.prog (W.alloc (.cells #[.int .u8 z] 5)) = .ok (.string ⟨#[d]⟩) (W.alloc (.cells #[.int .u8 z] 5)) := by
  subst hz
  exact str1 _ d _ (cell_new_at _ _ _ _ rfl)
set_option maxRecDepth 100000 in
set_option maxHeartbeats 1000000 in
theorem mark_c (k : Nat) (hk0 : k ≠ 0) (hk : k < 10000000) (w : World) :
    Calls Try.prog 55 #[.int .i64 (k : Int)] w fun e w' => e = .returned (sv (markT k)) ∧ Below w.heap.size w w' := by
  have h0 : ¬ ((k : Int) ≤ 0) := by omega
  go_enter Try.func55, Try.ntmps55
  go_wp2_with fail
  go_loopw [0, 3] (fun i o wr => ∃ (n : Nat) (acc : Text), n ≤ k ∧ i = .int .i64 n ∧ o = sv acc ∧ markF n acc = markF k [] ∧ acc.length + n ≤ k ∧ Below w.heap.size w wr) (fun i _ _ => (intOf i).toNat)
  case atStart => exact ⟨k, [], Nat.le_refl _, rfl, rfl, rfl, by simp, Below.refl _ _⟩
  case round =>
    obtain ⟨n, acc, hn, rfl, rfl, hm, hl, hB⟩ := hrel
    have HM := Lib.hid hm
    clear hm
    by_cases hz : n = 0
    · subst hz
      have he : acc = markF k [] := by
        have h := HM.out
        rw [markF, dif_pos rfl] at h
        exact h
      have HE := Lib.hid he
      have z : ¬ 9223372036854775807 < 1 + acc.length := by omega
      clear he
      go_wp2_with fail
      go_ret
      refine ⟨?_, hB⟩
      unfold markT
      rw [← HE.out]
      exact congrArg (fun s => Ending.returned (Value.string s)) (by apply ba_ext; simp [ByteArray.data_append])
    · have hz2 : (0 : Int) < n := by omega
      have k1 := strY (byte_of10 n) wr
      have hsz := hB.size
      have hst : markF n acc = markF (n / 10) (UInt8.ofNat (48 + n % 10) :: acc) := by
        rw [markF, dif_neg hz]
      have HS := Lib.hid hst
      clear hst
      go_wp2_with fail
      exact ⟨⟨n / 10, UInt8.ofNat (48 + n % 10) :: acc, by omega, by go_num, congrArg Value.string (by apply ba_ext; simp [ByteArray.data_append]), by rw [← HS.out]; exact HM.out, by simp; omega, hB.alloc hsz _⟩, by simp [intOf]; omega⟩
theorem bgrown {A B : World} (h : Below A.heap.size A B) : A.grownBy B none := ⟨h.os, h.tape, h.output, h.size, fun j hj _ => h.block j hj⟩
theorem grown_setAt (W : World) (b i : Nat) (v : Value) : W.grownBy (W.setCell ⟨b, i, none⟩ v) (some b) :=
  ⟨rfl, rfl, rfl, (KeepsWalks.setCell W _ v).size, fun k _ hk => Below.heap_setCell _ _ _ k (fun e => hk (by rw [e]))⟩
/-- The marks from k on. -/
def marks (k : Nat) : Nat → List Text
  | 0 => []
  | n + 1 => marks k n ++ [markT (k + n)]
theorem marks_len (k : Nat) : ∀ n, (marks k n).length = n
  | 0 => rfl
  | n + 1 => by rw [marks, List.length_append, marks_len k n]; rfl
theorem marks_at (k : Nat) : ∀ n i, i < n → (marks k n)[i]? = some (markT (k + i))
  | 0, i, h => absurd h (by omega)
  | n + 1, i, h => by
    rw [marks]
    by_cases e : i = n
    · subst e
      rw [List.getElem?_append_right (by rw [marks_len]; omega), marks_len]
      simp
    · rw [List.getElem?_append_left (by rw [marks_len]; omega)]
      exact marks_at k n i (by omega)
set_option maxRecDepth 100000 in
set_option maxHeartbeats 2000000 in
theorem markS_c (va : Value) (b1 : Nat) (l : List Text) (w : World) (ha : Strs w b1 va l) (hl : l.length ≤ 1000000) :
    Calls Try.prog 23 #[va, .int .i64 1] w fun e w' => e = .returned (.int .i64 (l.length + 1 : Nat)) ∧ Strs w' b1 va (marks 1 l.length) ∧ w.grownBy w' va.ownBlock := by
  have hcs := ha.cases
  obtain ⟨⟨aa, ca, rfl⟩, hca⟩ := hcs
  go_enter Try.func23, Try.ntmps23
  go_wp2_with fail
  go_loopw [1, 5] (fun m i wr => ∃ k : Nat, k ≤ l.length ∧ i = .int .i64 k ∧ m = .int .i64 (k + 1 : Nat) ∧ Strs wr b1 (.slice aa l.length ca) (marks 1 k ++ l.drop k) ∧ w.grownBy wr (Value.slice aa l.length ca).ownBlock) (fun _ i _ => l.length - (intOf i).toNat)
  case atStart => exact ⟨0, Nat.zero_le _, rfl, rfl, by simpa [marks] using ha, World.grownBy.refl _ _⟩
  case round =>
    obtain ⟨k, hk, rfl, rfl, hs, hg⟩ := hrel
    by_cases hlt : k < l.length
    · have hlen : (marks 1 k ++ l.drop k).length = l.length := by rw [List.length_append, marks_len, List.length_drop]; omega
      obtain ⟨s, hs1⟩ : ∃ s, (marks 1 k ++ l.drop k)[k]? = some s := ⟨_, List.getElem?_eq_getElem (by omega)⟩
      obtain ⟨g, c, he, hb1, hg1, hc1, hf1⟩ := hs.cases.2 k s hs1
      rw [hlen] at he
      injection he with he _ hec
      subst he hec
      have C := mark_c (k + 1) (by omega) (by omega) wr
      have hs' : wr.ownsRow b1 9 1 (.slice (some ⟨g, 0, none⟩) l.length ca) l.length ((marks 1 k ++ l.drop k).map sv) := by
        have h := hs
        unfold Strs at h
        rw [hlen] at h
        exact h
      have hset : ((marks 1 k ++ l.drop k).map sv).set k (sv (markT (k + 1))) = (marks 1 (k + 1) ++ l.drop (k + 1)).map sv := by
        rw [← List.map_set, List.set_append, if_neg (by rw [marks_len]; omega), marks_len, Nat.sub_self, List.drop_eq_getElem_cons hlt, List.set_cons_zero, marks, List.append_assoc, Nat.add_comm k 1]
        rfl
      have hlen2 : (marks 1 (k + 1) ++ l.drop (k + 1)).length = l.length := by rw [List.length_append, marks_len, List.length_drop]; omega
      have HS := Lib.hid hset
      have HL := Lib.hid hlen2
      have HO := Lib.hid hs'
      have HG := Lib.hid hg
      clear hca ha hset hlen2 hlen hs1 hs hs' hg
      go_wp2_with (go_at_call 55; refine C.mono ?_; clear C; rintro e w2 ⟨rfl, hb2⟩; have hc2 := (hb2.cell (p := ⟨g, k, none⟩) hg1).trans hc1; have hf2 := (World.frozen?_of_block (a := ⟨g, k, none⟩) (hb2.block g hg1)).trans hf1)
      refine ⟨⟨k + 1, by omega, by go_num, by go_num, ?_, (HG.out.andThen (bgrown hb2) (fun j hj => by cases hj)).andThen (grown_setAt w2 g k _) (fun j hj => Or.inr hj)⟩, by simp [intOf]; omega⟩
      have h := row_set (HO.out.kept (bgrown hb2) (.inr (by simp [Value.ownBlock]))) k (sv (markT (k + 1)))
      rw [HS.out] at h
      unfold Strs
      rw [HL.out]
      exact h
    · obtain rfl : k = l.length := by omega
      rw [List.drop_length, List.append_nil] at hs
      go_wp2_with fail
      go_ret
      exact ⟨rfl, hs, hg⟩
set_option maxRecDepth 100000 in
set_option maxHeartbeats 2000000 in
theorem heldS_c (va : Value) (b1 n : Nat) (w : World) (ha : Strs w b1 va (marks 1 n)) (hl : n ≤ 1000000) :
    Calls Try.prog 24 #[va, .int .i64 1] w fun e w' => e = .returned (.int .i64 (n + 1 : Nat)) ∧ Below w.heap.size w w' := by
  obtain ⟨⟨aa, ca, rfl⟩, hca⟩ := ha.cases
  rw [marks_len] at hca ⊢
  have HA := Lib.hid hca
  clear hca ha
  go_enter Try.func24, Try.ntmps24
  go_wp2_with fail
  go_loopw [1, 5] (fun m i wr => ∃ k : Nat, k ≤ n ∧ i = .int .i64 k ∧ m = .int .i64 (k + 1 : Nat) ∧ Below w.heap.size w wr) (fun _ i _ => n - (intOf i).toNat)
  case atStart => exact ⟨0, Nat.zero_le _, rfl, rfl, Below.refl _ _⟩
  case round =>
    obtain ⟨k, hk, rfl, rfl, hB⟩ := hrel
    by_cases hlt : k < n
    · obtain ⟨g, c, he, _, hg1, hc1, _⟩ := HA.out k (markT (1 + k)) (marks_at 1 n k hlt)
      injection he with he _ hec
      subst he hec
      have d1 := (hB.cell (p := ⟨g, k, none⟩) hg1).trans hc1
      have C := fun w' => mark_c (k + 1) (by omega) (by omega) w'
      have h1k : markT (1 + k) = markT (k + 1) := by rw [Nat.add_comm]
      rw [h1k] at d1
      have hsz := hB.size
      clear hc1 h1k HA
      have C2 : ∀ w', Calls Try.prog 55 #[.int .i64 ((k : Int) + 1)] w' fun e w'' => e = .returned (sv (markT (k + 1))) ∧ Below w'.heap.size w' w'' := fun w' => C w'
      clear C
      generalize markT (k + 1) = mk at d1 C2
      go_wp2_with fail
      have s0 := (Below.refl wr.heap.size wr).drew
      have d2 : wr.drew.cell? ⟨g, k, none⟩ = some (sv mk) := d1
      have hgr : g < wr.heap.size := by omega
      have K : ∀ w' w'', Below wr.heap.size wr w' → w'.cell? ⟨g, k, none⟩ = some (sv mk) → Below w'.heap.size w' w'' → Below wr.heap.size wr w'' ∧ w''.cell? ⟨g, k, none⟩ = some (sv mk) := fun w' w'' h1 h2 h3 =>
        ⟨h1.trans (h3.mono h1.size), (h3.cell (p := ⟨g, k, none⟩) (by have := h1.size; simp; omega)).trans h2⟩
      have HK := Lib.hid K
      clear K
      go_region_held3 (fun w' => Below wr.heap.size wr w' ∧ w'.cell? ⟨g, k, none⟩ = some (sv mk))
        (first | go_keep | refine ⟨?_, ?_⟩ <;> assumption)
        (first | (go_at_call 55; refine (C2 _).mono ?_; rintro e w2 ⟨rfl, hb2⟩; obtain ⟨s1, d3⟩ := HK.out _ _ (by assumption) (by assumption) hb2))
      all_goals go_wp2_with fail
      all_goals exact ⟨⟨k + 1, by omega, by go_num, by go_num, hB.trans (s1.mono hsz)⟩, by simp [intOf]; omega⟩
    · obtain rfl : k = n := by omega
      go_wp2_with fail
      go_ret
      exact ⟨rfl, hB⟩
end Go.Proofs.Ytppllaonbihflaa
