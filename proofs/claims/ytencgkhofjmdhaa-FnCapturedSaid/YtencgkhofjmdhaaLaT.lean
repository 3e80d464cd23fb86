import Derived.Test.YtencgkhofjmdhaaLaG
/- Laws over drawn terms: rows of texts; FnParts. -/
namespace Go.Proofs.Ytencgkhofjmdhaa
open Go.RowKit Go.Shelf
open Ff
set_option linter.unusedVariables false
attribute [local irreducible] Calls

set_option maxRecDepth 100000 in
set_option maxHeartbeats 2000000 in
theorem texts_c (va vb : Value) (b1 b2 : Nat) (l : List Text) (w : World) (ha : Strs w b1 va l) (hb : Strs w b2 vb l) (hl : l.length ≤ 1000000) :
    Calls Try.prog 8 #[va, vb] w fun e w' => e = .returned (.bool true) ∧ Below w.heap.size w w' := by
  obtain ⟨⟨aa, ca, rfl⟩, hca⟩ := ha.cases
  obtain ⟨⟨ab, cb, rfl⟩, hcb⟩ := hb.cases
  have HA := Lib.hid hca
  have HB := Lib.hid hcb
  clear hca hcb ha hb
  go_enter Try.func8, Try.ntmps8
  go_wp2_with fail
  go_loopw [11] (fun i wr => ∃ k : Nat, k ≤ l.length ∧ i = .int .i64 k ∧ Below w.heap.size w wr) (fun i _ => l.length - (intOf i).toNat)
  case atStart => exact ⟨0, Nat.zero_le _, rfl, Below.refl _ _⟩
  case round =>
    obtain ⟨k, hk, rfl, hB⟩ := hrel
    by_cases hlt : k < l.length
    · obtain ⟨s, hs⟩ : ∃ s, l[k]? = some s := ⟨_, List.getElem?_eq_getElem hlt⟩
      obtain ⟨g1, c1, e1, _, hg1, h1, _⟩ := HA.out k s hs
      obtain ⟨g2, c2, e2, _, hg2, h2, _⟩ := HB.out k s hs
      injection e1 with e1 _ e1c
      injection e2 with e2 _ e2c
      subst e1 e1c e2 e2c
      have d1 := (hB.cell (p := ⟨g1, k, none⟩) hg1).trans h1
      have d2 := (hB.cell (p := ⟨g2, k, none⟩) hg2).trans h2
      clear hs h1 h2 HA HB
      go_wp2_with fail
      go_region
      all_goals go_wp2_with fail
      all_goals exact ⟨⟨k + 1, by omega, by go_num, hB.drew⟩, by simp [intOf]; omega⟩
    · obtain rfl : k = l.length := by omega
      go_wp2_with fail
      go_ret
      exact ⟨rfl, hB⟩
theorem part_le {T p : Tm} (hp : p ∈ parts T) : (textN p).length ≤ (textN T).length ∧ (parts p).length ≤ (parts T).length ∧ p.depth ≤ T.depth := by
  induction T with
  | num n => simp only [parts, List.mem_singleton] at hp; subst hp; exact ⟨Nat.le_refl _, Nat.le_refl _, Nat.le_refl _⟩
  | var c => simp only [parts, List.mem_singleton] at hp; subst hp; exact ⟨Nat.le_refl _, Nat.le_refl _, Nat.le_refl _⟩
  | fn c b ih =>
    simp only [parts, List.mem_cons] at hp
    rcases hp with rfl | hp
    · exact ⟨Nat.le_refl _, Nat.le_refl _, Nat.le_refl _⟩
    · have := ih hp; simp only [textN, parts, Tm.depth, List.length_cons]; omega
  | fix f c b ih =>
    simp only [parts, List.mem_cons] at hp
    rcases hp with rfl | hp
    · exact ⟨Nat.le_refl _, Nat.le_refl _, Nat.le_refl _⟩
    · have := ih hp; simp only [textN, parts, Tm.depth, List.length_cons]; omega
  | app f a h1 h2 =>
    simp only [parts, List.mem_cons, List.mem_append] at hp
    rcases hp with rfl | hp | hp
    · exact ⟨Nat.le_refl _, Nat.le_refl _, Nat.le_refl _⟩
    · have := h1 hp; simp only [textN, parts, Tm.depth, List.length_cons, List.length_append]; omega
    · have := h2 hp; simp only [textN, parts, Tm.depth, List.length_cons, List.length_append]; omega
  | bind c f a h1 h2 =>
    simp only [parts, List.mem_cons, List.mem_append] at hp
    rcases hp with rfl | hp | hp
    · exact ⟨Nat.le_refl _, Nat.le_refl _, Nat.le_refl _⟩
    · have := h1 hp; simp only [textN, parts, Tm.depth, List.length_cons, List.length_append]; omega
    · have := h2 hp; simp only [textN, parts, Tm.depth, List.length_cons, List.length_append]; omega
  | op c f a h1 h2 =>
    simp only [parts, List.mem_cons, List.mem_append] at hp
    rcases hp with rfl | hp | hp
    · exact ⟨Nat.le_refl _, Nat.le_refl _, Nat.le_refl _⟩
    · have := h1 hp; simp only [textN, parts, Tm.depth, List.length_cons, List.length_append]; omega
    · have := h2 hp; simp only [textN, parts, Tm.depth, List.length_cons, List.length_append]; omega
  | sel a b c h1 h2 h3 =>
    simp only [parts, List.mem_cons, List.mem_append] at hp
    rcases hp with rfl | hp | hp | hp
    · exact ⟨Nat.le_refl _, Nat.le_refl _, Nat.le_refl _⟩
    · have := h1 hp; simp only [textN, parts, Tm.depth, List.length_cons, List.length_append]; omega
    · have := h2 hp; simp only [textN, parts, Tm.depth, List.length_cons, List.length_append]; omega
    · have := h3 hp; simp only [textN, parts, Tm.depth, List.length_cons, List.length_append]; omega
theorem depth_parts (t : Tm) : t.depth ≤ (parts t).length := by
  induction t with
  | num n => simp [Tm.depth, parts]
  | var c => simp [Tm.depth, parts]
  | _ => simp only [Tm.depth, parts, List.length_cons, List.length_append]; omega
/-- A part's text reads as the part. -/
theorem part_read {s : Text} {T p : Tm} (h : readS s = some T) (hp : p ∈ parts T) : readS (textN p) = some p := by
  have h1 := part_le hp
  have h2 := readS_nest h
  have h3 := readS_text h
  obtain ⟨_, _, _, h4⟩ := readS_some h
  rw [← h3] at h4
  exact text_readS (parts_good (readS_good h) hp) (by omega) (by omega)
theorem kValidT {s : Text} {T : Tm} (hT : readS s = some T) (hs : s.length ≤ 100000) (w : World) : Calls Try.prog 11 #[.string ⟨s.toArray⟩] w fun e w' => e = .returned (.bool true) ∧ Below w.heap.size w w' := by have h := kValid s hs w; rw [hT] at h; exact h
theorem rows_len {s : Text} {T : Tm} (h : readS s = some T) : (parts T).length ≤ 120 := readS_parts h

end Go.Proofs.Ytencgkhofjmdhaa
