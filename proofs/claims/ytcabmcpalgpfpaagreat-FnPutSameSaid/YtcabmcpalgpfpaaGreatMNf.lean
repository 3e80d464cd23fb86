import Derived.Test.YtcabmcpalgpfpaaGreatNa
import Derived.Test.YtcabmcpalgpfpaaGreatMPe
import Derived.Test.YtcabmcpalgpfpaaGreatMPg
import Derived.Test.YtcabmcpalgpfpaaGreatPuW
import Derived.Test.YtcabmcpalgpfpaaGreatMNb
/- Nameless: the specification's. -/
namespace Go.Proofs.YtcabmcpalgpfpaaGreat
open Go.RowKit
open Ff
set_option linter.unusedVariables false

/-- f tells how many names stand behind one in the text. -/
def Inner (ar : Text) (f : UInt8 → Int) : Prop := ∀ c, (c ∉ ar → f c = -1) ∧ ∀ k : Nat, ar[k]? = some c → (∀ j : Nat, k < j → ar[j]? ≠ some c) → f c = (ar.length : Int) - 1 - k
theorem inner_nil : Inner [] (fun _ => -1) := fun c => ⟨fun _ => rfl, fun k h => by simp at h⟩
theorem inner_over {ar ns : Text} {f : UInt8 → Int} (h : Inner ar f) (hd : Dif ns) : Inner (ar ++ ns) (deeper ns f) := by
  intro c
  obtain ⟨h1, h2⟩ := h c
  by_cases hc : c ∈ ns
  · have hex : ∃ i, ns[i]? = some c ∧ c ∉ ns.take i := by
      clear h1 h2 hd h
      induction ns with
      | nil => cases hc
      | cons a s ih =>
        by_cases e : c = a
        · subst e; exact ⟨0, rfl, by simp⟩
        · have hm : c ∈ s := by
            rcases List.mem_cons.1 hc with h | h
            · exact absurd h e
            · exact h
          obtain ⟨j, h1, h2⟩ := ih hm
          exact ⟨j + 1, by simpa using h1, by simp only [List.take_succ_cons, List.mem_cons, not_or]; exact ⟨e, h2⟩⟩
    obtain ⟨i, hi, hni⟩ := hex
    have hil := (List.getElem?_eq_some_iff.1 hi).1
    refine ⟨fun hn => absurd (List.mem_append_right _ hc) hn, fun k hk hno => ?_⟩
    have e : deeper ns f c = (ns.length : Int) - 1 - i := by
      unfold deeper
      rw [findI_at hi hni, if_pos (by omega)]
    rw [e]
    have hki : ¬ k < ar.length + i := fun hlt => hno (ar.length + i) hlt (by rw [List.getElem?_append_right (by omega), show ar.length + i - ar.length = i by omega]; exact hi)
    rw [List.getElem?_append_right (by omega)] at hk
    have hk2 : k - ar.length = i := by
      rcases Nat.lt_or_ge i (k - ar.length) with h3 | h3
      · exact absurd hk (hd i (k - ar.length) c h3 hi)
      · omega
    rw [List.length_append]
    omega
  · have e : deeper ns f c = if f c = -1 then -1 else f c + ns.length := by
      unfold deeper
      rw [findI_none hc, if_neg (by omega)]
    rw [e]
    refine ⟨fun hn => ?_, fun k hk hno => ?_⟩
    · rw [if_pos (h1 (fun h => hn (List.mem_append_left _ h)))]
    · have hkl : k < ar.length := by
        rcases Nat.lt_or_ge k ar.length with h3 | h3
        · exact h3
        · rw [List.getElem?_append_right h3] at hk
          exact absurd (List.mem_of_getElem? hk) hc
      rw [List.getElem?_append_left hkl] at hk
      have h3 := h2 k hk (fun j hj hjk => hno j hj (by rw [List.getElem?_append_left (List.getElem?_eq_some_iff.1 hjk).1]; exact hjk))
      rw [if_neg (by omega), List.length_append]
      omega
/-- The texts of the first so many kids. -/
def nlTo (n : Nat) (f : UInt8 → Int) (t : Tm) (k : Nat) : Text := (((t.kids.mapIdx (knK n f t)).take k).map (knText n)).flatten
theorem nlTo_succ {n : Nat} {f : UInt8 → Int} {t s : Tm} {k : Nat} (h : t.kids[k]? = some s) : nlTo n f t (k + 1) = nlTo n f t k ++ nlT n (if k + 1 = t.kids.length then deeper (bindsOf t) f else f) s := by
  unfold nlTo
  rw [List.take_add_one, List.getElem?_mapIdx, h]
  simp [knK, nlT]
theorem nlT_len : ∀ (n : Nat) (f : UInt8 → Int) (t : Tm), t.depth ≤ n → t.good → OkF n f → (nlT n f t).length ≤ 4 * (parts t).length ∧ ∀ k, (nlTo (n - 1) f t k).length + 2 ≤ 4 * (parts t).length
  | 0, f, t, hd, _, _ => absurd hd (by have := t.depth_pos; omega)
  | n + 1, f, t, hd, hg, hf => by
    have hpp : 1 ≤ (parts t).length := by cases t <;> simp [parts]
    have hto : ∀ k, (nlTo n f t k).length ≤ 4 * (before t k).length - 4 ∧ 1 ≤ (before t k).length := by
      intro k
      induction k with
      | zero => exact ⟨by simp [nlTo], by simp [before]⟩
      | succ k ih =>
        rcases hs : t.kids[k]? with _ | s
        · have e1 : nlTo n f t (k + 1) = nlTo n f t k := by
            unfold nlTo
            rw [List.take_add_one, List.getElem?_mapIdx, hs]
            simp
          have e2 : before t (k + 1) = before t k := by
            unfold before
            rw [List.take_add_one, hs]
            simp
          rw [e1, e2]; exact ih
        · have hm := List.mem_of_getElem? hs
          have hdk := kid_depth hm
          have h1 := (nlT_len n (if k + 1 = t.kids.length then deeper (bindsOf t) f else f) s (by omega) (Tm.kid_good hg hm) (by split; exact okF_deeper hf (binds_len t); exact okF_less hf)).1
          have e2 : (before t (k + 1)).length = (before t k).length + (parts s).length := by
            rw [before_succ t k s hs, List.length_append]
          rw [nlTo_succ hs, List.length_append, e2]
          omega
    have hle : ∀ k, (nlTo n f t k).length + 2 ≤ 4 * (parts t).length := fun k => by
      have h1 := hto k
      have h2 := before_le t k
      omega
    refine ⟨?_, hle⟩
    by_cases hk : t.kids = []
    · cases t with
      | num k =>
        rw [nlT_num]
        have := dec_len k
        unfold numN
        split
        · omega
        · simp only [List.length_cons]; omega
      | var c =>
        by_cases e : f c = -1
        · rw [nlT_free n hg e]; simp; omega
        · rw [nlT_bound n e]
          have := dec_len (f c).toNat
          simp only [List.length_cons, List.length_append, List.length_nil]
          omega
      | _ => simp [Tm.kids] at hk
    · have h1 := hle t.kids.length
      unfold nlTo at h1
      rw [List.take_of_length_le (by simp)] at h1
      rw [nlT_node n f hg hk]
      unfold tailN
      simp only [List.length_cons, List.length_append]
      split <;> simp only [List.length_cons, List.length_nil] <;> omega
theorem nl_all {n : Nat} {f : UInt8 → Int} {t : Tm} (hg : t.good) (hk : t.kids ≠ []) : nlT (n + 1) f t = headN t :: (nlTo n f t t.kids.length ++ tailN t) := by
  rw [nlT_node n f hg hk]
  unfold nlTo
  rw [List.take_of_length_le (by simp)]
end Go.Proofs.YtcabmcpalgpfpaaGreat

/- FnExactSameTerm and Nameless: the specification's Nameless and SameTerm; the law. -/
namespace Go.Proofs.YtcabmcpalgpfpaaGreat
open Go.RowKit
open Ff
set_option linter.unusedVariables false

/-- What Nameless comes to. -/
def nlO (s : Text) : Option Text := (readS s).map (nlT 24 noF)
def ntO : Option Text → Text
  | some x => x | none => []
end Go.Proofs.YtcabmcpalgpfpaaGreat
