/- The program's depth of a term: the function itself. -/
import Derived.Test.YtpiahmdgkmkhiaaDpA
import Derived.Outline
namespace Go.Proofs.Ytpiahmdgkmkhiaa
open Go.RowKit
open Ff

/-- The greatest depth in a list of terms. -/
def md (l : List Tm) : Nat := l.foldl (fun m t => max m t.depth) 0
theorem md_take (l : List Tm) (k : Nat) (t : Tm) (h : l[k]? = some t) : md (l.take (k + 1)) = max (md (l.take k)) t.depth := by
  unfold md
  rw [List.take_add_one, h]
  simp [List.foldl_append]
theorem md_kids (t : Tm) : t.depth = md t.kids + 1 := by cases t <;> simp [Tm.depth, Tm.kids, md, Nat.max_assoc]
theorem kid_depth {t s : Tm} (h : s ∈ t.kids) : s.depth + 1 ≤ t.depth := by
  cases t with
  | num n => simp [Tm.kids] at h
  | var c => simp [Tm.kids] at h
  | fn c b => simp only [Tm.kids, List.mem_singleton] at h; subst h; simp [Tm.depth]
  | fix f c b => simp only [Tm.kids, List.mem_singleton] at h; subst h; simp [Tm.depth]
  | app f a => simp only [Tm.kids, List.mem_cons, List.not_mem_nil, or_false] at h; simp only [Tm.depth]; rcases h with h | h <;> subst h <;> omega
  | bind c f a => simp only [Tm.kids, List.mem_cons, List.not_mem_nil, or_false] at h; simp only [Tm.depth]; rcases h with h | h <;> subst h <;> omega
  | op c f a => simp only [Tm.kids, List.mem_cons, List.not_mem_nil, or_false] at h; simp only [Tm.depth]; rcases h with h | h <;> subst h <;> omega
  | sel a b c => simp only [Tm.kids, List.mem_cons, List.not_mem_nil, or_false] at h; simp only [Tm.depth]; rcases h with h | h | h <;> subst h <;> omega
/-- The slice v of the world w lists the values l. -/
theorem SliceOf.uni {B : Nat} {w : World} {v : Value} {l : List Value} (h : SliceOf B w v l) : ∃ a, v = .slice a l.length l.length ∧ ∀ i x, l[i]? = some x → ∃ g, a = some ⟨g, 0, none⟩ ∧ B ≤ g ∧ g < w.heap.size ∧ w.cell? ⟨g, i, none⟩ = some x := by
  rcases h with ⟨rfl, rfl⟩ | ⟨_, g, rfl, h1, h2, h3⟩
  · exact ⟨none, rfl, fun i x hx => by simp at hx⟩
  · exact ⟨_, rfl, fun i x hx => ⟨g, rfl, h1, h2, h3 i x hx⟩⟩

theorem max_int (a b : Nat) : Value.int .i64 (if a < b then (b : Int) else (a : Int)) = .int .i64 ((max a b : Nat) : Int) := by
  by_cases h : a < b
  · rw [if_pos h, Nat.max_eq_right (by omega)]
  · rw [if_neg h, Nat.max_eq_left (by omega)]
def DepthC (n : Nat) : Prop := ∀ t : Tm, t.depth ≤ n → n ≤ 1000 → ∀ w, Calls Try.prog 41 #[enc t] w fun e w' => e = .returned (.int .i64 (t.depth : Int)) ∧ Below w.heap.size w w'

set_option maxHeartbeats 1000000 in
theorem depth_step (n : Nat) (ih : DepthC n) : DepthC (n + 1) := by
  intro t ht hn w
  have hk : t.kids.length ≤ 3 := by cases t <;> simp [Tm.kids]
  rw [enc_ty t]
  have HD := Lib.hid (md_kids t)
  have hm1 : md t.kids + 1 ≤ 1000 := by have := HD.out; omega
  go_enter Try.func41, Try.ntmps41
  go_wp2_with (refine wpList_invoke rfl _ _ (ty t) (pl t) rfl rfl (kf t) (kids_m t _ (by unfold KidsName; kernel_rfl) _) (kids_f t _) (fun v w' => SliceOf w.heap.size w' v (t.kids.map enc) ∧ Below w.heap.size w w') (kids_c t _) ?_; rintro x w1 ⟨hs, hb⟩; obtain ⟨a, rfl, hcell⟩ := hs.uni; clear hs; have HC := Lib.hid hcell; clear hcell)
  obtain ⟨W1, hW1⟩ : ∃ W1, w1 = W1 := ⟨_, rfl⟩
  subst hW1
  go_loopw [3, 9] (fun d i wr => ∃ k : Nat, k ≤ t.kids.length ∧ i = .int .i64 k ∧ d = .int .i64 (md (t.kids.take k) : Nat) ∧ Below w1.heap.size w1 wr) (fun _ i _ => t.kids.length - (intOf i).toNat)
  case atStart => exact ⟨0, Nat.zero_le _, rfl, rfl, Below.refl _ _⟩
  case round =>
    obtain ⟨k, hkl, rfl, rfl, hB⟩ := hrel
    by_cases hlt : k < t.kids.length
    · obtain ⟨s, hs⟩ : ∃ s, t.kids[k]? = some s := ⟨_, List.getElem?_eq_getElem hlt⟩
      obtain ⟨g, rfl, hg1, hg2, hc⟩ := HC.out k (enc s) (by simp [hs])
      have hc2 := (hB.cell (p := ⟨g, k, none⟩) hg2).trans hc
      have C := ih s (by have := kid_depth (List.mem_of_getElem? hs); omega) (by omega) wr
      have HS := Lib.hid hs
      clear hs hc HC
      go_wp2_with (go_at_call 41; refine C.mono ?_; rintro e w2 ⟨rfl, hb2⟩)
      refine ⟨⟨k + 1, by omega, by go_num, ?_, hB.trans (hb2.mono hB.size)⟩, by simp [intOf]; omega⟩
      rw [md_take _ _ _ HS.out]
      exact max_int _ _
    · have hk2 : k = t.kids.length := by omega
      have ht : t.kids.take k = t.kids := List.take_of_length_le (by omega)
      rw [ht]
      have HT := Lib.hid hk2
      clear hk2 ht
      go_wp2_with fail
      go_ret
      rw [HD.out]
      exact ⟨by simp, hb.trans (hB.mono hb.size)⟩
theorem depth_c : ∀ n, DepthC n
  | 0 => fun t ht _ => absurd ht (by have := t.depth_pos; omega)
  | n + 1 => depth_step n (depth_c n)
end Go.Proofs.Ytpiahmdgkmkhiaa
