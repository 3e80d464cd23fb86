/- The program's depth of a term: the function itself. -/
import Derived.Test.YtdedhejpbnfnaaaDpA
import Derived.Outline
namespace Go.Proofs.Ytdedhejpbnfnaaa
open Go.RowKit
open Ff

/-- The greatest depth in a list of terms. -/
def md (l : List Tm) : Nat := l.foldl (fun m t => max m t.depth) 0
theorem md_take (l : List Tm) (k : Nat) (t : Tm) (h : l[k]? = some t) : md (l.take (k + 1)) = max (md (l.take k)) t.depth := by
  unfold md
  rw [List.take_add_one, h]
  simp [List.foldl_append]
theorem md_kids (t : Tm) : t.depth = md t.kids + 1 := by cases t <;> simp [Tm.depth, Tm.kids, md, Nat.max_assoc]
theorem kid_depth {t s : Tm} (h : s ∈ t.kids) : s.depth + 1 ≤ t.depth := by
  cases t with
  | num n => simp [Tm.kids] at h
  | var c => simp [Tm.kids] at h
  | fn c b => simp only [Tm.kids, List.mem_singleton] at h; subst h; simp [Tm.depth]
  | fix f c b => simp only [Tm.kids, List.mem_singleton] at h; subst h; simp [Tm.depth]
  | app f a => simp only [Tm.kids, List.mem_cons, List.not_mem_nil, or_false] at h; simp only [Tm.depth]; rcases h with h | h <;> subst h <;> omega
  | bind c f a => simp only [Tm.kids, List.mem_cons, List.not_mem_nil, or_false] at h; simp only [Tm.depth]; rcases h with h | h <;> subst h <;> omega
  | op c f a => simp only [Tm.kids, List.mem_cons, List.not_mem_nil, or_false] at h; simp only [Tm.depth]; rcases h with h | h <;> subst h <;> omega
  | sel a b c => simp only [Tm.kids, List.mem_cons, List.not_mem_nil, or_false] at h; simp only [Tm.depth]; rcases h with h | h | h <;> subst h <;> omega
/-- The slice v of the world w lists the values l. -/
theorem SliceOf.uni {B : Nat} {w : World} {v : Value} {l : List Value} (h : SliceOf B w v l) : ∃ a, v = .slice a l.length l.length ∧ ∀ i x, l[i]? = some x → ∃ g, a = some ⟨g, 0, none⟩ ∧ B ≤ g ∧ g < w.heap.size ∧ w.cell? ⟨g, i, none⟩ = some x := by
  rcases h with ⟨rfl, rfl⟩ | ⟨_, g, rfl, h1, h2, h3⟩
  · exact ⟨none, rfl, fun i x hx => by simp at hx⟩
  · exact ⟨_, rfl, fun i x hx => ⟨g, rfl, h1, h2, h3 i x hx⟩⟩

theorem max_int (a b : Nat) : Value.int .i64 (if a < b then (b : Int) else (a : Int)) = .int .i64 ((max a b : Nat) : Int) := by
  by_cases h : a < b
  · rw [if_pos h, Nat.max_eq_right (by omega)]
  · rw [if_neg h, Nat.max_eq_left (by omega)]
end Go.Proofs.Ytdedhejpbnfnaaa
