import Derived.Test.YtkelncocppiepaaGreatDoorUa
import Derived.Test.YtkelncocppiepaaGreatDoorMPu
/- Unique: the program's names that are pulled, and what names stand for. -/
namespace Go.Proofs.YtkelncocppiepaaGreatDoor
open Go.RowKit
open Ff
set_option linter.unusedVariables false
attribute [local go_sem] Oper.semAt_some

/-- Block b of the world holds the names u, which are taken. -/
def Took (w : World) (b : Nat) (u : Text) : Prop := ∃ (n : Nat) (m : UInt8 → Nat), Tally w b n m ∧ n ≤ 4000 + u.length ∧ ∀ c, m c = 0 ↔ c ∉ u
theorem Took.kept {w w' : World} {row : Option Nat} {b : Nat} {u : Text} (h : Took w b u) (hg : w.grownBy w' row) (hne : some b ≠ row) : Took w' b u := by
  obtain ⟨n, m, h1, h2⟩ := h
  exact ⟨n, m, h1.kept hg hne, h2⟩
theorem Took.below {w w' : World} {b : Nat} {u : Text} (h : Took w b u) (hg : Below w.heap.size w w') : Took w' b u := by
  obtain ⟨n, m, h1, h2⟩ := h
  exact ⟨n, m, h1.below hg, h2⟩
theorem Took.lt {w : World} {b : Nat} {u : Text} (h : Took w b u) : b < w.heap.size := by
  obtain ⟨n, m, h1, h2⟩ := h
  exact h1.lt
theorem took_new {m : UInt8 → Nat} {u : Text} (h : ∀ c, m c = 0 ↔ c ∉ u) : (butTo m 16).head? = newO u := by
  unfold newO butTo
  rw [show letters.take 16 = letters from rfl]
  have h0 : ∀ (l : Text), (l.filter (fun c => decide (m c = 0))).head? = l.find? (fun c => decide (c ∉ u)) := by
    intro l
    induction l with
    | nil => rfl
    | cons c l ih =>
      have e : decide (m c = 0) = decide (c ∉ u) := by rw [decide_eq_decide]; exact h c
      simp only [List.filter_cons, List.find?_cons, ← e]
      cases decide (m c = 0) <;> simp [ih]
  exact h0 letters
/-- .. one more. -/
theorem took_upd {m : UInt8 → Nat} {u : Text} (h : ∀ c, m c = 0 ↔ c ∉ u) (d : UInt8) (c : UInt8) : upd m d 1 c = 0 ↔ c ∉ u ++ [d] := by
  unfold upd
  by_cases e : c = d
  · subst e; simp
  · simp [e, h c]
/-- A function that tells what a name stands for. -/
def Stands (b : Nat) (w : World) (fv : Value) (env : UInt8 → UInt8) : Prop :=
  ∃ (f : FuncId) (cap : Array Value), fv = .func (.func f) #[] cap ∧ (∀ (W : World) (v : Value), (callFunc f (#[v] ++ cap)).run Tryz.prog W = .ok (.enter f (#[v] ++ cap)) W) ∧
    ∀ (W : World), w.grownBy W (some b) → ∀ c, Calls Tryz.prog f (#[bv c] ++ cap) W fun e W' => e = .returned (bv (env c)) ∧ Below W.heap.size W W'
theorem Stands.keep {b : Nat} {w w' : World} {fv : Value} {env : UInt8 → UInt8} (h : Stands b w fv env) (hg : w.grownBy w' (some b)) : Stands b w' fv env := by
  obtain ⟨f, cap, h1, h2, h3⟩ := h
  exact ⟨f, cap, h1, h2, fun W hW => h3 W (hg.trans hW)⟩
theorem first_at {c : UInt8} : ∀ {s : Text}, c ∈ s → ∃ j, s[j]? = some c ∧ c ∉ s.take j
  | [], h => by cases h
  | a :: s, h => by
    by_cases e : c = a
    · subst e; exact ⟨0, rfl, by simp⟩
    · have hm : c ∈ s := by
        rcases List.mem_cons.1 h with h | h
        · exact absurd h e
        · exact h
      obtain ⟨j, h1, h2⟩ := first_at hm
      exact ⟨j + 1, by simpa using h1, by simp only [List.take_succ_cons, List.mem_cons, not_or]; exact ⟨e, h2⟩⟩
theorem over_in {ns ms : Text} (hl : ms.length = ns.length) (e : UInt8 → UInt8) {c : UInt8} (h : c ∈ ns) : ∃ (i : Nat) (d : UInt8), findI c ns = (i : Int) ∧ ms[i]? = some d ∧ over ns ms e c = d := by
  induction ns generalizing ms with
  | nil => cases h
  | cons a ns ih =>
    match ms, hl with
    | m :: ms, hl =>
      by_cases hca : c = a
      · subst hca
        exact ⟨0, m, by rw [findI_at (k := 0) rfl (by simp)], rfl, by simp [over]⟩
      · have hm : c ∈ ns := by
          rcases List.mem_cons.1 h with h | h
          · exact absurd h hca
          · exact h
        obtain ⟨i, d, h1, h2, h3⟩ := ih (ms := ms) (by simpa using hl) hm
        have h4 := findI_mem c ns
        obtain ⟨j, hj, hnj⟩ : ∃ j, ns[j]? = some c ∧ c ∉ ns.take j := by
          obtain ⟨j, hj⟩ := first_at hm
          exact ⟨j, hj⟩
        have e1 := findI_at hj hnj
        rw [h1] at e1
        obtain rfl : i = j := by omega
        refine ⟨i + 1, d, ?_, h2, ?_⟩
        · rw [findI_at (k := i + 1) (by simpa using hj) (by simp only [List.take_succ_cons, List.mem_cons, not_or]; exact ⟨hca, hnj⟩)]
        · unfold over at h3 ⊢
          rw [List.zip_cons_cons, List.lookup_cons, show (c == a) = false by simpa using hca]
          exact h3
theorem over_out {ns ms : Text} (e : UInt8 → UInt8) {c : UInt8} (h : c ∉ ns) : over ns ms e c = e c := by
  unfold over
  have : (ns.zip ms).lookup c = none := by
    induction ns generalizing ms with
    | nil => simp
    | cons a ns ih =>
      cases ms with
      | nil => simp
      | cons m ms =>
        simp only [List.mem_cons, not_or] at h
        rw [List.zip_cons_cons, List.lookup_cons, show (c == a) = false by simpa using h.1]
        exact ih h.2
  rw [this]; rfl
end Go.Proofs.YtkelncocppiepaaGreatDoor

/- Unique: the program's visit of the kids, where visitors take names. -/
namespace Go.Proofs.YtkelncocppiepaaGreatDoor
open Go.RowKit
open Ff
set_option linter.unusedVariables false
attribute [local go_sem] Oper.semAt_some

theorem row_keepB {W W' : World} {base b : Nat} {e : TypeId} {size n g cap : Nat} {xs : List Value} (h : W.ownsRow base e size (.slice (some ⟨g, 0, none⟩) n cap) n xs) (hb : W.grownBy W' (some b)) (hg : g ≠ b) : W'.ownsRow base e size (.slice (some ⟨g, 0, none⟩) n cap) n xs :=
  World.ownsRow.kept (row := some b) h hb (.inr (by simp [Value.ownBlock, hg]))
/-- Cells of a row, kept. -/
def RowG (w : World) (a : Option Addr) (b r : Nat) (l : List Value) : Prop := ∀ i x, l[i]? = some x → ∃ g, a = some ⟨g, 0, none⟩ ∧ g ≠ b ∧ g ≠ r ∧ w.cell? ⟨g, i, none⟩ = some x
theorem RowG.kept {w w' : World} {a : Option Addr} {b r : Nat} {l : List Value} (h : RowG w a b r l) (hg : w.grownBy w' (some b)) : RowG w' a b r l := fun i x hx => by
  obtain ⟨g, h1, h2, h3, h4⟩ := h i x hx
  exact ⟨g, h1, h2, h3, hg.cell h4 (by simpa using h2)⟩
theorem RowG.set {w : World} {a : Option Addr} {b r : Nat} {l : List Value} (h : RowG w a b r l) (k : Nat) (v : Value) : RowG (w.setCell ⟨r, k, none⟩ v) a b r l := fun i x hx => by
  obtain ⟨g, h1, h2, h3, h4⟩ := h i x hx
  exact ⟨g, h1, h2, h3, by rw [World.cell?_setCell_other _ _ _ _ (by simp)]; exact h4⟩
theorem Took.set {w : World} {b : Nat} {u : Text} (h : Took w b u) {a : Addr} (ha : b ≠ a.block) (v : Value) : Took (w.setCell a v) b u := by
  obtain ⟨n, m, h1, h2⟩ := h
  exact ⟨n, m, h1.setCell ha v, h2⟩

end Go.Proofs.YtkelncocppiepaaGreatDoor
