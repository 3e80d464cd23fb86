/- The model's l1Long and l1Read: what a text is as a term, or none. -/
import Derived.Test.YtdedhejpbnfnaaaSpC
import Derived.Test.YtdedhejpbnfnaaaTmB
import Derived.Test.YtdedhejpbnfnaaaRead
namespace Go.Proofs.Ytdedhejpbnfnaaa
open Go.RowKit
open Ff
set_option linter.unusedVariables false

theorem readS_eq (s : Text) : readS s = readT s := by
  unfold readS readT
  split
  · rcases h1 : parse 24 s with _ | ⟨t, r⟩
    · rcases h2 : parse (s.length + 1) s with _ | ⟨t, r⟩
      · rfl
      · by_cases hd : t.depth ≤ 24
        · rw [(parse_any _ _ _ _ h2).2 24 hd] at h1; cases h1
        · simp [hd]
    · have hd := parse_depth _ _ _ _ h1
      obtain ⟨hl, ha⟩ := parse_any _ _ _ _ h1
      rw [ha (s.length + 1) (by omega)]
      simp [hd]
  · rfl

theorem Fz.keepNe {h b : Nat} {W W' : World} (f : Fz h W) (hg : W.grownBy W' (some b)) (hb : b ≠ h) : Fz h W' := by
  have s := f.sz
  have s1 := hg.size
  have e1 : W'.heap[h]? = W.heap[h]? := hg.block h (by omega) (by simp; omega)
  have c1 : ∀ j, W'.cell? ⟨h, j, none⟩ = W.cell? ⟨h, j, none⟩ := fun j => World.cell?_of_block (a := ⟨h, j, none⟩) e1
  have f1 : ∀ j, W'.frozen? ⟨h, j, none⟩ = W.frozen? ⟨h, j, none⟩ := fun j => World.frozen?_of_block (a := ⟨h, j, none⟩) e1
  exact ⟨(c1 _).trans f.p0, (c1 _).trans f.p1, (c1 _).trans f.p2, (c1 _).trans f.p3, (f1 _).trans f.q0, (f1 _).trans f.q1, (f1 _).trans f.q2, (f1 _).trans f.q3, by omega⟩
theorem Fz.keepBelow {h B : Nat} {W W' : World} (f : Fz h W) (hg : Below B W W') (hb : h < B) : Fz h W' := by
  have s := f.sz
  have s1 := hg.size
  have c1 : ∀ j, W'.cell? ⟨h, j, none⟩ = W.cell? ⟨h, j, none⟩ := fun j => hg.cell (p := ⟨h, j, none⟩) hb
  have f1 : ∀ j, W'.frozen? ⟨h, j, none⟩ = W.frozen? ⟨h, j, none⟩ := fun j => hg.frozen (p := ⟨h, j, none⟩) hb
  exact ⟨(c1 _).trans f.p0, (c1 _).trans f.p1, (c1 _).trans f.p2, (c1 _).trans f.p3, (f1 _).trans f.q0, (f1 _).trans f.q1, (f1 _).trans f.q2, (f1 _).trans f.q3, by omega⟩
/-- The zero value of the model's terms. -/
def zeroTm : Value := .agg #[.int .u8 0, .int .i64 0, .string ⟨#[]⟩, .slice none 0 0]
/-- What the reading of a text comes to. -/
def LongPost (w : World) : Option Tm → Ending → World → Prop
  | some t, e, w' => ∃ v, e = .returned (.tuple #[v, .bool true]) ∧ Below w.heap.size w w' ∧ Rep (New w w') w' t v
  | none, e, w' => e = .returned (.tuple #[zeroTm, .bool false]) ∧ Below w.heap.size w w'

end Go.Proofs.Ytdedhejpbnfnaaa
