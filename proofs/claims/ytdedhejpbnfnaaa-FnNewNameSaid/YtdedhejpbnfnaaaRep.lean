/- A term as the model holds it, in memory. -/
import Derived.Test.YtdedhejpbnfnaaaSpB
namespace Go.Proofs.Ytdedhejpbnfnaaa
open Go.RowKit
open Ff
set_option linter.unusedVariables false

def kindOf : Tm → Nat
  | .num _ => 110 | .var _ => 118 | .fn _ _ => 92 | .fix _ _ _ => 64 | .app _ _ => 40 | .bind _ _ _ => 61 | .op s _ _ => s.toNat | .sel _ _ _ => 63
def numOf : Tm → Nat
  | .num n => n | _ => 0
def namesOf : Tm → Text
  | .var c => [c] | .fn c _ => [c] | .fix f c _ => [f, c] | .bind c _ _ => [c] | _ => []
/-- The cells of a term whose kids lie in block g. -/
def tmHead (t : Tm) (g cap : Nat) : Value := .agg #[.int .u8 (kindOf t : Int), .int .i64 (numOf t : Int), .string ⟨(namesOf t).toArray⟩, .slice (some ⟨g, 0, none⟩) t.kids.length cap]
/-- Four cells out of a row. -/
def four (c : Nat → Value) (i : Nat) : Value := .agg #[c (4 * i), c (4 * i + 1), c (4 * i + 2), c (4 * i + 3)]
/-- The value v stands for the term t in the world w; S holds of all blocks in which it lies. -/
inductive Rep (S : Nat → Prop) (w : World) : Tm → Value → Prop
  | mk (t : Tm) (g cap : Nat) (c : Nat → Value) (hg : S g) (hc : ∀ k, k < 4 * t.kids.length → w.cell? ⟨g, k, none⟩ = some (c k))
      (hk : ∀ i s, t.kids[i]? = some s → Rep S w s (four c i)) : Rep S w t (tmHead t g cap)
theorem Rep.keep {S S' : Nat → Prop} {w w' : World} {t : Tm} {v : Value} (h : Rep S w t v) (hb : ∀ g, S g → w'.heap[g]? = w.heap[g]?) (hS : ∀ g, S g → S' g) : Rep S' w' t v := by
  induction h with
  | mk t g cap c hg hc hk ih => exact .mk t g cap c (hS g hg) (fun k hk => (World.cell?_of_block (a := ⟨g, k, none⟩) (hb g hg)).trans (hc k hk)) ih
/-- Four cells that are a term's, whatever it is. -/
def Junk (v : Value) : Prop := ∃ (k n : Int) (s : ByteArray) (a : Option Addr) (l c : Nat), v = .agg #[.int .u8 k, .int .i64 n, .string s, .slice a l c]
theorem Rep.junk {S : Nat → Prop} {w : World} {t : Tm} {v : Value} (h : Rep S w t v) : Junk v := by
  cases h with
  | mk g cap c hg hc hk => exact ⟨_, _, _, _, _, _, rfl⟩
/-- The blocks that have come between two worlds. -/
def New (w w' : World) (g : Nat) : Prop := w.heap.size ≤ g ∧ g < w'.heap.size
/-- What a read of a term comes to. -/
def TermPostS (b : Nat) (T : Text) (deep : Int) (w : World) : Option (Tm × Text) → Ending → World → Prop
  | some (t, r), e, w' => ∃ v, e = .returned v ∧ w.grownBy w' (some b) ∧ Good b T r deep w' ∧ Rep (New w w') w' t v
  | none, e, w' => ∃ v, e = .returned v ∧ w.grownBy w' (some b) ∧ Bad b T w' ∧ Junk v
/-- So many terms at the front; of nothing there are none. -/
def kidsN (m : Nat) : Nat → Option Text → Option (List Tm × Text)
  | 0, s => s.map fun s => ([], s)
  | k + 1, s => (kidsN m k s).bind fun l => (parse m l.2).bind fun x => some (l.1 ++ [x.1], x.2)
/-- The reader is at the rest, or bad. -/
def Start (b : Nat) (T : Text) (deep : Int) (w : World) : Option Text → Prop
  | some s => Good b T s deep w
  | none => Bad b T w
end Go.Proofs.Ytdedhejpbnfnaaa
