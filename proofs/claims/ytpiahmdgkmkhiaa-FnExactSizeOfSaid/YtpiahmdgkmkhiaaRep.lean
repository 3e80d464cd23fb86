/- A term as the model holds it, in memory. -/
import Derived.Test.YtpiahmdgkmkhiaaSpB
namespace Go.Proofs.Ytpiahmdgkmkhiaa
open Go.RowKit
open Ff
set_option linter.unusedVariables false

def kindOf : Tm → Nat
  | .num _ => 110 | .var _ => 118 | .fn _ _ => 92 | .fix _ _ _ => 64 | .app _ _ => 40 | .bind _ _ _ => 61 | .op s _ _ => s.toNat | .sel _ _ _ => 63
def numOf : Tm → Nat
  | .num n => n | _ => 0
def namesOf : Tm → Text
  | .var c => [c] | .fn c _ => [c] | .fix f c _ => [f, c] | .bind c _ _ => [c] | _ => []
/-- The cells of a term whose kids lie in block g. -/
def tmHead (t : Tm) (g cap : Nat) : Value := .agg #[.int .u8 (kindOf t : Int), .int .i64 (numOf t : Int), .string ⟨(namesOf t).toArray⟩, .slice (some ⟨g, 0, none⟩) t.kids.length cap]
/-- Four cells out of a row. -/
def four (c : Nat → Value) (i : Nat) : Value := .agg #[c (4 * i), c (4 * i + 1), c (4 * i + 2), c (4 * i + 3)]
/-- The value v stands for the term t in the world w; S holds of all blocks in which it lies. -/
inductive Rep (S : Nat → Prop) (w : World) : Tm → Value → Prop
  | mk (t : Tm) (g cap : Nat) (c : Nat → Value) (hg : S g) (hc : ∀ k, k < 4 * t.kids.length → w.cell? ⟨g, k, none⟩ = some (c k))
      (hk : ∀ i s, t.kids[i]? = some s → Rep S w s (four c i)) : Rep S w t (tmHead t g cap)
theorem Rep.keep {S S' : Nat → Prop} {w w' : World} {t : Tm} {v : Value} (h : Rep S w t v) (hb : ∀ g, S g → w'.heap[g]? = w.heap[g]?) (hS : ∀ g, S g → S' g) : Rep S' w' t v := by
  induction h with
  | mk t g cap c hg hc hk ih => exact .mk t g cap c (hS g hg) (fun k hk => (World.cell?_of_block (a := ⟨g, k, none⟩) (hb g hg)).trans (hc k hk)) ih
/-- Four cells that are a term's, whatever it is. -/
def Junk (v : Value) : Prop := ∃ (k n : Int) (s : ByteArray) (a : Option Addr) (l c : Nat), v = .agg #[.int .u8 k, .int .i64 n, .string s, .slice a l c]
theorem Rep.junk {S : Nat → Prop} {w : World} {t : Tm} {v : Value} (h : Rep S w t v) : Junk v := by
  cases h with
  | mk g cap c hg hc hk => exact ⟨_, _, _, _, _, _, rfl⟩
/-- The blocks that have come between two worlds. -/
def New (w w' : World) (g : Nat) : Prop := w.heap.size ≤ g ∧ g < w'.heap.size
theorem Try.infoTerm : (Try.prog.info? 35).map (fun i => (i.zero, i.size, i.bytes)) = some (some (.agg #[.int .u8 0, .int .i64 0, .string ⟨#[]⟩, .slice none 0 0]), 4, 56) := by kernel_rfl

/-- What a read of a term comes to. -/
def TermPostS (b : Nat) (T : Text) (deep : Int) (w : World) : Option (Tm × Text) → Ending → World → Prop
  | some (t, r), e, w' => ∃ v, e = .returned v ∧ w.grownBy w' (some b) ∧ Good b T r deep w' ∧ Rep (New w w') w' t v
  | none, e, w' => ∃ v, e = .returned v ∧ w.grownBy w' (some b) ∧ Bad b T w' ∧ Junk v
/-- The reader of terms with m levels left; and where it is bad. -/
def TermS (m : Nat) : Prop := ∀ (b : Nat) (T s : Text) (w : World), Good b T s (24 - (m : Int)) w → T.length ≤ 1000 →
  Calls Try.prog 69 #[.pointer (some ⟨b, 0, none⟩)] w (TermPostS b T (24 - (m : Int)) w (parse m s))
def TermBad : Prop := ∀ (b : Nat) (T : Text) (w : World), Bad b T w → T.length ≤ 1000 →
  Calls Try.prog 69 #[.pointer (some ⟨b, 0, none⟩)] w fun e w' => ∃ v, e = .returned v ∧ w.grownBy w' (some b) ∧ Bad b T w' ∧ Junk v
/-- So many terms at the front; of nothing there are none. -/
def kidsN (m : Nat) : Nat → Option Text → Option (List Tm × Text)
  | 0, s => s.map fun s => ([], s)
  | k + 1, s => (kidsN m k s).bind fun l => (parse m l.2).bind fun x => some (l.1 ++ [x.1], x.2)
/-- The reader is at the rest, or bad. -/
def Start (b : Nat) (T : Text) (deep : Int) (w : World) : Option Text → Prop
  | some s => Good b T s deep w
  | none => Bad b T w
/-- After k terms. -/
def KidsAt (m : Nat) (b : Nat) (T : Text) (s : Option Text) (w : World) (k : Nat) (v : Value) (W : World) : Prop :=
  ∃ xs : List Value, W.ownsRow w.heap.size 35 4 v k xs ∧ v ≠ .slice none 0 0 ∧
    ((∃ ts r, kidsN m k s = some (ts, r) ∧ Good b T r (24 - (m : Int)) W ∧ ts.length = k ∧ ∀ i t, ts[i]? = some t → Rep (fun g => New w W g ∧ some g ≠ v.ownBlock) W t (four (fun j => (xs[j]?).getD undef) i)) ∨ (kidsN m k s = none ∧ Bad b T W))
/-- What a term comes to behind k others. -/
theorem kid_any {m b : Nat} {T : Text} {s : Option Text} {w W : World} {k : Nat} {v : Value} (ih : TermS m) (ib : TermBad) (h : KidsAt m b T s w k v W) (hl : T.length ≤ 1000) :
    ∃ xs : List Value, W.ownsRow w.heap.size 35 4 v k xs ∧ v ≠ .slice none 0 0 ∧ Calls Try.prog 69 #[.pointer (some ⟨b, 0, none⟩)] W fun e W' => ∃ (x n : Int) (str : ByteArray) (a : Option Addr) (l c : Nat), e = .returned (.agg #[.int .u8 x, .int .i64 n, .string str, .slice a l c]) ∧ W.grownBy W' (some b) ∧
      ((∃ ts r t, kidsN m (k + 1) s = some (ts ++ [t], r) ∧ Good b T r (24 - (m : Int)) W' ∧ ts.length = k ∧ (∀ i t, ts[i]? = some t → Rep (fun g => New w W g ∧ some g ≠ v.ownBlock) W t (four (fun j => (xs[j]?).getD undef) i)) ∧ Rep (New W W') W' t (.agg #[.int .u8 x, .int .i64 n, .string str, .slice a l c])) ∨ (kidsN m (k + 1) s = none ∧ Bad b T W')) := by
  obtain ⟨xs, hown, hv, ⟨ts, r, hk, hg, hlen, hrep⟩ | ⟨hk, hb⟩⟩ := h
  · refine ⟨xs, hown, hv, (ih b T r W hg hl).mono fun e W' hp => ?_⟩
    rcases ho : parse m r with _ | ⟨t, r2⟩
    · rw [ho] at hp
      obtain ⟨v2, he, hgr, hbad, x, n, str, a, l, c, rfl⟩ := hp
      exact ⟨x, n, str, a, l, c, he, hgr, .inr ⟨by simp [kidsN, hk, ho], hbad⟩⟩
    · rw [ho] at hp
      obtain ⟨v2, he, hgr, hgood, hr⟩ := hp
      obtain ⟨x, n, str, a, l, c, rfl⟩ := hr.junk
      exact ⟨x, n, str, a, l, c, he, hgr, .inl ⟨ts, r2, t, by simp [kidsN, hk, ho], hgood, hlen, hrep, hr⟩⟩
  · refine ⟨xs, hown, hv, (ib b T W hb hl).mono fun e W' hp => ?_⟩
    obtain ⟨v2, he, hgr, hbad, x, n, str, a, l, c, rfl⟩ := hp
    exact ⟨x, n, str, a, l, c, he, hgr, .inr ⟨by simp [kidsN, hk], hbad⟩⟩
end Go.Proofs.Ytpiahmdgkmkhiaa
