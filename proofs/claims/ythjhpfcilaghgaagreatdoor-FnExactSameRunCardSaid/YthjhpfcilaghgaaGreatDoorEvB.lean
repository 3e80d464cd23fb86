import Derived.Test.YthjhpfcilaghgaaGreatDoorEvA
import Derived.Test.YthjhpfcilaghgaaGreatDoorMDp
import Derived.Test.YthjhpfcilaghgaaGreatDoorMCt
import Derived.Defers
import Derived.Recover
/- The program's runner in memory: counts, places, bindings, closures. -/
namespace Go.Proofs.YthjhpfcilaghgaaGreatDoor
open Go.RowKit Go.Shelf
open Ff
set_option linter.unusedVariables false
variable {X : Nat → Prop}

abbrev ptr (b : Nat) : Value := .pointer (some ⟨b, 0, none⟩)
/-- The row of a list of numbers. -/
def intsV (l : List Nat) : List Value := l.map fun (n : Nat) => Value.int .i64 (n : Int)
/-- The row of the calls: who calls, and what. -/
def pairsV : List Nat → List Nat → List Value
  | p :: ps, i :: is => .int .i64 (p : Int) :: .int .i64 (i : Int) :: pairsV ps is
  | _, _ => []
theorem pairsV_add : ∀ (ps is : List Nat) (p i : Nat), ps.length = is.length → pairsV (ps ++ [p]) (is ++ [i]) = pairsV ps is ++ [.int .i64 (p : Int), .int .i64 (i : Int)]
  | [], [], _, _, _ => rfl
  | a :: ps, b :: is, p, i, h => by
    have := pairsV_add ps is p i (by simpa using h)
    simp only [List.cons_append, pairsV, this]
  | [], _ :: _, _, _, h => by simp at h
  | _ :: _, [], _, _, h => by simp at h
/-- An interface that holds something, or nothing. -/
def IF : Option (TypeId × Value) → Value
  | none => .nilIface
  | some (t, v) => .iface t v
theorem storeIF {P : Program} {w : World} {a : Addr} {m : Mode} (o : Option (TypeId × Value)) : (store a (IF o) m).run P w = stored P w a (IF o) m := by
  rcases o with _ | ⟨t, v⟩
  · exact run_store P w a _ m rfl
  · exact run_store P w a _ m rfl
/-- The runner's rows: its calls, and what it has enclosed. -/
structure Rw where
  c : Value
  d : Value
def Rw.own (v : Rw) (j : Nat) : Prop := v.c.ownBlock = some j ∨ v.d.ownBlock = some j
/-- The runner's cells. -/
abbrev runC (s : St) (cv : Rw) (k : Int) : Array Value := #[.int .i64 (s.steps : Int), .int .i64 (s.calls : Int), .int .i64 (s.clos : Int), .int .i64 (s.capt : Int), .int .i64 (s.deepest : Int), .int .i64 1500, .int .i64 (s.depth : Int), cv.c, cv.d, .int .i64 k, .nilFunc]
/-- The runner r has done s; cv lists the calls that it has made, and what it has enclosed. -/
structure RunAt (X : Nat → Prop) (r : Nat) (cv : Rw) (w : World) (s : St) : Prop where
  cells : ∃ k, w.heap[r]? = some (.cells (runC s cv k) 66 (0, 0))
  row : w.ownsRow (r + 1) 85 2 cv.c s.called.length (pairsV s.froms s.called)
  rowD : w.ownsRow (r + 1) 3 1 cv.d s.encl.length (intsV s.encl)
  len : s.froms.length = s.called.length
  sep : ∀ j, cv.c.ownBlock = some j → cv.d.ownBlock ≠ some j
  priv : ∀ g, X g → g < w.heap.size
theorem RunAt.lt {X : Nat → Prop} {r : Nat} {cv : Rw} {w : World} {s : St} (h : RunAt X r cv w s) : r < w.heap.size := by
  obtain ⟨k, h⟩ := h.cells
  exact (Array.getElem?_eq_some_iff.1 h).1
theorem RunAt.owns {X : Nat → Prop} {r : Nat} {cv : Rw} {w : World} {s : St} (h : RunAt X r cv w s) (j : Nat) (hj : cv.own j) : r + 1 ≤ j ∧ j < w.heap.size :=
  hj.elim (World.ownsRow.lt h.row j) (World.ownsRow.lt h.rowD j)
/-- What lay elsewhere lies as it lay. -/
structure Kep (r : Nat) (cv : Rw) (w : World) (cv' : Rw) (w' : World) : Prop where
  os : w'.os = w.os
  tape : w'.tape = w.tape
  output : w'.output = w.output
  size : w.heap.size ≤ w'.heap.size
  block : ∀ j, j < w.heap.size → j ≠ r → ¬ cv.own j → w'.heap[j]? = w.heap[j]?
  own : ∀ j, cv'.own j → cv.own j ∨ w.heap.size ≤ j
theorem Kep.refl (r : Nat) (cv : Rw) (w : World) : Kep r cv w cv w := ⟨rfl, rfl, rfl, Nat.le_refl _, fun _ _ _ _ => rfl, fun _ h => .inl h⟩
theorem Kep.trans {r : Nat} {c0 c1 c2 : Rw} {w0 w1 w2 : World} (h : Kep r c0 w0 c1 w1) (k : Kep r c1 w1 c2 w2) : Kep r c0 w0 c2 w2 := by
  refine ⟨k.os.trans h.os, k.tape.trans h.tape, k.output.trans h.output, Nat.le_trans h.size k.size, fun j hj hr hc => ?_, fun j hj => ?_⟩
  · rw [k.block j (Nat.lt_of_lt_of_le hj h.size) hr (fun e => (h.own j e).elim hc (fun h => by omega))]
    exact h.block j hj hr hc
  · rcases k.own j hj with h1 | h1
    · exact h.own j h1
    · exact .inr (Nat.le_trans h.size h1)
theorem Kep.below {r : Nat} {cv : Rw} {w w' : World} (h : Below w.heap.size w w') : Kep r cv w cv w' := ⟨h.os, h.tape, h.output, h.size, fun j hj _ _ => h.block j hj, fun _ h => .inl h⟩
/-- The blocks that a run leaves alone. -/
def Safe (X : Nat → Prop) (r : Nat) (cv : Rw) (w : World) (g : Nat) : Prop := g < w.heap.size ∧ g ≠ r ∧ ¬ cv.own g ∧ ¬ X g
def NoX : Nat → Prop := fun _ => False
/-- .. and one block more that is its own. -/
def AndX (X : Nat → Prop) (b : Nat) : Nat → Prop := fun g => X g ∨ g = b
theorem Kep.safe {r : Nat} {c0 c1 : Rw} {w0 w1 : World} (h : Kep r c0 w0 c1 w1) {g : Nat} (hs : Safe X r c0 w0 g) : w1.heap[g]? = w0.heap[g]? ∧ Safe X r c1 w1 g :=
  ⟨h.block g hs.1 hs.2.1 hs.2.2.1, Nat.lt_of_lt_of_le hs.1 h.size, hs.2.1, fun e => (h.own g e).elim hs.2.2.1 (fun k => by have := hs.1; omega), hs.2.2.2⟩

/-- A part where it stands. -/
inductive PlaceR (S : Nat → Prop) (w : World) : Tm → Nat → Value → Prop
  | mk (t : Tm) (i b g cap : Nat) (kv : Value) (pk : Nat → Value) (hb : S b) (c0 : w.cell? ⟨b, 0, none⟩ = some (enc t)) (c1 : w.cell? ⟨b, 1, none⟩ = some (.int .i64 (i : Int))) (c3 : w.cell? ⟨b, 3, none⟩ = some kv)
      (c4 : w.cell? ⟨b, 4, none⟩ = some (.int .i64 (if isFun t then ((sfree t).length : Nat) else 0)))
      (hkv : t.kids ≠ [] → kv = .slice (some ⟨g, 0, none⟩) t.kids.length cap ∧ S g)
      (hc : ∀ k s, t.kids[k]? = some s → w.cell? ⟨g, k, none⟩ = some (pk k)) (hk : ∀ k s, t.kids[k]? = some s → PlaceR S w s (i + (before t k).length) (pk k)) : PlaceR S w t i (ptr b)
/-- Where a pointer leads. -/
def ptrN : Value → Nat
  | .pointer (some a) => a.block + 1
  | _ => 0
/-- How a closure's names lie: the function itself may be one. -/
def CloEnv (S : Nat → Prop) (w : World) (t : Tm) (b : Nat) (ee e0 : Value) : Prop := match t with
  | .fix f _ _ => ∃ bs, ee = ptr bs ∧ S bs ∧ w.cell? ⟨bs, 0, none⟩ = some (.int .u8 (f.toNat : Int)) ∧ w.cell? ⟨bs, 1, none⟩ = some (.int .i64 0) ∧ w.cell? ⟨bs, 2, none⟩ = some (.iface 179 (ptr b)) ∧ w.cell? ⟨bs, 3, none⟩ = some e0 ∧ ptrN e0 ≤ bs
  | _ => ee = e0
def paramOf : Tm → UInt8
  | .fn c _ => c
  | .fix _ c _ => c
  | _ => 0
mutual
/-- A value of a run. -/
inductive RepV (r : Nat) (S : Nat → Prop) (w : World) : Vl → Value → Prop
  | num (n : Nat) : RepV r S w (.num n) (.agg #[.int .i64 (n : Int), .nilIface])
  | clo (i : Nat) (t : Tm) (e : En) (b br bp be bx : Nat) (pl ee e0 : Value) (hb : S b)
      (c1 : w.cell? ⟨b, 0, none⟩ = some (.func (.func 95) #[] #[ptr br, ptr bp, ptr be, ptr bx]))
      (hbr : S br) (cr : w.cell? ⟨br, 0, none⟩ = some (ptr r)) (hbp : S bp) (cp : w.cell? ⟨bp, 0, none⟩ = some pl) (hp : PlaceR S w t i pl)
      (hbe : S be) (ce : w.cell? ⟨be, 0, none⟩ = some ee) (hbx : S bx) (cx : w.cell? ⟨bx, 1, none⟩ = some (.int .u8 ((paramOf t).toNat : Int)))
      (hee : CloEnv S w t b ee e0) (he : RepE r S w e e0) : RepV r S w (.clo i t e) (.agg #[.int .i64 0, .iface 179 (ptr b)])
/-- What names are. -/
inductive RepE (r : Nat) (S : Nat → Prop) (w : World) : En → Value → Prop
  | nil : RepE r S w .nil (.pointer none)
  | cons (c : UInt8) (v : Vl) (e : En) (b : Nat) (a0 a1 e0 : Value) (hb : S b) (c0 : w.cell? ⟨b, 0, none⟩ = some (.int .u8 (c.toNat : Int))) (c1 : w.cell? ⟨b, 1, none⟩ = some a0) (c2 : w.cell? ⟨b, 2, none⟩ = some a1) (c3 : w.cell? ⟨b, 3, none⟩ = some e0) (ho : ptrN e0 ≤ b)
      (hv : RepV r S w v (.agg #[a0, a1])) (he : RepE r S w e e0) : RepE r S w (.cons c v e) (ptr b)
end
section
variable {S S' : Nat → Prop} {w w' : World} (H : ∀ g, S g → w'.heap[g]? = w.heap[g]? ∧ S' g)
include H
theorem cell_keep {b k : Nat} {v : Value} (hb : S b) (h : w.cell? ⟨b, k, none⟩ = some v) : w'.cell? ⟨b, k, none⟩ = some v := (World.cell?_of_block (a := ⟨b, k, none⟩) (H b hb).1).trans h
theorem PlaceR.keep {t : Tm} {i : Nat} {v : Value} (h : PlaceR S w t i v) : PlaceR S' w' t i v := by
  induction h with
  | mk t i b g cap kv pk hb c0 c1 c3 c4 hkv hc hk ih =>
    refine .mk t i b g cap kv pk (H b hb).2 (cell_keep H hb c0) (cell_keep H hb c1) (cell_keep H hb c3) (cell_keep H hb c4) (fun h => ⟨(hkv h).1, (H g (hkv h).2).2⟩) (fun k s hs => ?_) ih
    exact cell_keep H (hkv (fun e => by rw [e] at hs; simp at hs)).2 (hc k s hs)
theorem CloEnv.keep {t : Tm} {b : Nat} {ee e0 : Value} (h : CloEnv S w t b ee e0) : CloEnv S' w' t b ee e0 := by
  cases t with
  | fix f c b' =>
    obtain ⟨bs, h1, h2, h3, h4, h5, h6, h7⟩ := h
    exact ⟨bs, h1, (H bs h2).2, cell_keep H h2 h3, cell_keep H h2 h4, cell_keep H h2 h5, cell_keep H h2 h6, h7⟩
  | _ => exact h
mutual
theorem RepV.keep {r : Nat} {v : Vl} {x : Value} (h : RepV r S w v x) : RepV r S' w' v x := by
  cases h with
  | num n => exact .num n
  | clo i t e b br bp be bx pl ee e0 hb c1 hbr cr hbp cp hp hbe ce hbx cx hee he =>
    exact .clo i t e b br bp be bx pl ee e0 (H b hb).2 (cell_keep H hb c1) (H br hbr).2 (cell_keep H hbr cr) (H bp hbp).2 (cell_keep H hbp cp) (hp.keep H) (H be hbe).2 (cell_keep H hbe ce) (H bx hbx).2 (cell_keep H hbx cx) (hee.keep H) (RepE.keep he)
theorem RepE.keep {r : Nat} {e : En} {x : Value} (h : RepE r S w e x) : RepE r S' w' e x := by
  cases h with
  | nil => exact .nil
  | cons c v e b a0 a1 e0 hb c0 c1 c2 c3 ho hv he =>
    exact .cons c v e b a0 a1 e0 (H b hb).2 (cell_keep H hb c0) (cell_keep H hb c1) (cell_keep H hb c2) (cell_keep H hb c3) ho (RepV.keep hv) (RepE.keep he)
end
end
theorem RepE.form {r : Nat} {S : Nat → Prop} {w : World} {e : En} {x : Value} (h : RepE r S w e x) : ∃ p, x = .pointer p := by cases h <;> exact ⟨_, rfl⟩
theorem RepE.top {r : Nat} {S : Nat → Prop} {w : World} {e : En} {x : Value} (h : RepE r S w e x) {B : Nat} (hB : ∀ g, S g → g < B) : ptrN x ≤ B := by
  cases h with
  | nil => exact Nat.zero_le _
  | cons c v e b a0 a1 e0 hb => exact hB b hb
theorem RepV.form {r : Nat} {S : Nat → Prop} {w : World} {v : Vl} {x : Value} (h : RepV r S w v x) : ∃ a0 a1, x = .agg #[a0, a1] ∧ (∃ n, a0 = .int .i64 n) ∧ ∃ o, a1 = IF o := by
  cases h
  · exact ⟨_, _, rfl, ⟨_, rfl⟩, none, rfl⟩
  · exact ⟨_, _, rfl, ⟨_, rfl⟩, some (_, _), rfl⟩
end Go.Proofs.YthjhpfcilaghgaaGreatDoor
