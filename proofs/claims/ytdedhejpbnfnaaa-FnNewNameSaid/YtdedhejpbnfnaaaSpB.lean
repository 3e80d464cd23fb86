/- The model's reader of a text: the names behind a sign. -/
import Derived.Test.YtdedhejpbnfnaaaSpA
namespace Go.Proofs.Ytdedhejpbnfnaaa
open Go.RowKit
open Ff
set_option linter.unusedVariables false

/-- A string of one byte, out of a slice of one byte. -/
theorem str1 (B : Nat) (c : UInt8) (W : World) (h : W.cell? ⟨B, 0, none⟩ = some (.int .u8 (c.toNat : Int))) :
    (convert 22 9 (.slice (some ⟨B, 0, none⟩) 1 1)).run Try.prog W = .ok (.string ⟨[c].toArray⟩) W := by
  rw [run_convert_bytes_string W _ _ 5 _ _ _ Try.underlying22 Try.underlying5 Try.underlying9]
  rw [run_bytesToString W ⟨B, 0, none⟩ 1 1 [(c.toNat : Int)] (by simp [loadCells, go_sem, h])]
  have e : UInt8.ofNat ((c.toNat : Int)).toNat = c := by simp
  simp only [List.foldl_cons, List.foldl_nil, e]
  rfl

theorem cell_new_at (w : World) (v : Value) (t : TypeId) (B : Nat) (h : w.heap.size = B) : (w.alloc (.cells #[v] t)).cell? ⟨B, 0, none⟩ = some v := by
  subst h
  show (match (w.heap.push _)[w.heap.size]? with | some (.cells c _ _) => if (none : Option Nat).isSome then none else c[0]? | _ => none) = _
  simp

/-- So many names at the front. -/
def namesN : Nat → Text → Option (Text × Text)
  | 0, s => some ([], s)
  | k + 1, s => (namesN k s).bind fun l => (name1 l.2).bind fun x => some (l.1 ++ [x.1], x.2)
/-- The reader is at the rest r, and good. -/
def Good (b : Nat) (T : Text) (r : Text) (deep : Int) (w : World) : Prop := ∃ a : Nat, a ≤ T.length ∧ T.drop a = r ∧ SR b T (a : Int) false deep w
/-- The reader is bad. -/
def Bad (b : Nat) (T : Text) (w : World) : Prop := ∃ (a : Nat) (deep : Int), a ≤ T.length ∧ SR b T (a : Int) true deep w
/-- After k names. -/
def NamesAt (b : Nat) (T : Text) (s : Text) (deep : Int) (k : Nat) (out : Text) (w : World) : Prop :=
  out.length = k ∧ ∃ (a : Nat) (bad : Bool) (dd : Int), a ≤ T.length ∧ SR b T (a : Int) bad dd w ∧ ((bad = false ∧ dd = deep ∧ namesN k s = some (out, T.drop a)) ∨ (bad = true ∧ namesN k s = none))
theorem drop_head {T : Text} {a : Nat} {c : UInt8} (h : T[a]? = some c) : T.drop a = c :: T.drop (a + 1) := by
  obtain ⟨h1, h2⟩ := List.getElem?_eq_some_iff.1 h
  rw [List.drop_eq_getElem_cons h1, h2]
theorem names_step {b : Nat} {T s : Text} {deep : Int} {k : Nat} {out : Text} {a a' : Nat} {bad bad' bad2 : Bool} {dd : Int} {c : UInt8} {W : World} (ho : out.length = k)
    (hl : (bad = false ∧ dd = deep ∧ namesN k s = some (out, T.drop a)) ∨ (bad = true ∧ namesN k s = none))
    (hw : (T[a]? = some c ∧ a' = a + 1 ∧ bad' = bad) ∨ (a = T.length ∧ c = 0 ∧ a' = a ∧ bad' = true)) (ha' : a' ≤ T.length) (h2 : bad2 = (bad' || !isNam c)) (hs : SR b T (a' : Int) bad2 dd W) : NamesAt b T s deep (k + 1) (out ++ [c]) W := by
  refine ⟨by simp [ho], a', bad2, dd, ha', hs, ?_⟩
  rcases hl with ⟨rfl, rfl, hn⟩ | ⟨rfl, hn⟩
  · rcases hw with ⟨hc, rfl, rfl⟩ | ⟨rfl, rfl, rfl, rfl⟩
    · have hd := drop_head hc
      cases hi : isNam c with
      | true => refine .inl ⟨by simp [h2, hi], rfl, ?_⟩; simp [namesN, hn, hd, name1, hi]
      | false => refine .inr ⟨by simp [h2, hi], ?_⟩; simp [namesN, hn, hd, name1, hi]
    · refine .inr ⟨by simp [h2], ?_⟩
      simp [namesN, hn, name1]
  · refine .inr ⟨?_, by simp [namesN, hn]⟩
    rcases hw with ⟨_, _, rfl⟩ | ⟨_, _, _, rfl⟩ <;> simp [h2]
theorem names_zero {b : Nat} {T s : Text} {deep : Int} {w : World} (h : Good b T s deep w) : NamesAt b T s deep 0 [] w := by
  obtain ⟨a, ha, hd, hs⟩ := h
  exact ⟨rfl, a, false, deep, ha, hs, .inl ⟨rfl, rfl, by simp [namesN, hd]⟩⟩
theorem str_app (s : Text) (c : UInt8) : (⟨s.toArray⟩ ++ ⟨#[c]⟩ : ByteArray) = ⟨(s ++ [c]).toArray⟩ := by
  apply ba_ext
  simp [ByteArray.data_append]
theorem SR.alloc {b : Nat} {T : Text} {a : Int} {bad : Bool} {d : Int} {w : World} (h : SR b T a bad d w) (o : Obj) : SR b T a bad d (w.alloc o) := by
  have hlt := h.lt
  have hb := (Below.refl w.heap.size w).alloc (Nat.le_refl _) o
  exact ⟨(hb.cell hlt).trans h.c0, (hb.cell hlt).trans h.c1, (hb.cell hlt).trans h.c2, (hb.cell hlt).trans h.c3, (hb.cell hlt).trans h.c4, (hb.cell hlt).trans h.c5, (hb.frozen hlt).trans h.f1, (hb.frozen hlt).trans h.f2, (hb.frozen hlt).trans h.f3⟩
theorem grownBy_alloc {w w' : World} {row : Option Nat} (h : w.grownBy w' row) (o : Obj) : w.grownBy (w'.alloc o) row := grownBy_trans h (World.grownBy_alloc _ _ _)
theorem grownBy_set {w w' : World} {b : Nat} (h : w.grownBy w' (some b)) (o : Nat) (v : Value) : w.grownBy (w'.setCell ⟨b, o, none⟩ v) (some b) := grownBy_trans h (grownBy_setCell _ _ _ _)

end Go.Proofs.Ytdedhejpbnfnaaa
