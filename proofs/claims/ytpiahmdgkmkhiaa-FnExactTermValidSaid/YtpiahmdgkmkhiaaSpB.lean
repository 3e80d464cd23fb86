/- The model's reader of a text: the names behind a sign. -/
import Derived.Test.YtpiahmdgkmkhiaaSpA
namespace Go.Proofs.Ytpiahmdgkmkhiaa
open Go.RowKit
open Ff
set_option linter.unusedVariables false

/-- A string of one byte, out of a slice of one byte. -/
theorem str1 (B : Nat) (c : UInt8) (W : World) (h : W.cell? ⟨B, 0, none⟩ = some (.int .u8 (c.toNat : Int))) :
    (convert 64 9 (.slice (some ⟨B, 0, none⟩) 1 1)).run Try.prog W = .ok (.string ⟨[c].toArray⟩) W := by
  rw [run_convert_bytes_string W _ _ 5 _ _ _ Try.underlying64 Try.underlying5 Try.underlying9]
  rw [run_bytesToString W ⟨B, 0, none⟩ 1 1 [(c.toNat : Int)] (by simp [loadCells, go_sem, h])]
  have e : UInt8.ofNat ((c.toNat : Int)).toNat = c := by simp
  simp only [List.foldl_cons, List.foldl_nil, e]
  rfl

theorem cell_new_at (w : World) (v : Value) (t : TypeId) (B : Nat) (h : w.heap.size = B) : (w.alloc (.cells #[v] t)).cell? ⟨B, 0, none⟩ = some v := by
  subst h
  show (match (w.heap.push _)[w.heap.size]? with | some (.cells c _ _) => if (none : Option Nat).isSome then none else c[0]? | _ => none) = _
  simp

/-- So many names at the front. -/
def namesN : Nat → Text → Option (Text × Text)
  | 0, s => some ([], s)
  | k + 1, s => (namesN k s).bind fun l => (name1 l.2).bind fun x => some (l.1 ++ [x.1], x.2)
/-- The reader is at the rest r, and good. -/
def Good (b : Nat) (T : Text) (r : Text) (deep : Int) (w : World) : Prop := ∃ a : Nat, a ≤ T.length ∧ T.drop a = r ∧ SR b T (a : Int) false deep w
/-- The reader is bad. -/
def Bad (b : Nat) (T : Text) (w : World) : Prop := ∃ (a : Nat) (deep : Int), a ≤ T.length ∧ SR b T (a : Int) true deep w
/-- After k names. -/
def NamesAt (b : Nat) (T : Text) (s : Text) (deep : Int) (k : Nat) (out : Text) (w : World) : Prop :=
  out.length = k ∧ ∃ (a : Nat) (bad : Bool) (dd : Int), a ≤ T.length ∧ SR b T (a : Int) bad dd w ∧ ((bad = false ∧ dd = deep ∧ namesN k s = some (out, T.drop a)) ∨ (bad = true ∧ namesN k s = none))
theorem drop_head {T : Text} {a : Nat} {c : UInt8} (h : T[a]? = some c) : T.drop a = c :: T.drop (a + 1) := by
  obtain ⟨h1, h2⟩ := List.getElem?_eq_some_iff.1 h
  rw [List.drop_eq_getElem_cons h1, h2]
theorem names_step {b : Nat} {T s : Text} {deep : Int} {k : Nat} {out : Text} {a a' : Nat} {bad bad' bad2 : Bool} {dd : Int} {c : UInt8} {W : World} (ho : out.length = k)
    (hl : (bad = false ∧ dd = deep ∧ namesN k s = some (out, T.drop a)) ∨ (bad = true ∧ namesN k s = none))
    (hw : (T[a]? = some c ∧ a' = a + 1 ∧ bad' = bad) ∨ (a = T.length ∧ c = 0 ∧ a' = a ∧ bad' = true)) (ha' : a' ≤ T.length) (h2 : bad2 = (bad' || !isNam c)) (hs : SR b T (a' : Int) bad2 dd W) : NamesAt b T s deep (k + 1) (out ++ [c]) W := by
  refine ⟨by simp [ho], a', bad2, dd, ha', hs, ?_⟩
  rcases hl with ⟨rfl, rfl, hn⟩ | ⟨rfl, hn⟩
  · rcases hw with ⟨hc, rfl, rfl⟩ | ⟨rfl, rfl, rfl, rfl⟩
    · have hd := drop_head hc
      cases hi : isNam c with
      | true => refine .inl ⟨by simp [h2, hi], rfl, ?_⟩; simp [namesN, hn, hd, name1, hi]
      | false => refine .inr ⟨by simp [h2, hi], ?_⟩; simp [namesN, hn, hd, name1, hi]
    · refine .inr ⟨by simp [h2], ?_⟩
      simp [namesN, hn, name1]
  · refine .inr ⟨?_, by simp [namesN, hn]⟩
    rcases hw with ⟨_, _, rfl⟩ | ⟨_, _, _, rfl⟩ <;> simp [h2]
theorem names_zero {b : Nat} {T s : Text} {deep : Int} {w : World} (h : Good b T s deep w) : NamesAt b T s deep 0 [] w := by
  obtain ⟨a, ha, hd, hs⟩ := h
  exact ⟨rfl, a, false, deep, ha, hs, .inl ⟨rfl, rfl, by simp [namesN, hd]⟩⟩
theorem str_app (s : Text) (c : UInt8) : (⟨s.toArray⟩ ++ ⟨#[c]⟩ : ByteArray) = ⟨(s ++ [c]).toArray⟩ := by
  apply ba_ext
  simp [ByteArray.data_append]
theorem SR.alloc {b : Nat} {T : Text} {a : Int} {bad : Bool} {d : Int} {w : World} (h : SR b T a bad d w) (o : Obj) : SR b T a bad d (w.alloc o) := by
  have hlt := h.lt
  have hb := (Below.refl w.heap.size w).alloc (Nat.le_refl _) o
  exact ⟨(hb.cell hlt).trans h.c0, (hb.cell hlt).trans h.c1, (hb.cell hlt).trans h.c2, (hb.cell hlt).trans h.c3, (hb.cell hlt).trans h.c4, (hb.cell hlt).trans h.c5, (hb.frozen hlt).trans h.f1, (hb.frozen hlt).trans h.f2, (hb.frozen hlt).trans h.f3⟩
theorem grownBy_alloc {w w' : World} {row : Option Nat} (h : w.grownBy w' row) (o : Obj) : w.grownBy (w'.alloc o) row := grownBy_trans h (World.grownBy_alloc _ _ _)
theorem grownBy_set {w w' : World} {b : Nat} (h : w.grownBy w' (some b)) (o : Nat) (v : Value) : w.grownBy (w'.setCell ⟨b, o, none⟩ v) (some b) := grownBy_trans h (grownBy_setCell _ _ _ _)

set_option maxRecDepth 100000 in
set_option maxHeartbeats 1000000 in
theorem snames_c (n : Nat) (hn : n ≤ 2) (b : Nat) (T s : Text) (deep : Int) (w : World) (h : Good b T s deep w) (hl : T.length ≤ 1000) :
    Calls Try.prog 84 #[.pointer (some ⟨b, 0, none⟩), .int .i64 (n : Int)] w fun e w' => ∃ out, e = .returned (.string ⟨out.toArray⟩) ∧ NamesAt b T s deep n out w' ∧ w.grownBy w' (some b) := by
  go_enter Try.func84, Try.ntmps84
  go_wp2_with fail
  go_loopw [5, 8] (fun o i wr => ∃ (k : Nat) (out : Text), k ≤ n ∧ i = .int .i64 k ∧ o = .string ⟨out.toArray⟩ ∧ NamesAt b T s deep k out wr ∧ w.grownBy wr (some b)) (fun _ i _ => n - (intOf i).toNat)
  case atStart => exact ⟨0, [], Nat.zero_le _, rfl, rfl, (names_zero h), World.grownBy.refl _ _⟩
  case round =>
    obtain ⟨k, out, hk, rfl, rfl, hat, hgr⟩ := hrel
    by_cases hlt : k < n
    · obtain ⟨ho, a, bad, dd, ha, hsr, hlink⟩ := hat
      have HL := Lib.hid hlink
      have HO := Lib.hid ho
      have ho2 : out.length ≤ 2 := by omega
      clear hlink ho
      go_wp2_with fail
      refine (snext_c b T a bad dd wr hsr ha hl).mono ?_
      rintro e w1 ⟨c, a', bad', rfl, hsp, ha', hwhy⟩
      obtain ⟨c0, c1, c2, c3, c4, c5, f1, f2, f3⟩ := hsp.sr
      have HW := Lib.hid hwhy; clear hwhy
      have k1 := fun v : Bool => str1 w1.heap.size c ((w1.setCell ⟨b, 2, none⟩ (.bool v)).alloc (.cells #[.int .u8 (c.toNat : Int)] 5)) (cell_new_at _ _ _ _ (by simp [World.setCell]))
      cases bad' with
      | true =>
        have N1 := names_step HO.out HL.out HW.out ha' (bad2 := true) (by simp) ((hsp.sr.setBad true).alloc (.cells #[.int .u8 (c.toNat : Int)] 5))
        go_wp2_with fail
        exact ⟨⟨k + 1, out ++ [c], by omega, by go_num, by rw [str_app], N1, grownBy_alloc (grownBy_set (grownBy_trans hgr hsp.rest) _ _) _⟩, by simp [intOf]; omega⟩
      | false =>
        have N1 := names_step HO.out HL.out HW.out ha' (bad2 := !isNam c) (by simp) ((hsp.sr.setBad (!isNam c)).alloc (.cells #[.int .u8 (c.toNat : Int)] 5))
        go_wp2_with fail
        refine (l1Letter_c c _).mono ?_
        rintro e w2 ⟨rfl, rfl⟩
        go_wp2_with fail
        case roundEnd =>
          exact ⟨⟨k + 1, out ++ [c], by omega, by go_num, by rw [str_app], N1, grownBy_alloc (grownBy_set (grownBy_trans hgr hsp.rest) _ _) _⟩, by simp [intOf]; omega⟩
    · obtain rfl : k = n := by omega
      go_wp2_with fail
      go_ret
      exact ⟨out, rfl, hat, hgr⟩
end Go.Proofs.Ytpiahmdgkmkhiaa
