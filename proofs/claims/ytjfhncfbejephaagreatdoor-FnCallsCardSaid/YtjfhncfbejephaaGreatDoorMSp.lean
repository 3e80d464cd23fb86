import Derived.Test.YtjfhncfbejephaaGreatDoorRows
import Derived.Test.YtjfhncfbejephaaGreatDoorMTm
import Derived.Test.YtjfhncfbejephaaGreatDoorMRd
import Derived.BigQuiet
import Derived.Deep.QuietTactic
import Derived.Deep.AppendLies
import Derived.Outline
import Derived.Maps.AppendAt
import Derived.Deep.DeepMust
/- The model's reader of a text: what it holds in memory, and its smallest functions. -/
namespace Go.Proofs.YtjfhncfbejephaaGreatDoor
open Go.RowKit
open Ff
set_option linter.unusedVariables false

theorem byte_lt (c : UInt8) : (c.toNat : Int) < 256 := by have := c.toNat_lt; omega
set_option maxHeartbeats 400000 in
theorem l1In_c (n lo hi : Int) (w : World) :
    Calls Tryz.prog 101 #[.int .i64 n, .int .i64 lo, .int .i64 hi] w fun e w' => e = .returned (.bool (decide (lo ≤ n) && decide (n ≤ hi))) ∧ w = w' := by
  by_cases h : lo ≤ n
  · go_enter Tryz.func101, Tryz.ntmps101
    go_wp2
    go_ret
    exact ⟨ret_bool (by simp [h]), rfl⟩
  · go_enter Tryz.func101, Tryz.ntmps101
    go_wp2
    go_ret
    exact ⟨ret_bool (by simp; omega), rfl⟩
set_option maxHeartbeats 400000 in
theorem l1Letter_i (n : Int) (h0 : 0 ≤ n) (h1 : n < 256) (w : World) :
    Calls Tryz.prog 102 #[.int .u8 n] w fun e w' => e = .returned (.bool (decide (97 ≤ n) && decide (n ≤ 112))) ∧ w = w' := by
  go_enter Tryz.func102, Tryz.ntmps102
  go_wp2_with (go_at_call 101; refine (l1In_c _ _ _ _).mono ?_; rintro e w' ⟨rfl, rfl⟩)
  go_ret
  exact ⟨rfl, rfl⟩
theorem nam_eq (c : UInt8) : isNam c = (decide (97 ≤ (c.toNat : Int)) && decide ((c.toNat : Int) ≤ 112)) := by simp only [isNam]; congr 1 <;> apply decide_eq_decide.2 <;> omega
theorem dig_eq (c : UInt8) : isDig c = (decide (48 ≤ (c.toNat : Int)) && decide ((c.toNat : Int) ≤ 57)) := by simp only [isDig]; congr 1 <;> apply decide_eq_decide.2 <;> omega
theorem l1Letter_c (c : UInt8) (w : World) :
    Calls Tryz.prog 102 #[.int .u8 (c.toNat : Int)] w fun e w' => e = .returned (.bool (isNam c)) ∧ w = w' := by
  rw [nam_eq]
  exact l1Letter_i _ (by omega) (byte_lt c) w

/-- The reader of the model in block b: the whole text, where it stands, whether it is bad, how deep it is. -/
structure SR (b : Nat) (T : Text) (at_ : Int) (bad : Bool) (deep : Int) (w : World) : Prop where
  c0 : w.cell? ⟨b, 0, none⟩ = some (.string ⟨T.toArray⟩)
  c1 : w.cell? ⟨b, 1, none⟩ = some (.int .i64 at_)
  c2 : w.cell? ⟨b, 2, none⟩ = some (.bool bad)
  c3 : w.cell? ⟨b, 3, none⟩ = some (.int .i64 deep)
  c4 : w.cell? ⟨b, 4, none⟩ = some (.bool false)
  c5 : w.cell? ⟨b, 5, none⟩ = some (.bool false)
  f1 : w.frozen? ⟨b, 1, none⟩ = false
  f2 : w.frozen? ⟨b, 2, none⟩ = false
  f3 : w.frozen? ⟨b, 3, none⟩ = false
theorem SR.lt {b : Nat} {T : Text} {at_ : Int} {bad : Bool} {deep : Int} {w : World} (h : SR b T at_ bad deep w) : b < w.heap.size := by
  have := h.c0
  simp only [World.cell?] at this
  rcases Nat.lt_or_ge b w.heap.size with h1 | h1
  · exact h1
  · simp [Array.getElem?_eq_none h1] at this
/-- It has moved on; nothing else that was there has turned. -/
structure SP (b : Nat) (T : Text) (at_ : Int) (bad : Bool) (deep : Int) (w w' : World) : Prop where
  sr : SR b T at_ bad deep w'
  rest : w.grownBy w' (some b)
theorem SP.then {b : Nat} {T : Text} {a1 a2 : Int} {b1 b2 : Bool} {d1 d2 : Int} {w w1 w2 : World} (h : SP b T a1 b1 d1 w w1) (k : SP b T a2 b2 d2 w1 w2) : SP b T a2 b2 d2 w w2 := ⟨k.sr, grownBy_trans h.rest k.rest⟩
theorem grownBy_drewN {w w' : World} {row : Option Nat} (h : w.grownBy w' row) (n : Nat) : w.grownBy (w'.drewN n) row := ⟨h.os, h.tape, h.output, h.size, h.block⟩

theorem SR.drewN {b : Nat} {T : Text} {a : Int} {bad : Bool} {d : Int} {w : World} (h : SR b T a bad d w) (n : Nat) : SR b T a bad d (w.drewN n) := ⟨h.c0, h.c1, h.c2, h.c3, h.c4, h.c5, h.f1, h.f2, h.f3⟩
theorem SR.setAt {b : Nat} {T : Text} {a : Int} {bad : Bool} {d : Int} {w : World} (h : SR b T a bad d w) (a' : Int) : SR b T a' bad d (w.setCell ⟨b, 1, none⟩ (.int .i64 a')) := by
  constructor <;> first | (rw [World.frozen?_setCell]; first | exact h.f1 | exact h.f2 | exact h.f3) | exact World.cell?_setCell_same _ _ _ h.c1 | (rw [World.cell?_setCell_other _ _ _ _ (by simp)]; first | exact h.c0 | exact h.c2 | exact h.c3 | exact h.c4 | exact h.c5)
theorem SR.setBad {b : Nat} {T : Text} {a : Int} {bad : Bool} {d : Int} {w : World} (h : SR b T a bad d w) (bad' : Bool) : SR b T a bad' d (w.setCell ⟨b, 2, none⟩ (.bool bad')) := by
  constructor <;> first | (rw [World.frozen?_setCell]; first | exact h.f1 | exact h.f2 | exact h.f3) | exact World.cell?_setCell_same _ _ _ h.c2 | (rw [World.cell?_setCell_other _ _ _ _ (by simp)]; first | exact h.c0 | exact h.c1 | exact h.c3 | exact h.c4 | exact h.c5)
theorem SR.setDeep {b : Nat} {T : Text} {a : Int} {bad : Bool} {d : Int} {w : World} (h : SR b T a bad d w) (d' : Int) : SR b T a bad d' (w.setCell ⟨b, 3, none⟩ (.int .i64 d')) := by
  constructor <;> first | (rw [World.frozen?_setCell]; first | exact h.f1 | exact h.f2 | exact h.f3) | exact World.cell?_setCell_same _ _ _ h.c3 | (rw [World.cell?_setCell_other _ _ _ _ (by simp)]; first | exact h.c0 | exact h.c1 | exact h.c2 | exact h.c4 | exact h.c5)
theorem index_byte (T : Text) (i : Nat) (c : UInt8) (h : T[i]? = some c) (h2 : i < (⟨T.toArray⟩ : ByteArray).size) : (⟨T.toArray⟩ : ByteArray)[i] = c := by
  obtain ⟨h3, h4⟩ := List.getElem?_eq_some_iff.1 h
  simpa [ByteArray.getElem_eq_getElem_data] using h4

set_option maxHeartbeats 1000000 in
theorem snext_in (b : Nat) (T : Text) (at_ : Nat) (c : UInt8) (bad : Bool) (deep : Int) (w : World) (h : SR b T (at_ : Int) bad deep w) (hc : T[at_]? = some c) (hl : T.length ≤ 4000) :
    Calls Tryz.prog 100 #[.pointer (some ⟨b, 0, none⟩)] w fun e w' => e = .returned (.int .u8 (c.toNat : Int)) ∧ SP b T (at_ + 1 : Nat) bad deep w w' := by
  have hlt : at_ < T.length := (List.getElem?_eq_some_iff.1 hc).1
  have H := Lib.hid h
  obtain ⟨c0, c1, c2, c3, c4, c5, f1, f2, f3⟩ := h
  have HC := Lib.hid hc
  clear hc
  go_enter Tryz.func100, Tryz.ntmps100
  go_wp2_with fail
  go_quiet (fail)
  go_wp2_with fail
  go_quiet (fail)
  go_wp2_with fail
  go_ret
  refine ⟨?_, ?_⟩
  · show Ending.returned (.int .u8 (((⟨T.toArray⟩ : ByteArray)[at_]).toNat : Int)) = _
    rw [index_byte T at_ c HC.out]
  · refine ⟨((H.out.drewN _).setAt _).drewN _, ?_⟩
    exact grownBy_drewN (grownBy_trans (grownBy_drewN (World.grownBy.refl _ _) _) (grownBy_setCell _ _ _ _)) _

set_option maxHeartbeats 1000000 in
theorem snext_out (b : Nat) (T : Text) (at_ : Nat) (bad : Bool) (deep : Int) (w : World) (h : SR b T (at_ : Int) bad deep w) (hc : T.length ≤ at_) (hl : at_ ≤ 4000) :
    Calls Tryz.prog 100 #[.pointer (some ⟨b, 0, none⟩)] w fun e w' => e = .returned (.int .u8 0) ∧ SP b T at_ true deep w w' := by
  have H := Lib.hid h
  obtain ⟨c0, c1, c2, c3, c4, c5, f1, f2, f3⟩ := h
  go_enter Tryz.func100, Tryz.ntmps100
  go_wp2_with fail
  go_quiet (fail)
  go_wp2_with fail
  go_ret
  exact ⟨rfl, (H.out.drewN _).setBad _, grownBy_trans (grownBy_drewN (World.grownBy.refl _ _) _) (grownBy_setCell _ _ _ _)⟩

/-- What a read of a byte comes to, whatever the reader's state. -/
def NextPost (b : Nat) (T : Text) (a : Nat) (bad : Bool) (deep : Int) (w : World) (e : Ending) (w' : World) : Prop :=
  ∃ (c : UInt8) (a' : Nat) (bad' : Bool), e = .returned (.int .u8 (c.toNat : Int)) ∧ SP b T (a' : Int) bad' deep w w' ∧ a' ≤ T.length ∧ ((T[a]? = some c ∧ a' = a + 1 ∧ bad' = bad) ∨ (a = T.length ∧ c = 0 ∧ a' = a ∧ bad' = true))
theorem snext_c (b : Nat) (T : Text) (a : Nat) (bad : Bool) (deep : Int) (w : World) (h : SR b T (a : Int) bad deep w) (ha : a ≤ T.length) (hl : T.length ≤ 4000) :
    Calls Tryz.prog 100 #[.pointer (some ⟨b, 0, none⟩)] w (NextPost b T a bad deep w) := by
  by_cases hlt : a < T.length
  · have hc := List.getElem?_eq_getElem hlt
    exact (snext_in b T a _ bad deep w h hc hl).mono fun e w' ⟨he, hs⟩ => ⟨T[a], a + 1, bad, he, hs, hlt, .inl ⟨hc, rfl, rfl⟩⟩
  · exact (snext_out b T a bad deep w h (by omega) (by omega)).mono fun e w' ⟨he, hs⟩ => ⟨0, a, true, he, hs, ha, .inr ⟨by omega, rfl, rfl, rfl⟩⟩
end Go.Proofs.YtjfhncfbejephaaGreatDoor

/- The model's reader of a text: the names behind a sign. -/
namespace Go.Proofs.YtjfhncfbejephaaGreatDoor
open Go.RowKit
open Ff
set_option linter.unusedVariables false

/-- A string of one byte, out of a slice of one byte. -/
theorem str1 (B : Nat) (c : UInt8) (W : World) (h : W.cell? ⟨B, 0, none⟩ = some (.int .u8 (c.toNat : Int))) :
    (convert 22 9 (.slice (some ⟨B, 0, none⟩) 1 1)).run Tryz.prog W = .ok (.string ⟨[c].toArray⟩) W := by
  rw [run_convert_bytes_string W _ _ 5 _ _ _ Tryz.underlying22 Tryz.underlying5 Tryz.underlying9]
  rw [run_bytesToString W ⟨B, 0, none⟩ 1 1 [(c.toNat : Int)] (by simp [loadCells, go_sem, h])]
  have e : UInt8.ofNat ((c.toNat : Int)).toNat = c := by simp
  simp only [List.foldl_cons, List.foldl_nil, e]
  rfl

theorem cell_new_at (w : World) (v : Value) (t : TypeId) (B : Nat) (h : w.heap.size = B) : (w.alloc (.cells #[v] t)).cell? ⟨B, 0, none⟩ = some v := by
  subst h
  show (match (w.heap.push _)[w.heap.size]? with | some (.cells c _ _) => if (none : Option Nat).isSome then none else c[0]? | _ => none) = _
  simp

/-- So many names at the front. -/
def namesN : Nat → Text → Option (Text × Text)
  | 0, s => some ([], s)
  | k + 1, s => (namesN k s).bind fun l => (name1 l.2).bind fun x => some (l.1 ++ [x.1], x.2)
/-- The reader is at the rest r, and good. -/
def Good (b : Nat) (T : Text) (r : Text) (deep : Int) (w : World) : Prop := ∃ a : Nat, a ≤ T.length ∧ T.drop a = r ∧ SR b T (a : Int) false deep w
/-- The reader is bad. -/
def Bad (b : Nat) (T : Text) (w : World) : Prop := ∃ (a : Nat) (deep : Int), a ≤ T.length ∧ SR b T (a : Int) true deep w
/-- After k names. -/
def NamesAt (b : Nat) (T : Text) (s : Text) (deep : Int) (k : Nat) (out : Text) (w : World) : Prop :=
  out.length = k ∧ ∃ (a : Nat) (bad : Bool) (dd : Int), a ≤ T.length ∧ SR b T (a : Int) bad dd w ∧ ((bad = false ∧ dd = deep ∧ namesN k s = some (out, T.drop a)) ∨ (bad = true ∧ namesN k s = none))
theorem drop_head {T : Text} {a : Nat} {c : UInt8} (h : T[a]? = some c) : T.drop a = c :: T.drop (a + 1) := by
  obtain ⟨h1, h2⟩ := List.getElem?_eq_some_iff.1 h
  rw [List.drop_eq_getElem_cons h1, h2]
theorem names_step {b : Nat} {T s : Text} {deep : Int} {k : Nat} {out : Text} {a a' : Nat} {bad bad' bad2 : Bool} {dd : Int} {c : UInt8} {W : World} (ho : out.length = k)
    (hl : (bad = false ∧ dd = deep ∧ namesN k s = some (out, T.drop a)) ∨ (bad = true ∧ namesN k s = none))
    (hw : (T[a]? = some c ∧ a' = a + 1 ∧ bad' = bad) ∨ (a = T.length ∧ c = 0 ∧ a' = a ∧ bad' = true)) (ha' : a' ≤ T.length) (h2 : bad2 = (bad' || !isNam c)) (hs : SR b T (a' : Int) bad2 dd W) : NamesAt b T s deep (k + 1) (out ++ [c]) W := by
  refine ⟨by simp [ho], a', bad2, dd, ha', hs, ?_⟩
  rcases hl with ⟨rfl, rfl, hn⟩ | ⟨rfl, hn⟩
  · rcases hw with ⟨hc, rfl, rfl⟩ | ⟨rfl, rfl, rfl, rfl⟩
    · have hd := drop_head hc
      cases hi : isNam c with
      | true => refine .inl ⟨by simp [h2, hi], rfl, ?_⟩; simp [namesN, hn, hd, name1, hi]
      | false => refine .inr ⟨by simp [h2, hi], ?_⟩; simp [namesN, hn, hd, name1, hi]
    · refine .inr ⟨by simp [h2], ?_⟩
      simp [namesN, hn, name1]
  · refine .inr ⟨?_, by simp [namesN, hn]⟩
    rcases hw with ⟨_, _, rfl⟩ | ⟨_, _, _, rfl⟩ <;> simp [h2]
theorem names_zero {b : Nat} {T s : Text} {deep : Int} {w : World} (h : Good b T s deep w) : NamesAt b T s deep 0 [] w := by
  obtain ⟨a, ha, hd, hs⟩ := h
  exact ⟨rfl, a, false, deep, ha, hs, .inl ⟨rfl, rfl, by simp [namesN, hd]⟩⟩
theorem str_app (s : Text) (c : UInt8) : (⟨s.toArray⟩ ++ ⟨#[c]⟩ : ByteArray) = ⟨(s ++ [c]).toArray⟩ := by
  apply ba_ext
  simp [ByteArray.data_append]
theorem SR.alloc {b : Nat} {T : Text} {a : Int} {bad : Bool} {d : Int} {w : World} (h : SR b T a bad d w) (o : Obj) : SR b T a bad d (w.alloc o) := by
  have hlt := h.lt
  have hb := (Below.refl w.heap.size w).alloc (Nat.le_refl _) o
  exact ⟨(hb.cell hlt).trans h.c0, (hb.cell hlt).trans h.c1, (hb.cell hlt).trans h.c2, (hb.cell hlt).trans h.c3, (hb.cell hlt).trans h.c4, (hb.cell hlt).trans h.c5, (hb.frozen hlt).trans h.f1, (hb.frozen hlt).trans h.f2, (hb.frozen hlt).trans h.f3⟩
theorem grownBy_alloc {w w' : World} {row : Option Nat} (h : w.grownBy w' row) (o : Obj) : w.grownBy (w'.alloc o) row := grownBy_trans h (World.grownBy_alloc _ _ _)
theorem grownBy_set {w w' : World} {b : Nat} (h : w.grownBy w' (some b)) (o : Nat) (v : Value) : w.grownBy (w'.setCell ⟨b, o, none⟩ v) (some b) := grownBy_trans h (grownBy_setCell _ _ _ _)

set_option maxRecDepth 100000 in
set_option maxHeartbeats 1000000 in
theorem snames_c (n : Nat) (hn : n ≤ 2) (b : Nat) (T s : Text) (deep : Int) (w : World) (h : Good b T s deep w) (hl : T.length ≤ 4000) :
    Calls Tryz.prog 104 #[.pointer (some ⟨b, 0, none⟩), .int .i64 (n : Int)] w fun e w' => ∃ out, e = .returned (.string ⟨out.toArray⟩) ∧ NamesAt b T s deep n out w' ∧ w.grownBy w' (some b) := by
  go_enter Tryz.func104, Tryz.ntmps104
  go_wp2_with fail
  go_loopw [5, 8] (fun o i wr => ∃ (k : Nat) (out : Text), k ≤ n ∧ i = .int .i64 k ∧ o = .string ⟨out.toArray⟩ ∧ NamesAt b T s deep k out wr ∧ w.grownBy wr (some b)) (fun _ i _ => n - (intOf i).toNat)
  case atStart => exact ⟨0, [], Nat.zero_le _, rfl, rfl, (names_zero h), World.grownBy.refl _ _⟩
  case round =>
    obtain ⟨k, out, hk, rfl, rfl, hat, hgr⟩ := hrel
    by_cases hlt : k < n
    · obtain ⟨ho, a, bad, dd, ha, hsr, hlink⟩ := hat
      have HL := Lib.hid hlink
      have HO := Lib.hid ho
      have ho2 : out.length ≤ 2 := by omega
      clear hlink ho
      go_wp2_with fail
      refine (snext_c b T a bad dd wr hsr ha hl).mono ?_
      rintro e w1 ⟨c, a', bad', rfl, hsp, ha', hwhy⟩
      obtain ⟨c0, c1, c2, c3, c4, c5, f1, f2, f3⟩ := hsp.sr
      have HW := Lib.hid hwhy; clear hwhy
      have k1 := fun v : Bool => str1 w1.heap.size c ((w1.setCell ⟨b, 2, none⟩ (.bool v)).alloc (.cells #[.int .u8 (c.toNat : Int)] 5)) (cell_new_at _ _ _ _ (by simp [World.setCell]))
      cases bad' with
      | true =>
        have N1 := names_step HO.out HL.out HW.out ha' (bad2 := true) (by simp) ((hsp.sr.setBad true).alloc (.cells #[.int .u8 (c.toNat : Int)] 5))
        go_wp2_with fail
        exact ⟨⟨k + 1, out ++ [c], by omega, by go_num, by rw [str_app], N1, grownBy_alloc (grownBy_set (grownBy_trans hgr hsp.rest) _ _) _⟩, by simp [intOf]; omega⟩
      | false =>
        have N1 := names_step HO.out HL.out HW.out ha' (bad2 := !isNam c) (by simp) ((hsp.sr.setBad (!isNam c)).alloc (.cells #[.int .u8 (c.toNat : Int)] 5))
        go_wp2_with fail
        refine (l1Letter_c c _).mono ?_
        rintro e w2 ⟨rfl, rfl⟩
        go_wp2_with fail
        case roundEnd =>
          exact ⟨⟨k + 1, out ++ [c], by omega, by go_num, by rw [str_app], N1, grownBy_alloc (grownBy_set (grownBy_trans hgr hsp.rest) _ _) _⟩, by simp [intOf]; omega⟩
    · obtain rfl : k = n := by omega
      go_wp2_with fail
      go_ret
      exact ⟨out, rfl, hat, hgr⟩
end Go.Proofs.YtjfhncfbejephaaGreatDoor

/- A term as the model holds it, in memory. -/
namespace Go.Proofs.YtjfhncfbejephaaGreatDoor
open Go.RowKit
open Ff
set_option linter.unusedVariables false

def kindOf : Tm → Nat
  | .num _ => 110 | .var _ => 118 | .fn _ _ => 92 | .fix _ _ _ => 64 | .app _ _ => 40 | .bind _ _ _ => 61 | .op s _ _ => s.toNat | .sel _ _ _ => 63
def numOf : Tm → Nat
  | .num n => n | _ => 0
def namesOf : Tm → Text
  | .var c => [c] | .fn c _ => [c] | .fix f c _ => [f, c] | .bind c _ _ => [c] | _ => []
/-- The cells of a term whose kids lie in block g. -/
def tmHead (t : Tm) (g cap : Nat) : Value := .agg #[.int .u8 (kindOf t : Int), .int .i64 (numOf t : Int), .string ⟨(namesOf t).toArray⟩, .slice (some ⟨g, 0, none⟩) t.kids.length cap]
/-- Four cells out of a row. -/
def four (c : Nat → Value) (i : Nat) : Value := .agg #[c (4 * i), c (4 * i + 1), c (4 * i + 2), c (4 * i + 3)]
/-- The value v stands for the term t in the world w; S holds of all blocks in which it lies. -/
inductive Rep (S : Nat → Prop) (w : World) : Tm → Value → Prop
  | mk (t : Tm) (g cap : Nat) (c : Nat → Value) (hg : S g) (hc : ∀ k, k < 4 * t.kids.length → w.cell? ⟨g, k, none⟩ = some (c k))
      (hk : ∀ i s, t.kids[i]? = some s → Rep S w s (four c i)) (hcap : t.kids.length ≤ cap) : Rep S w t (tmHead t g cap)
theorem Rep.keep {S S' : Nat → Prop} {w w' : World} {t : Tm} {v : Value} (h : Rep S w t v) (hb : ∀ g, S g → w'.heap[g]? = w.heap[g]?) (hS : ∀ g, S g → S' g) : Rep S' w' t v := by
  induction h with
  | mk t g cap c hg hc hk hcap ih => exact .mk t g cap c (hS g hg) (fun k hk => (World.cell?_of_block (a := ⟨g, k, none⟩) (hb g hg)).trans (hc k hk)) ih hcap
theorem own_cap {w : World} {base : Nat} {e : TypeId} {size g n cap : Nat} {xs : List Value} (h : w.ownsRow base e size (.slice (some ⟨g, 0, none⟩) n cap) n xs) : n ≤ cap := by
  rcases h.2 with ⟨h1, _⟩ | ⟨g', cap', cur, h1, _, _, h2, _⟩
  · cases h1
  · injection h1 with _ _ h1
    omega
/-- Four cells that are a term's, whatever it is. -/
def Junk (v : Value) : Prop := ∃ (k n : Int) (s : ByteArray) (a : Option Addr) (l c : Nat), v = .agg #[.int .u8 k, .int .i64 n, .string s, .slice a l c]
theorem Rep.junk {S : Nat → Prop} {w : World} {t : Tm} {v : Value} (h : Rep S w t v) : Junk v := by
  cases h with
  | mk g cap c hg hc hk => exact ⟨_, _, _, _, _, _, rfl⟩
/-- The blocks that have come between two worlds. -/
def New (w w' : World) (g : Nat) : Prop := w.heap.size ≤ g ∧ g < w'.heap.size
theorem Tryz.infoTerm : (Tryz.prog.info? 78).map (fun i => (i.zero, i.size, i.bytes)) = some (some (.agg #[.int .u8 0, .int .i64 0, .string ⟨#[]⟩, .slice none 0 0]), 4, 56) := by kernel_rfl

/-- What a read of a term comes to. -/
def TermPostS (b : Nat) (T : Text) (deep : Int) (w : World) : Option (Tm × Text) → Ending → World → Prop
  | some (t, r), e, w' => ∃ v, e = .returned v ∧ w.grownBy w' (some b) ∧ Good b T r deep w' ∧ Rep (New w w') w' t v
  | none, e, w' => ∃ v, e = .returned v ∧ w.grownBy w' (some b) ∧ Bad b T w' ∧ Junk v
/-- The reader of terms with m levels left; and where it is bad. -/
def TermS (m : Nat) : Prop := ∀ (b : Nat) (T s : Text) (w : World), Good b T s (24 - (m : Int)) w → T.length ≤ 4000 →
  Calls Tryz.prog 91 #[.pointer (some ⟨b, 0, none⟩)] w (TermPostS b T (24 - (m : Int)) w (parse m s))
def TermBad : Prop := ∀ (b : Nat) (T : Text) (w : World), Bad b T w → T.length ≤ 4000 →
  Calls Tryz.prog 91 #[.pointer (some ⟨b, 0, none⟩)] w fun e w' => ∃ v, e = .returned v ∧ w.grownBy w' (some b) ∧ Bad b T w' ∧ Junk v
/-- So many terms at the front; of nothing there are none. -/
def kidsN (m : Nat) : Nat → Option Text → Option (List Tm × Text)
  | 0, s => s.map fun s => ([], s)
  | k + 1, s => (kidsN m k s).bind fun l => (parse m l.2).bind fun x => some (l.1 ++ [x.1], x.2)
/-- The reader is at the rest, or bad. -/
def Start (b : Nat) (T : Text) (deep : Int) (w : World) : Option Text → Prop
  | some s => Good b T s deep w
  | none => Bad b T w
/-- After k terms. -/
def KidsAt (m : Nat) (b : Nat) (T : Text) (s : Option Text) (w : World) (k : Nat) (v : Value) (W : World) : Prop :=
  ∃ xs : List Value, W.ownsRow w.heap.size 78 4 v k xs ∧ v ≠ .slice none 0 0 ∧
    ((∃ ts r, kidsN m k s = some (ts, r) ∧ Good b T r (24 - (m : Int)) W ∧ ts.length = k ∧ ∀ i t, ts[i]? = some t → Rep (fun g => New w W g ∧ some g ≠ v.ownBlock) W t (four (fun j => (xs[j]?).getD undef) i)) ∨ (kidsN m k s = none ∧ Bad b T W))
/-- What a term comes to behind k others. -/
theorem kid_any {m b : Nat} {T : Text} {s : Option Text} {w W : World} {k : Nat} {v : Value} (ih : TermS m) (ib : TermBad) (h : KidsAt m b T s w k v W) (hl : T.length ≤ 4000) :
    ∃ xs : List Value, W.ownsRow w.heap.size 78 4 v k xs ∧ v ≠ .slice none 0 0 ∧ Calls Tryz.prog 91 #[.pointer (some ⟨b, 0, none⟩)] W fun e W' => ∃ (x n : Int) (str : ByteArray) (a : Option Addr) (l c : Nat), e = .returned (.agg #[.int .u8 x, .int .i64 n, .string str, .slice a l c]) ∧ W.grownBy W' (some b) ∧
      ((∃ ts r t, kidsN m (k + 1) s = some (ts ++ [t], r) ∧ Good b T r (24 - (m : Int)) W' ∧ ts.length = k ∧ (∀ i t, ts[i]? = some t → Rep (fun g => New w W g ∧ some g ≠ v.ownBlock) W t (four (fun j => (xs[j]?).getD undef) i)) ∧ Rep (New W W') W' t (.agg #[.int .u8 x, .int .i64 n, .string str, .slice a l c])) ∨ (kidsN m (k + 1) s = none ∧ Bad b T W')) := by
  obtain ⟨xs, hown, hv, ⟨ts, r, hk, hg, hlen, hrep⟩ | ⟨hk, hb⟩⟩ := h
  · refine ⟨xs, hown, hv, (ih b T r W hg hl).mono fun e W' hp => ?_⟩
    rcases ho : parse m r with _ | ⟨t, r2⟩
    · rw [ho] at hp
      obtain ⟨v2, he, hgr, hbad, x, n, str, a, l, c, rfl⟩ := hp
      exact ⟨x, n, str, a, l, c, he, hgr, .inr ⟨by simp [kidsN, hk, ho], hbad⟩⟩
    · rw [ho] at hp
      obtain ⟨v2, he, hgr, hgood, hr⟩ := hp
      obtain ⟨x, n, str, a, l, c, rfl⟩ := hr.junk
      exact ⟨x, n, str, a, l, c, he, hgr, .inl ⟨ts, r2, t, by simp [kidsN, hk, ho], hgood, hlen, hrep, hr⟩⟩
  · refine ⟨xs, hown, hv, (ib b T W hb hl).mono fun e W' hp => ?_⟩
    obtain ⟨v2, he, hgr, hbad, x, n, str, a, l, c, rfl⟩ := hp
    exact ⟨x, n, str, a, l, c, he, hgr, .inr ⟨by simp [kidsN, hk], hbad⟩⟩
end Go.Proofs.YtjfhncfbejephaaGreatDoor

/- The model's reader of a text: the terms behind a sign. -/
namespace Go.Proofs.YtjfhncfbejephaaGreatDoor
open Go.RowKit
open Ff
set_option linter.unusedVariables false

theorem four_new (w : World) (c0 c1 c2 c3 : Value) (t : TypeId) : ∀ j u, [c0, c1, c2, c3][j]? = some u → (w.alloc (.cells #[c0, c1, c2, c3] t)).cell? ((⟨w.heap.size, 0, none⟩ : Addr).add j) = some u := by
  intro j u hj
  have h : (w.alloc (.cells [c0, c1, c2, c3].toArray t)).cell? ⟨w.heap.size, j, none⟩ = [c0, c1, c2, c3][j]? := by
    show (match (w.heap.push _)[w.heap.size]? with | some (.cells c _ _) => if (none : Option Nat).isSome then none else c[j]? | _ => none) = _
    simp
  have e : ((⟨w.heap.size, 0, none⟩ : Addr).add j) = ⟨w.heap.size, j, none⟩ := by
    unfold Addr.add
    split
    · rename_i h0; subst h0; rfl
    · simp
  rw [e, h, hj]

theorem Start.lt {b : Nat} {T : Text} {s : Option Text} {d : Int} {w : World} (h : Start b T d w s) : b < w.heap.size := by
  match s, h with
  | some s, ⟨a, ha, hd, hs⟩ => exact hs.lt
  | none, ⟨a, d, ha, hs⟩ => exact hs.lt
theorem own_ne {W : World} {base : Nat} {e : TypeId} {size : Nat} {v : Value} {n b : Nat} {xs : List Value} (h : W.ownsRow base e size v n xs) (hb : b < base) : v.ownBlock = none ∨ v.ownBlock ≠ some b :=
  .inr fun e => by have := (h.lt b e).1; omega
theorem own_ne_nil {W : World} {base : Nat} {e : TypeId} {size : Nat} {v : Value} {n : Nat} {xs : List Value} (h : W.ownsRow base e size v n xs) (hb : v ≠ .slice none 0 0) : ∃ g, v.ownBlock = some g ∧ base ≤ g ∧ g < W.heap.size := by
  obtain ⟨_, ⟨h1, _⟩ | ⟨g, cap, cur, rfl, h1, h2, _⟩⟩ := h
  · exact absurd h1 hb
  · exact ⟨g, rfl, h1, (Array.getElem?_eq_some_iff.1 h2).1⟩
theorem kids_zero {m b : Nat} {T : Text} {s : Option Text} {w : World} (h : Start b T (24 - (m : Int)) w s) : KidsAt m b T s w 0 (.slice (some ⟨w.heap.size, 0, none⟩) 0 0) (w.alloc (.cells #[] 78)) := by
  refine ⟨[], World.ownsRow_lit w #[] 0 (Nat.le_refl _) (by simp [maxLen]) (by simp), by simp, ?_⟩
  match s, h with
  | some s, ⟨a, ha, hd, hs⟩ => exact .inl ⟨[], s, rfl, ⟨a, ha, hd, hs.alloc _⟩, rfl, fun i t hi => by simp at hi⟩
  | none, ⟨a, d, ha, hs⟩ => exact .inr ⟨rfl, a, d, ha, hs.alloc _⟩
theorem grown_row {w W1 W2 : World} {b : Nat} {o : Obj} {row : Option Nat} (h : w.grownBy W1 (some b)) (hg : (W1.alloc o).grownBy W2 row) (hrow : ∀ g, row = some g → w.heap.size ≤ g) : w.grownBy W2 (some b) := by
  have h1 := grownBy_alloc h o
  exact ⟨hg.os.trans h1.os, hg.tape.trans h1.tape, hg.output.trans h1.output, Nat.le_trans h1.size hg.size, fun k hk hn => (hg.block k (Nat.lt_of_lt_of_le hk h1.size) (fun e => by have := hrow k e.symm; omega)).trans (h1.block k hk hn)⟩
/-- What a round leaves. -/
theorem kids_round {m b : Nat} {T : Text} {s : Option Text} {w W W1 W2 : World} {k : Nat} {v v' c0 c1 c2 c3 : Value} {xs : List Value} {o : Obj} (hbw : b < w.heap.size) (hw : w.heap.size ≤ W.heap.size) (hown : W.ownsRow w.heap.size 78 4 v k xs) (hv : v ≠ .slice none 0 0) (hgr1 : W.grownBy W1 (some b))
    (hl : (∃ ts r t, kidsN m (k + 1) s = some (ts ++ [t], r) ∧ Good b T r (24 - (m : Int)) W1 ∧ ts.length = k ∧ (∀ i t, ts[i]? = some t → Rep (fun g => New w W g ∧ some g ≠ v.ownBlock) W t (four (fun j => (xs[j]?).getD undef) i)) ∧ Rep (New W W1) W1 t (.agg #[c0, c1, c2, c3])) ∨ (kidsN m (k + 1) s = none ∧ Bad b T W1))
    (hown' : W2.ownsRow w.heap.size 78 4 v' (k + 1) (xs ++ [c0, c1, c2, c3])) (hgrow : (W1.alloc o).grownBy W2 v.ownBlock) (hnil : v' = .slice none 0 0 ↔ v = .slice none 0 0 ∧ 1 = 0) (hwhere : v'.ownBlock = v.ownBlock ∨ v'.ownBlock = some (W1.alloc o).heap.size) :
    KidsAt m b T s w (k + 1) v' W2 := by
  obtain ⟨g, hg1, hg2, hg3⟩ := own_ne_nil hown hv
  have hz : (W1.alloc o).heap.size = W1.heap.size + 1 := by simp
  have hs1 := hgr1.size
  have hs2 := hgrow.size
  have hlen := hown.1
  have sr : ∀ {a : Int} {bad : Bool} {d : Int}, SR b T a bad d W1 → SR b T a bad d W2 := by
    intro a bad d h
    have hlt := h.lt
    have hb2 : W2.heap[b]? = (W1.alloc o).heap[b]? := hgrow.block b (by omega) (by rw [hg1]; simp; omega)
    have h' := h.alloc o
    have ec : ∀ j, W2.cell? ⟨b, j, none⟩ = (W1.alloc o).cell? ⟨b, j, none⟩ := fun j => World.cell?_of_block (a := ⟨b, j, none⟩) hb2
    have ef : ∀ j, W2.frozen? ⟨b, j, none⟩ = (W1.alloc o).frozen? ⟨b, j, none⟩ := fun j => World.frozen?_of_block (a := ⟨b, j, none⟩) hb2
    exact ⟨(ec _).trans h'.c0, (ec _).trans h'.c1, (ec _).trans h'.c2, (ec _).trans h'.c3, (ec _).trans h'.c4, (ec _).trans h'.c5, (ef _).trans h'.f1, (ef _).trans h'.f2, (ef _).trans h'.f3⟩
  have keep : ∀ g', g' < W1.heap.size → some g' ≠ v.ownBlock → W2.heap[g']? = W1.heap[g']? := fun g' h1 h2 => (hgrow.block g' (by omega) h2).trans (Below.heap_alloc _ _ _ h1)
  have far : ∀ g', g' < W1.heap.size → some g' ≠ v.ownBlock → some g' ≠ v'.ownBlock := by
    intro g' h1 h2
    rcases hwhere with h | h
    · rw [h]; exact h2
    · rw [h, hz]; simp; omega
  refine ⟨_, hown', fun e => by have := (hnil.1 e).2; omega, ?_⟩
  rcases hl with ⟨ts, r, t, hk, ⟨a, ha, hd, hsr⟩, hts, hrep, hr⟩ | ⟨hk, a, d, ha, hsr⟩
  · refine .inl ⟨ts ++ [t], r, hk, ⟨a, ha, hd, sr hsr⟩, by simp [hts], fun i t' hi => ?_⟩
    by_cases hlt : i < ts.length
    · rw [List.getElem?_append_left hlt] at hi
      have e : four (fun j => ((xs ++ [c0, c1, c2, c3])[j]?).getD undef) i = four (fun j => (xs[j]?).getD undef) i := by
        unfold four
        simp only [List.getElem?_append_left (show 4 * i < xs.length by omega), List.getElem?_append_left (show 4 * i + 1 < xs.length by omega), List.getElem?_append_left (show 4 * i + 2 < xs.length by omega), List.getElem?_append_left (show 4 * i + 3 < xs.length by omega)]
      rw [e]
      refine (hrep i t' hi).keep (fun g' hg' => ?_) (fun g' hg' => ?_)
      · obtain ⟨⟨h1, h2⟩, h3⟩ := hg'
        exact (keep g' (by omega) h3).trans (hgr1.block g' h2 (by simp; omega))
      · obtain ⟨⟨h1, h2⟩, h3⟩ := hg'
        exact ⟨⟨h1, by omega⟩, far g' (by omega) h3⟩
    · have hi0 : i = ts.length := by
        have := (List.getElem?_eq_some_iff.1 hi).1
        simp at this
        omega
      subst hi0
      rw [List.getElem?_append_right (Nat.le_refl _)] at hi
      simp only [Nat.sub_self, List.getElem?_cons_zero, Option.some.injEq] at hi
      subst hi
      have e : four (fun j => ((xs ++ [c0, c1, c2, c3])[j]?).getD undef) ts.length = .agg #[c0, c1, c2, c3] := by
        unfold four
        have e0 : 4 * ts.length = xs.length := by omega
        simp [e0]
      rw [e]
      refine hr.keep (fun g' hg' => keep g' hg'.2 ?_) (fun g' hg' => ⟨⟨by have := hg'.1; omega, by have := hg'.2; omega⟩, far g' hg'.2 ?_⟩)
      · rw [hg1]; have := hg'.1; simp; omega
      · rw [hg1]; have := hg'.1; simp; omega
  · exact .inr ⟨hk, a, d, ha, sr hsr⟩

set_option maxRecDepth 100000 in
set_option maxHeartbeats 2000000 in
theorem skids_c (m n : Nat) (hn : n ≤ 3) (ih : TermS m) (ib : TermBad) (b : Nat) (T : Text) (s : Option Text) (w : World) (h : Start b T (24 - (m : Int)) w s) (hl : T.length ≤ 4000) :
    Calls Tryz.prog 105 #[.pointer (some ⟨b, 0, none⟩), .int .i64 (n : Int)] w fun e w' => ∃ v, e = .returned v ∧ KidsAt m b T s w n v w' ∧ w.grownBy w' (some b) := by
  have hbw : b < w.heap.size := h.lt
  obtain ⟨i0, hi, hz0, hz1, hz2⟩ := info_parts Tryz.infoTerm
  go_enter Tryz.func105, Tryz.ntmps105
  go_wp2_with fail
  go_loopw [5, 8] (fun v i wr => ∃ (k : Nat), k ≤ n ∧ i = .int .i64 k ∧ KidsAt m b T s w k v wr ∧ w.grownBy wr (some b)) (fun _ i _ => n - (intOf i).toNat)
  case atStart => exact ⟨0, Nat.zero_le _, rfl, kids_zero h, grownBy_alloc (World.grownBy.refl _ _) _⟩
  case round =>
    obtain ⟨k, hk, rfl, hat, hgr⟩ := hrel
    by_cases hlt : k < n
    · obtain ⟨xs, hown, hv, C⟩ := kid_any ih ib hat hl
      go_wp2_with fail
      refine C.mono ?_
      rintro e w1 ⟨x, y, str, a, l, c, rfl, hgr1, hlink⟩
      have HL := Lib.hid hlink; clear hlink
      have hsz := hgr.size
      have hsz1 := hgr1.size
      have hlen := hown.1
      have hown1 := (hown.kept hgr1 (own_ne hown hbw)).alloc (.cells #[.int .u8 x, .int .i64 y, .string str, .slice a l c] 78)
      have HH := Lib.hid hown
      have HV := Lib.hid hv
      clear hown hv C hlen
      have q2 : ∀ u ∈ [Value.int .u8 x, .int .i64 y, .string str, .slice a l c], u.oneCell' = true := by simp [Value.oneCell']
      have q3 : k + 1 ≤ maxLen := by unfold maxLen; omega
      have q5 : w.heap.size ≤ (w1.alloc (.cells #[.int .u8 x, .int .i64 y, .string str, .slice a l c] 78)).heap.size := by simp; omega
      go_wp2_with (at_builtin; (refine wpList_append_own_at _ rfl _ _ 76 rfl w.heap.size 78 i0 _ 4 56 Tryz.underlying76 hi hz0 hz1 hz2 rfl (by decide) _ _ _ rfl hown1 ⟨w1.heap.size, 0, none⟩ 1 1 [.int .u8 x, .int .i64 y, .string str, .slice a l c] rfl rfl (four_new _ _ _ _ _ _) q2 q3 (by omega) q5 ?_); intro v' w2 hown' hgrow hnil hwhere; have HN := Lib.hid hnil; have HW := Lib.hid hwhere; clear hnil hwhere)
      exact ⟨⟨k + 1, by omega, by go_num, kids_round hbw hsz HH.out HV.out hgr1 HL.out hown' hgrow HN.out HW.out, grown_row (grownBy_trans hgr hgr1) hgrow (fun g e => (HH.out.lt g e).1)⟩, by simp [intOf]; omega⟩
    · obtain rfl : k = n := by omega
      go_wp2_with fail
      go_ret
      exact ⟨_, rfl, hat, hgr⟩
end Go.Proofs.YtjfhncfbejephaaGreatDoor
