import Derived.Test.YtjfhncfbejephaaGreatDoorMCl
import Derived.Test.YtjfhncfbejephaaGreatDoorMYi
import Derived.Test.YtjfhncfbejephaaGreatDoorMTx
/- IsUnique: the model's. -/
namespace Go.Proofs.YtjfhncfbejephaaGreatDoor
open Go.RowKit
open Ff
set_option linter.unusedVariables false

/-- No name of a text is among those seen, nor twice in it. -/
def freshL (seen : Text) : Text → Bool
  | [] => true
  | c :: r => decide (c ∉ seen) && freshL (seen ++ [c]) r
/-- The names that the terms of a list bind, in order. -/
def allB (l : List Tm) : Text := l.flatMap bindsOf
theorem allB_drop (l : List Tm) (k : Nat) (s : Tm) (h : l[k]? = some s) : allB (l.drop k) = bindsOf s ++ allB (l.drop (k + 1)) := by
  obtain ⟨h1, h2⟩ := List.getElem?_eq_some_iff.1 h
  rw [List.drop_eq_getElem_cons h1, h2]
  rfl
theorem allB_end (l : List Tm) : allB (l.drop l.length) = [] := by simp [allB]
theorem allB_len (l : List Tm) (k : Nat) : (allB (l.take k)).length ≤ 2 * k := boundTo_len l k
theorem allB_take (l : List Tm) (k : Nat) (s : Tm) (h : l[k]? = some s) : allB (l.take (k + 1)) = allB (l.take k) ++ bindsOf s := boundTo_succ l k s h
theorem fresh_drop (seen nm rest : Text) (j : Nat) (c : UInt8) (h : nm[j]? = some c) : freshL seen (nm.drop j ++ rest) = (decide (c ∉ seen) && freshL (seen ++ [c]) (nm.drop (j + 1) ++ rest)) := by
  obtain ⟨h1, h2⟩ := List.getElem?_eq_some_iff.1 h
  rw [List.drop_eq_getElem_cons h1, h2]
  rfl
def uniqT (t : Tm) : Bool := freshL (sfree t) (allB (parts t))
def uniqB (o : Option Tm) : Bool := match o with | some t => uniqT t | none => false

end Go.Proofs.YtjfhncfbejephaaGreatDoor

/- IsUnique: the program's, and the statement's walk. -/
namespace Go.Proofs.YtjfhncfbejephaaGreatDoor
open Go.RowKit
open Ff
set_option linter.unusedVariables false

theorem fresh_iff : ∀ (l seen : Text), freshL seen l = true ↔ ∀ c, l.count c ≤ 1 ∧ (l.count c ≠ 0 → c ∉ seen) := by
  intro l
  induction l with
  | nil => intro seen; simp [freshL]
  | cons a r ih =>
    intro seen
    simp only [freshL, Bool.and_eq_true, decide_eq_true_eq, ih]
    constructor
    · rintro ⟨ha, h⟩ c
      obtain ⟨h1, h2⟩ := h c
      by_cases e : c = a
      · subst e
        have h0 : List.count c r = 0 := by
          apply Classical.byContradiction
          intro hn
          exact h2 hn (by simp)
        rw [List.count_cons_self]
        exact ⟨by omega, fun _ => ha⟩
      · have e2 : ¬ a = c := fun h => e h.symm
        rw [List.count_cons_of_ne e2]
        exact ⟨h1, fun hn hm => h2 hn (by simp [hm])⟩
    · intro h
      refine ⟨(h a).2 (by rw [List.count_cons_self]; omega), fun c => ?_⟩
      obtain ⟨h1, h2⟩ := h c
      by_cases e : c = a
      · subst e
        rw [List.count_cons_self] at h1
        exact ⟨by omega, fun hn => absurd (by omega) hn⟩
      · have e2 : ¬ a = c := fun h => e h.symm
        rw [List.count_cons_of_ne e2] at h1 h2
        exact ⟨h1, fun hn hm => by simp at hm; rcases hm with hm | hm; exact h2 hn hm; exact e hm⟩
theorem uniq_iff {t : Tm} (h : t.good) : uniqT t = true ↔ ∀ c, cntB (parts t) c ≤ 1 ∧ (cntB (parts t) c ≠ 0 → cntF t c = 0) := by
  unfold uniqT
  rw [fresh_iff]
  have e : ∀ c, List.count c (allB (parts t)) = cntB (parts t) c := fun c => rfl
  simp only [e]
  constructor
  · intro h1 c
    refine ⟨(h1 c).1, fun hn => ?_⟩
    apply Classical.byContradiction
    intro h0
    exact (h1 c).2 hn ((mem_free h c).2 h0)
  · intro h1 c
    exact ⟨(h1 c).1, fun hn hm => (mem_free h c).1 hm ((h1 c).2 hn)⟩
theorem parts_good' {t s : Tm} (h : t.good) (hs : s ∈ parts t) : s.good := by
  induction t with
  | num n => simp only [parts, List.mem_singleton] at hs; subst hs; exact h
  | var c => simp only [parts, List.mem_singleton] at hs; subst hs; exact h
  | fn c b ih => simp only [parts, List.mem_cons] at hs; rcases hs with rfl | hs; exact h; exact ih h.2 hs
  | fix f c b ih => simp only [parts, List.mem_cons] at hs; rcases hs with rfl | hs; exact h; exact ih h.2.2.2 hs
  | app f a h1 h2 => simp only [parts, List.mem_cons, List.mem_append] at hs; rcases hs with rfl | hs | hs; exact h; exact h1 h.1 hs; exact h2 h.2 hs
  | bind c f a h1 h2 => simp only [parts, List.mem_cons, List.mem_append] at hs; rcases hs with rfl | hs | hs; exact h; exact h1 h.2.1 hs; exact h2 h.2.2 hs
  | op c f a h1 h2 => simp only [parts, List.mem_cons, List.mem_append] at hs; rcases hs with rfl | hs | hs; exact h; exact h1 h.2.1 hs; exact h2 h.2.2 hs
  | sel a b c h1 h2 h3 => simp only [parts, List.mem_cons, List.mem_append] at hs; rcases hs with rfl | hs | hs | hs; exact h; exact h1 h.1 hs; exact h2 h.2.1 hs; exact h3 h.2.2 hs

end Go.Proofs.YtjfhncfbejephaaGreatDoor

/- The program's untaken: the first letter that a tally lacks. -/
namespace Go.Proofs.YtjfhncfbejephaaGreatDoor
open Go.RowKit Go.Shelf
open Ff
set_option linter.unusedVariables false
attribute [local go_sem] Oper.semAt_some

/-- The letters among the first k that a tally lacks. -/
def butTo (m : UInt8 → Nat) (k : Nat) : Text := (letters.take k).filter (fun c => decide (m c = 0))
theorem but_succ (m : UInt8 → Nat) (k : Nat) (c : UInt8) (h : letters[k]? = some c) : butTo m (k + 1) = butTo m k ++ (if m c = 0 then [c] else []) := by
  unfold butTo
  rw [List.take_add_one, h]
  simp only [Option.toList_some, List.filter_append, List.append_cancel_left_eq]
  by_cases h2 : m c = 0 <;> simp [h2]
theorem but_len (m : UInt8 → Nat) (k : Nat) : (butTo m k).length ≤ k := Nat.le_trans (List.length_filter_le _ _) (by simp; omega)
theorem but_pre (m : UInt8 → Nat) (k : Nat) (h : k ≤ 16) : butTo m k <+: butTo m 16 := by
  refine ⟨(letters.drop k).filter (fun c => decide (m c = 0)), ?_⟩
  unfold butTo
  rw [← List.filter_append, List.take_append_drop]
  rfl
theorem Tally.keepB {A B : World} {b n n₀ : Nat} {m : UInt8 → Nat} (h : Tally A b n m) (hb : b < n₀) (hk : Below n₀ A B) : Tally B b n m := by
  obtain ⟨D, ⟨es, clock, h1, h2⟩, h3⟩ := h
  exact ⟨D, ⟨es, clock, (hk.block b hb).trans h1, h2⟩, h3⟩
/-- What untaken returns. -/
def untV (m : UInt8 → Nat) : Value := match (butTo m 16).head? with
  | some c => .tuple #[bv c, .bool true]
  | none => .tuple #[.int .u8 0, .bool false]
end Go.Proofs.YtjfhncfbejephaaGreatDoor

/- NewName: the model's and the program's. -/
namespace Go.Proofs.YtjfhncfbejephaaGreatDoor
open Go.RowKit
open Ff
set_option linter.unusedVariables false

set_option maxRecDepth 100000 in
set_option maxHeartbeats 1000000 in
theorem find_big (s : Text) (c : UInt8) (w : World) (hl : s.length ≤ 2000000) :
    Calls Tryz.prog 92 #[.string ⟨s.toArray⟩, .int .u8 (c.toNat : Int)] w fun e w' => e = .returned (.int .i64 (findI c s)) ∧ w' = w := by
  go_enter Tryz.func92, Tryz.ntmps92
  go_wp2_with fail
  go_loopw [5] (fun i wr => ∃ k : Nat, k ≤ s.length ∧ i = .int .i64 k ∧ c ∉ s.take k ∧ wr = w) (fun i _ => s.length - (intOf i).toNat)
  case atStart => exact ⟨0, Nat.zero_le _, rfl, by simp, rfl⟩
  case round =>
    obtain ⟨k, hk, rfl, hn, rfl⟩ := hrel
    have HN := Lib.hid hn
    clear hn
    by_cases hlt : k < s.length
    · obtain ⟨d, hd⟩ : ∃ d, s[k]? = some d := ⟨_, List.getElem?_eq_getElem hlt⟩
      go_wp2_with fail
      · rename_i hc
        rw [byte_eq s k c d hd (by rw [size_data]; exact hlt), decide_eq_true_iff] at hc
        subst hc
        go_ret
        exact ⟨by rw [findI_at hd HN.out]; rfl, rfl⟩
      · rename_i hc
        rw [byte_eq s k c d hd (by rw [size_data]; exact hlt), decide_eq_false_iff_not] at hc
        refine ⟨⟨k + 1, by omega, by go_num, ?_, trivial⟩, by simp [intOf]; omega⟩
        rw [List.take_add_one, hd]
        simp only [Option.toList_some, List.mem_append, List.mem_singleton, not_or]
        exact ⟨HN.out, fun e => hc e.symm⟩
    · have hk2 : s.take k = s := List.take_of_length_le (by omega)
      rw [hk2] at HN
      go_wp2_with fail
      go_ret
      exact ⟨by rw [findI_none HN.out]; rfl, rfl⟩

/-- The first letter that is not in a text. -/
def newO (s : Text) : Option UInt8 := letters.find? (fun c => decide (c ∉ s))
def newT (s : Text) : Text := match newO s with | some c => [c] | none => []
theorem find_at {s : Text} {k : Nat} {c : UInt8} (hc : letters[k]? = some c) (h : ∀ d ∈ letters.take k, d ∈ s) (hm : c ∉ s) : newO s = some c := by
  unfold newO
  obtain ⟨h1, h2⟩ := List.getElem?_eq_some_iff.1 hc
  rw [← List.take_append_drop k letters, List.find?_append, List.find?_eq_none.2 (fun d hd => by simpa using h d hd), List.drop_eq_getElem_cons h1, h2]
  simp [hm]
theorem find_none {s : Text} (h : ∀ d ∈ letters, d ∈ s) : newO s = none := by
  unfold newO
  rw [List.find?_eq_none]
  intro d hd
  simpa using h d hd
/-- What NewName tells. -/
def newV (s : Text) : Value := match newO s with
  | some c => .tuple #[.string ⟨#[c]⟩, .bool true]
  | none => .tuple #[.string ⟨#[]⟩, .bool false]
theorem newV_shape (s : Text) : ∃ (x : ByteArray) (b : Bool), newV s = .tuple #[.string x, .bool b] := by
  unfold newV
  split <;> exact ⟨_, _, rfl⟩
theorem but_new (s : Text) : (butTo (fun c => s.count c) 16).head? = newO s := by
  unfold butTo newO
  rw [List.take_of_length_le (by decide), ← List.head?_filter]
  congr 1
  refine List.filter_congr fun c _ => ?_
  have : s.count c = 0 ↔ c ∉ s := List.count_eq_zero
  simp [this]
end Go.Proofs.YtjfhncfbejephaaGreatDoor
