/- The program's reader of a text, function by function: its smallest functions. -/
import Derived.Test.YtpiahmdgkmkhiaaRows
import Derived.Test.YtpiahmdgkmkhiaaTm
import Derived.WalkKit
import Derived.WalkSpells
import Derived.WalkLawsBesides
import Derived.BigQuiet
import Derived.Deep.QuietTactic
import Derived.Lib.Hide
import Derived.Lib.Strings
namespace Go.Proofs.Ytpiahmdgkmkhiaa
open Go.RowKit
open Ff

/-- A term as the program holds it. -/
def enc : Tm → Value
  | .num n => .iface 78 (.agg #[.int .i64 (n : Int)])
  | .var c => .iface 68 (.agg #[.int .u8 (c.toNat : Int)])
  | .fn c b => .iface 75 (.agg #[.int .u8 0, .int .u8 (c.toNat : Int), enc b])
  | .fix f c b => .iface 75 (.agg #[.int .u8 (f.toNat : Int), .int .u8 (c.toNat : Int), enc b])
  | .app f a => .iface 92 (.agg #[enc f, enc a])
  | .bind c v b => .iface 88 (.agg #[.int .u8 (c.toNat : Int), enc v, enc b])
  | .op s l r => .iface 94 (.agg #[.int .u8 (s.toNat : Int), enc l, enc r])
  | .sel a b c => .iface 96 (.agg #[enc a, enc b, enc c])

theorem enc_gen (t : Tm) : ∃ n v, enc t = .iface n v := by cases t <;> exact ⟨_, _, rfl⟩
theorem enc_cells (t : Tm) : (enc t).cells = #[enc t] := by cases t <;> rfl
/-- The panic of a misfit. -/
def misfit : List PanicEntry := [{ v := .iface 86 (.agg #[]), recovered := false }]

/-- The reader in block b has the text s before it. -/
structure Rd0 (b : Nat) (s : Text) (w : World) : Prop where
  cell : w.cell? ⟨b, 0, none⟩ = some (.string ⟨s.toArray⟩)
  free : w.frozen? ⟨b, 0, none⟩ = false

/-- The reader in block b has moved on to the text r; nothing else that was there has turned. -/
structure Rd (b : Nat) (r : Text) (w w' : World) : Prop where
  cell : w'.cell? ⟨b, 0, none⟩ = some (.string ⟨r.toArray⟩)
  free : w'.frozen? ⟨b, 0, none⟩ = false
  rest : w.grownBy w' (some b)

theorem grownBy_trans {a b c : World} {row : Option Nat} (h : a.grownBy b row) (k : b.grownBy c row) : a.grownBy c row :=
  ⟨k.os.trans h.os, k.tape.trans h.tape, k.output.trans h.output, Nat.le_trans h.size k.size, fun i hi hn => (k.block i (Nat.lt_of_lt_of_le hi h.size) hn).trans (h.block i hi hn)⟩
theorem grownBy_setCell (w : World) (b o : Nat) (v : Value) : w.grownBy (w.setCell ⟨b, o, none⟩ v) (some b) :=
  ⟨rfl, rfl, rfl, by simp [World.setCell], fun k _ hk => Below.heap_setCell _ _ _ _ (by simpa using hk)⟩
theorem Rd.here {b : Nat} {r : Text} {w w' : World} (h : Rd b r w w') : Rd0 b r w' := ⟨h.cell, h.free⟩
theorem Rd0.stay {b : Nat} {s : Text} {w : World} (h : Rd0 b s w) : Rd b s w w := ⟨h.cell, h.free, World.grownBy.refl _ _⟩
theorem Rd.then {b : Nat} {s r : Text} {w w1 w2 : World} (h : Rd b s w w1) (k : Rd b r w1 w2) : Rd b r w w2 := ⟨k.cell, k.free, grownBy_trans h.rest k.rest⟩
theorem Rd0.step {b : Nat} {s : Text} {w : World} (h : Rd0 b s w) (r : Text) : Rd b r w (w.setCell ⟨b, 0, none⟩ (.string ⟨r.toArray⟩)) :=
  ⟨World.cell?_setCell_same _ _ _ h.cell, by rw [World.frozen?_setCell]; exact h.free, grownBy_setCell _ _ _ _⟩

theorem ba_ext {a b : ByteArray} (h : a.data.toList = b.data.toList) : a = b := by
  obtain ⟨⟨l⟩⟩ := a
  obtain ⟨⟨m⟩⟩ := b
  simpa using h
theorem extract_tail (c : UInt8) (s : Text) : (⟨(c :: s).toArray⟩ : ByteArray).extract 1 (s.length + 1) = ⟨s.toArray⟩ := by
  apply ba_ext
  rw [Lib.extract_data]
  simp

theorem ret_bool {a b : Bool} (h : a = b) : Ending.returned (.bool a) = .returned (.bool b) := by rw [h]
theorem dig_lo {c : UInt8} (h : 48 ≤ (c.toNat : Int)) : decide ((c.toNat : Int) ≤ 57) = isDig c := by
  have h2 : 48 ≤ c.toNat := by omega
  by_cases h3 : c.toNat ≤ 57
  · have h4 : (c.toNat : Int) ≤ 57 := by omega
    simp [isDig, h2, h3, h4]
  · have h4 : ¬ (c.toNat : Int) ≤ 57 := by omega
    simp [isDig, h3, h4]
theorem dig_hi {c : UInt8} (h : (c.toNat : Int) < 48) : false = isDig c := by
  have h2 : ¬ 48 ≤ c.toNat := by omega
  simp [isDig, h2]
theorem nam_lo {c : UInt8} (h : 97 ≤ (c.toNat : Int)) : decide ((c.toNat : Int) ≤ 112) = isNam c := by
  have h2 : 97 ≤ c.toNat := by omega
  by_cases h3 : c.toNat ≤ 112
  · have h4 : (c.toNat : Int) ≤ 112 := by omega
    simp [isNam, h2, h3, h4]
  · have h4 : ¬ (c.toNat : Int) ≤ 112 := by omega
    simp [isNam, h3, h4]
theorem nam_hi {c : UInt8} (h : (c.toNat : Int) < 97) : false = isNam c := by
  have h2 : ¬ 97 ≤ c.toNat := by omega
  simp [isNam, h2]

set_option maxHeartbeats 400000 in
theorem isDigit_c (c : UInt8) (w : World) :
    Calls Try.prog 78 #[.int .u8 (c.toNat : Int)] w fun e w' => e = .returned (.bool (isDig c)) ∧ w = w' := by
  go_enter Try.func78, Try.ntmps78
  go_wp2
  all_goals go_ret
  · exact ⟨ret_bool (dig_lo ‹_›), rfl⟩
  · exact ⟨ret_bool (dig_hi ‹_›), rfl⟩

set_option maxHeartbeats 400000 in
theorem isName_c (c : UInt8) (w : World) :
    Calls Try.prog 68 #[.int .u8 (c.toNat : Int)] w fun e w' => e = .returned (.bool (isNam c)) ∧ w = w' := by
  go_enter Try.func68, Try.ntmps68
  go_wp2
  all_goals go_ret
  · exact ⟨ret_bool (nam_lo ‹_›), rfl⟩
  · exact ⟨ret_bool (nam_hi ‹_›), rfl⟩

/-- What a read of one byte comes to. -/
def BytePost (b : Nat) (w : World) : Option (UInt8 × Text) → Ending → World → Prop
  | some (c, r), e, w' => e = .returned (.int .u8 (c.toNat : Int)) ∧ Rd b r w w'
  | none, e, w' => e = .panicked misfit ∧ ∃ r, Rd b r w w'
/-- What a read of a term comes to. -/
def TermPost (b : Nat) (w : World) : Option (Tm × Text) → Ending → World → Prop
  | some (t, r), e, w' => e = .returned (enc t) ∧ Rd b r w w'
  | none, e, w' => e = .panicked misfit ∧ ∃ r, Rd b r w w'

theorem byte_use {b : Nat} {w : World} {o : Option (UInt8 × Text)} {P : Program} {f : FuncId} {args : Array Value} {K : Ending → World → Prop} (C : Calls P f args w (BytePost b w o))
    (hs : ∀ c r w', o = some (c, r) → Rd b r w w' → K (.returned (.int .u8 (c.toNat : Int))) w') (hn : ∀ r w', o = none → Rd b r w w' → K (.panicked misfit) w') : Calls P f args w K := by
  refine C.mono fun e w' h => ?_
  match o, h with
  | some (c, r), ⟨he, hr⟩ => subst he; exact hs c r w' rfl hr
  | none, ⟨he, r, hr⟩ => subst he; exact hn r w' rfl hr
theorem term_use {b : Nat} {w : World} {o : Option (Tm × Text)} {P : Program} {f : FuncId} {args : Array Value} {K : Ending → World → Prop} (C : Calls P f args w (TermPost b w o))
    (hs : ∀ c r w' n v, o = some (c, r) → Rd b r w w' → Hid (enc c = .iface n v) → K (.returned (.iface n v)) w') (hn : ∀ r w', o = none → Rd b r w w' → K (.panicked misfit) w') : Calls P f args w K := by
  refine C.mono fun e w' h => ?_
  match o, h with
  | some (c, r), ⟨he, hr⟩ =>
    obtain ⟨n, v, ev⟩ := enc_gen c
    rw [ev] at he
    subst he
    exact hs c r w' n v rfl hr ev
  | none, ⟨he, r, hr⟩ => subst he; exact hn r w' rfl hr

set_option maxHeartbeats 400000 in
theorem next_c (b : Nat) (s : Text) (w : World) (h : Rd0 b s w) (hl : s.length < 1000) :
    Calls Try.prog 70 #[.pointer (some ⟨b, 0, none⟩)] w (BytePost b w (next1 s)) := by
  match s with
  | [] =>
    have hc := h.cell
    go_enter Try.func70, Try.ntmps70
    go_wp2
    exact ⟨rfl, rfl, [], h.stay⟩
  | c :: s =>
    have hc := h.cell
    have hf := h.free
    simp only [List.length_cons] at hl
    have hs := h.step s
    rw [← extract_tail c s] at hs
    go_enter Try.func70, Try.ntmps70
    go_wp2
    go_ret
    rw [extract_tail] at *
    exact ⟨rfl, hs⟩
end Go.Proofs.Ytpiahmdgkmkhiaa
