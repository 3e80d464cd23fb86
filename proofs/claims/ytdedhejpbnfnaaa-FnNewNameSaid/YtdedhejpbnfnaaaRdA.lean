/- The program's reader of a text, function by function: its smallest functions. -/
import Derived.Test.YtdedhejpbnfnaaaRows
import Derived.Test.YtdedhejpbnfnaaaTm
import Derived.WalkKit
import Derived.WalkSpells
import Derived.WalkLawsBesides
import Derived.BigQuiet
import Derived.Deep.QuietTactic
import Derived.Lib.Hide
import Derived.Lib.Strings
namespace Go.Proofs.Ytdedhejpbnfnaaa
open Go.RowKit
open Ff

/-- The reader in block b has the text s before it. -/
structure Rd0 (b : Nat) (s : Text) (w : World) : Prop where
  cell : w.cell? ⟨b, 0, none⟩ = some (.string ⟨s.toArray⟩)
  free : w.frozen? ⟨b, 0, none⟩ = false

/-- The reader in block b has moved on to the text r; nothing else that was there has turned. -/
structure Rd (b : Nat) (r : Text) (w w' : World) : Prop where
  cell : w'.cell? ⟨b, 0, none⟩ = some (.string ⟨r.toArray⟩)
  free : w'.frozen? ⟨b, 0, none⟩ = false
  rest : w.grownBy w' (some b)

theorem grownBy_trans {a b c : World} {row : Option Nat} (h : a.grownBy b row) (k : b.grownBy c row) : a.grownBy c row :=
  ⟨k.os.trans h.os, k.tape.trans h.tape, k.output.trans h.output, Nat.le_trans h.size k.size, fun i hi hn => (k.block i (Nat.lt_of_lt_of_le hi h.size) hn).trans (h.block i hi hn)⟩
theorem grownBy_setCell (w : World) (b o : Nat) (v : Value) : w.grownBy (w.setCell ⟨b, o, none⟩ v) (some b) :=
  ⟨rfl, rfl, rfl, by simp [World.setCell], fun k _ hk => Below.heap_setCell _ _ _ _ (by simpa using hk)⟩
theorem Rd.here {b : Nat} {r : Text} {w w' : World} (h : Rd b r w w') : Rd0 b r w' := ⟨h.cell, h.free⟩
theorem Rd0.stay {b : Nat} {s : Text} {w : World} (h : Rd0 b s w) : Rd b s w w := ⟨h.cell, h.free, World.grownBy.refl _ _⟩
theorem Rd.then {b : Nat} {s r : Text} {w w1 w2 : World} (h : Rd b s w w1) (k : Rd b r w1 w2) : Rd b r w w2 := ⟨k.cell, k.free, grownBy_trans h.rest k.rest⟩
theorem Rd0.step {b : Nat} {s : Text} {w : World} (h : Rd0 b s w) (r : Text) : Rd b r w (w.setCell ⟨b, 0, none⟩ (.string ⟨r.toArray⟩)) :=
  ⟨World.cell?_setCell_same _ _ _ h.cell, by rw [World.frozen?_setCell]; exact h.free, grownBy_setCell _ _ _ _⟩

theorem ba_ext {a b : ByteArray} (h : a.data.toList = b.data.toList) : a = b := by
  obtain ⟨⟨l⟩⟩ := a
  obtain ⟨⟨m⟩⟩ := b
  simpa using h
theorem extract_tail (c : UInt8) (s : Text) : (⟨(c :: s).toArray⟩ : ByteArray).extract 1 (s.length + 1) = ⟨s.toArray⟩ := by
  apply ba_ext
  rw [Lib.extract_data]
  simp

theorem ret_bool {a b : Bool} (h : a = b) : Ending.returned (.bool a) = .returned (.bool b) := by rw [h]
theorem dig_lo {c : UInt8} (h : 48 ≤ (c.toNat : Int)) : decide ((c.toNat : Int) ≤ 57) = isDig c := by
  have h2 : 48 ≤ c.toNat := by omega
  by_cases h3 : c.toNat ≤ 57
  · have h4 : (c.toNat : Int) ≤ 57 := by omega
    simp [isDig, h2, h3, h4]
  · have h4 : ¬ (c.toNat : Int) ≤ 57 := by omega
    simp [isDig, h3, h4]
theorem dig_hi {c : UInt8} (h : (c.toNat : Int) < 48) : false = isDig c := by
  have h2 : ¬ 48 ≤ c.toNat := by omega
  simp [isDig, h2]
theorem nam_lo {c : UInt8} (h : 97 ≤ (c.toNat : Int)) : decide ((c.toNat : Int) ≤ 112) = isNam c := by
  have h2 : 97 ≤ c.toNat := by omega
  by_cases h3 : c.toNat ≤ 112
  · have h4 : (c.toNat : Int) ≤ 112 := by omega
    simp [isNam, h2, h3, h4]
  · have h4 : ¬ (c.toNat : Int) ≤ 112 := by omega
    simp [isNam, h3, h4]
theorem nam_hi {c : UInt8} (h : (c.toNat : Int) < 97) : false = isNam c := by
  have h2 : ¬ 97 ≤ c.toNat := by omega
  simp [isNam, h2]

end Go.Proofs.Ytdedhejpbnfnaaa
