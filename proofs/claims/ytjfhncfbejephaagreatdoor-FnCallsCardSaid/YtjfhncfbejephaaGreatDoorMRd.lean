import Derived.Test.YtjfhncfbejephaaGreatDoorRows
import Derived.Test.YtjfhncfbejephaaGreatDoorMTm
import Derived.WalkKit
import Derived.WalkSpells
import Derived.WalkLawsBesides
import Derived.BigQuiet
import Derived.Deep.QuietTactic
import Derived.Lib.Hide
import Derived.Lib.Strings
/- The program's reader of a text, function by function: its smallest functions. -/
namespace Go.Proofs.YtjfhncfbejephaaGreatDoor
open Go.RowKit
open Ff

/-- A term as the program holds it. -/
def enc : Tm → Value
  | .num n => .iface 137 (.agg #[.int .i64 (n : Int)])
  | .var c => .iface 122 (.agg #[.int .u8 (c.toNat : Int)])
  | .fn c b => .iface 140 (.agg #[.int .u8 0, .int .u8 (c.toNat : Int), enc b])
  | .fix f c b => .iface 140 (.agg #[.int .u8 (f.toNat : Int), .int .u8 (c.toNat : Int), enc b])
  | .app f a => .iface 143 (.agg #[enc f, enc a])
  | .bind c v b => .iface 146 (.agg #[.int .u8 (c.toNat : Int), enc v, enc b])
  | .op s l r => .iface 149 (.agg #[.int .u8 (s.toNat : Int), enc l, enc r])
  | .sel a b c => .iface 153 (.agg #[enc a, enc b, enc c])

theorem enc_gen (t : Tm) : ∃ n v, enc t = .iface n v := by cases t <;> exact ⟨_, _, rfl⟩
theorem enc_cells (t : Tm) : (enc t).cells = #[enc t] := by cases t <;> rfl
/-- The panic of a misfit. -/
def misfit : List PanicEntry := [{ v := .iface 163 (.agg #[]), recovered := false }]

/-- The reader in block b has the text s before it. -/
structure Rd0 (b : Nat) (s : Text) (w : World) : Prop where
  cell : w.cell? ⟨b, 0, none⟩ = some (.string ⟨s.toArray⟩)
  free : w.frozen? ⟨b, 0, none⟩ = false
  oth : w.cell? ⟨b, 1, none⟩ = some .nilFunc

/-- The reader in block b has moved on to the text r; nothing else that was there has turned. -/
structure Rd (b : Nat) (r : Text) (w w' : World) : Prop where
  cell : w'.cell? ⟨b, 0, none⟩ = some (.string ⟨r.toArray⟩)
  free : w'.frozen? ⟨b, 0, none⟩ = false
  oth : w'.cell? ⟨b, 1, none⟩ = some .nilFunc
  rest : w.grownBy w' (some b)

theorem grownBy_trans {a b c : World} {row : Option Nat} (h : a.grownBy b row) (k : b.grownBy c row) : a.grownBy c row :=
  ⟨k.os.trans h.os, k.tape.trans h.tape, k.output.trans h.output, Nat.le_trans h.size k.size, fun i hi hn => (k.block i (Nat.lt_of_lt_of_le hi h.size) hn).trans (h.block i hi hn)⟩
theorem grownBy_setCell (w : World) (b o : Nat) (v : Value) : w.grownBy (w.setCell ⟨b, o, none⟩ v) (some b) :=
  ⟨rfl, rfl, rfl, by simp [World.setCell], fun k _ hk => Below.heap_setCell _ _ _ _ (by simpa using hk)⟩
theorem Rd.here {b : Nat} {r : Text} {w w' : World} (h : Rd b r w w') : Rd0 b r w' := ⟨h.cell, h.free, h.oth⟩
theorem Rd0.stay {b : Nat} {s : Text} {w : World} (h : Rd0 b s w) : Rd b s w w := ⟨h.cell, h.free, h.oth, World.grownBy.refl _ _⟩
theorem Rd.then {b : Nat} {s r : Text} {w w1 w2 : World} (h : Rd b s w w1) (k : Rd b r w1 w2) : Rd b r w w2 := ⟨k.cell, k.free, k.oth, grownBy_trans h.rest k.rest⟩
theorem Rd0.step {b : Nat} {s : Text} {w : World} (h : Rd0 b s w) (r : Text) : Rd b r w (w.setCell ⟨b, 0, none⟩ (.string ⟨r.toArray⟩)) :=
  ⟨World.cell?_setCell_same _ _ _ h.cell, by rw [World.frozen?_setCell]; exact h.free, (World.cell?_setCell_other _ _ _ _ (by simp)).trans h.oth, grownBy_setCell _ _ _ _⟩

theorem ba_ext {a b : ByteArray} (h : a.data.toList = b.data.toList) : a = b := by
  obtain ⟨⟨l⟩⟩ := a
  obtain ⟨⟨m⟩⟩ := b
  simpa using h
theorem extract_tail (c : UInt8) (s : Text) : (⟨(c :: s).toArray⟩ : ByteArray).extract 1 (s.length + 1) = ⟨s.toArray⟩ := by
  apply ba_ext
  rw [Lib.extract_data]
  simp

theorem ret_bool {a b : Bool} (h : a = b) : Ending.returned (.bool a) = .returned (.bool b) := by rw [h]
theorem dig_lo {c : UInt8} (h : 48 ≤ (c.toNat : Int)) : decide ((c.toNat : Int) ≤ 57) = isDig c := by
  have h2 : 48 ≤ c.toNat := by omega
  by_cases h3 : c.toNat ≤ 57
  · have h4 : (c.toNat : Int) ≤ 57 := by omega
    simp [isDig, h2, h3, h4]
  · have h4 : ¬ (c.toNat : Int) ≤ 57 := by omega
    simp [isDig, h3, h4]
theorem dig_hi {c : UInt8} (h : (c.toNat : Int) < 48) : false = isDig c := by
  have h2 : ¬ 48 ≤ c.toNat := by omega
  simp [isDig, h2]
theorem nam_lo {c : UInt8} (h : 97 ≤ (c.toNat : Int)) : decide ((c.toNat : Int) ≤ 112) = isNam c := by
  have h2 : 97 ≤ c.toNat := by omega
  by_cases h3 : c.toNat ≤ 112
  · have h4 : (c.toNat : Int) ≤ 112 := by omega
    simp [isNam, h2, h3, h4]
  · have h4 : ¬ (c.toNat : Int) ≤ 112 := by omega
    simp [isNam, h3, h4]
theorem nam_hi {c : UInt8} (h : (c.toNat : Int) < 97) : false = isNam c := by
  have h2 : ¬ 97 ≤ c.toNat := by omega
  simp [isNam, h2]

set_option maxHeartbeats 400000 in
theorem isDigit_c (c : UInt8) (w : World) :
    Calls Tryz.prog 82 #[.int .u8 (c.toNat : Int)] w fun e w' => e = .returned (.bool (isDig c)) ∧ w = w' := by
  go_enter Tryz.func82, Tryz.ntmps82
  go_wp2
  all_goals go_ret
  · exact ⟨ret_bool (dig_lo ‹_›), rfl⟩
  · exact ⟨ret_bool (dig_hi ‹_›), rfl⟩

set_option maxHeartbeats 400000 in
theorem isName_c (c : UInt8) (w : World) :
    Calls Tryz.prog 83 #[.int .u8 (c.toNat : Int)] w fun e w' => e = .returned (.bool (isNam c)) ∧ w = w' := by
  go_enter Tryz.func83, Tryz.ntmps83
  go_wp2
  all_goals go_ret
  · exact ⟨ret_bool (nam_lo ‹_›), rfl⟩
  · exact ⟨ret_bool (nam_hi ‹_›), rfl⟩

/-- What a read of one byte comes to. -/
def BytePost (b : Nat) (w : World) : Option (UInt8 × Text) → Ending → World → Prop
  | some (c, r), e, w' => e = .returned (.int .u8 (c.toNat : Int)) ∧ Rd b r w w'
  | none, e, w' => e = .panicked misfit ∧ ∃ r, Rd b r w w'
/-- What a read of a term comes to. -/
def TermPost (b : Nat) (w : World) : Option (Tm × Text) → Ending → World → Prop
  | some (t, r), e, w' => e = .returned (enc t) ∧ Rd b r w w'
  | none, e, w' => e = .panicked misfit ∧ ∃ r, Rd b r w w'

theorem byte_use {b : Nat} {w : World} {o : Option (UInt8 × Text)} {P : Program} {f : FuncId} {args : Array Value} {K : Ending → World → Prop} (C : Calls P f args w (BytePost b w o))
    (hs : ∀ c r w', o = some (c, r) → Rd b r w w' → K (.returned (.int .u8 (c.toNat : Int))) w') (hn : ∀ r w', o = none → Rd b r w w' → K (.panicked misfit) w') : Calls P f args w K := by
  refine C.mono fun e w' h => ?_
  match o, h with
  | some (c, r), ⟨he, hr⟩ => subst he; exact hs c r w' rfl hr
  | none, ⟨he, r, hr⟩ => subst he; exact hn r w' rfl hr
theorem term_use {b : Nat} {w : World} {o : Option (Tm × Text)} {P : Program} {f : FuncId} {args : Array Value} {K : Ending → World → Prop} (C : Calls P f args w (TermPost b w o))
    (hs : ∀ c r w' n v, o = some (c, r) → Rd b r w w' → Hid (enc c = .iface n v) → K (.returned (.iface n v)) w') (hn : ∀ r w', o = none → Rd b r w w' → K (.panicked misfit) w') : Calls P f args w K := by
  refine C.mono fun e w' h => ?_
  match o, h with
  | some (c, r), ⟨he, hr⟩ =>
    obtain ⟨n, v, ev⟩ := enc_gen c
    rw [ev] at he
    subst he
    exact hs c r w' n v rfl hr ev
  | none, ⟨he, r, hr⟩ => subst he; exact hn r w' rfl hr

set_option maxHeartbeats 400000 in
theorem next_c (b : Nat) (s : Text) (w : World) (h : Rd0 b s w) (hl : s.length < 4000) :
    Calls Tryz.prog 74 #[.pointer (some ⟨b, 0, none⟩)] w (BytePost b w (next1 s)) := by
  match s with
  | [] =>
    have hc := h.cell
    go_enter Tryz.func74, Tryz.ntmps74
    go_wp2
    exact ⟨rfl, rfl, [], h.stay⟩
  | c :: s =>
    have hc := h.cell
    have hf := h.free
    simp only [List.length_cons] at hl
    have hs := h.step s
    rw [← extract_tail c s] at hs
    go_enter Tryz.func74, Tryz.ntmps74
    go_wp2
    go_ret
    rw [extract_tail] at *
    exact ⟨rfl, hs⟩
end Go.Proofs.YtjfhncfbejephaaGreatDoor

/- The program's reader of a text, function by function: what calls the reader of terms, and that one itself. -/
namespace Go.Proofs.YtjfhncfbejephaaGreatDoor
open Go.RowKit
open Ff
set_option linter.unusedVariables false

set_option maxHeartbeats 400000 in
theorem name_c (b : Nat) (s : Text) (w : World) (h : Rd0 b s w) (hl : s.length < 4000) :
    Calls Tryz.prog 93 #[.pointer (some ⟨b, 0, none⟩)] w (BytePost b w (name1 s)) := by
  have C := next_c b s w h hl
  go_enter Tryz.func93, Tryz.ntmps93
  go_wp2_with fail
  refine byte_use C (fun c r w1 ho h1 => ?_) (fun r w1 ho h1 => ?_)
  · cases s with
    | nil => simp [next1] at ho
    | cons a s =>
      simp only [next1, Option.some.injEq, Prod.mk.injEq] at ho
      obtain ⟨rfl, rfl⟩ := ho
      cases hn : isNam a with
      | true =>
        have Hn := Lib.hid hn; clear hn
        go_wp2_with (go_at_call 83; refine (isName_c a _).mono ?_; rintro e w' ⟨rfl, rfl⟩; rw [Hn.out])
        go_ret
        have e : name1 (a :: s) = some (a, s) := by simp [name1, Hn.out]
        rw [e]
        exact ⟨rfl, h1⟩
      | false =>
        have Hn := Lib.hid hn; clear hn
        go_wp2_with (go_at_call 83; refine (isName_c a _).mono ?_; rintro e w' ⟨rfl, rfl⟩; rw [Hn.out])
        have e : name1 (a :: s) = none := by simp [name1, Hn.out]
        rw [e]
        exact ⟨rfl, rfl, s, h1⟩
  · cases s with
    | nil => exact ⟨rfl, rfl, r, h1⟩
    | cons a s => simp [next1] at ho
/-- GEN -/
def TermC (k : Nat) : Prop := ∀ (b : Nat) (s : Text) (w : World), Rd0 b s w → s.length < k → s.length < 4000 → Calls Tryz.prog 50 #[.pointer (some ⟨b, 0, none⟩)] w (TermPost b w (parse k s))

set_option maxHeartbeats 1000000 in
theorem function_c (k : Nat) (ih : TermC k) (b : Nat) (s : Text) (w : World) (h : Rd0 b s w) (hk : s.length < k) (hl : s.length < 4000) :
    Calls Tryz.prog 76 #[.pointer (some ⟨b, 0, none⟩)] w (TermPost b w (pFn (parse k) s)) := by
  go_enter Tryz.func76, Tryz.ntmps76
  have C1 := name_c b s w h (by omega)
  go_wp2_with fail
  refine byte_use C1 (fun x1 r1 w1 o1 h1 => ?_) (fun r1 w1 o1 h1 => ?_)
  · have l1 := name1_len o1
    clear C1
    have O1 := Lib.hid o1; clear o1
    have C2 := ih b r1 w1 h1.here (by omega) (by omega)
    go_wp2_with fail
    refine term_use C2 (fun x2 r2 w2 n2 v2 o2 h2 E2 => ?_) (fun r2 w2 o2 h2 => ?_)
    · have l2 := parse_len _ _ _ _ o2
      clear C2
      have O2 := Lib.hid o2; clear o2
      go_wp2_with fail
      go_ret
      simp only [pFn, O1.out, O2.out, Option.bind_some]
      exact ⟨by simp only [enc, E2.out]; rfl, ((h1).then h2)⟩
    · have e : (pFn (parse k) s) = none := by simp only [pFn, O1.out, o2, Option.bind_some, Option.bind_none]
      rw [e]
      exact ⟨rfl, rfl, r2, ((h1).then h2)⟩
  · have e : (pFn (parse k) s) = none := by simp only [pFn, o1, Option.bind_none]
    rw [e]
    exact ⟨rfl, rfl, r1, h1⟩

set_option maxHeartbeats 1000000 in
theorem let_c (k : Nat) (ih : TermC k) (b : Nat) (s : Text) (w : World) (h : Rd0 b s w) (hk : s.length < k) (hl : s.length < 4000) :
    Calls Tryz.prog 79 #[.pointer (some ⟨b, 0, none⟩)] w (TermPost b w (pBind (parse k) s)) := by
  go_enter Tryz.func79, Tryz.ntmps79
  have C1 := name_c b s w h (by omega)
  go_wp2_with fail
  refine byte_use C1 (fun x1 r1 w1 o1 h1 => ?_) (fun r1 w1 o1 h1 => ?_)
  · have l1 := name1_len o1
    clear C1
    have O1 := Lib.hid o1; clear o1
    have C2 := ih b r1 w1 h1.here (by omega) (by omega)
    go_wp2_with fail
    refine term_use C2 (fun x2 r2 w2 n2 v2 o2 h2 E2 => ?_) (fun r2 w2 o2 h2 => ?_)
    · have l2 := parse_len _ _ _ _ o2
      clear C2
      have O2 := Lib.hid o2; clear o2
      have C3 := ih b r2 w2 h2.here (by omega) (by omega)
      go_wp2_with fail
      refine term_use C3 (fun x3 r3 w3 n3 v3 o3 h3 E3 => ?_) (fun r3 w3 o3 h3 => ?_)
      · have l3 := parse_len _ _ _ _ o3
        clear C3
        have O3 := Lib.hid o3; clear o3
        go_wp2_with fail
        go_ret
        simp only [pBind, O1.out, O2.out, O3.out, Option.bind_some]
        exact ⟨by simp only [enc, E2.out, E3.out]; rfl, ((((h1).then h2)).then h3)⟩
      · have e : (pBind (parse k) s) = none := by simp only [pBind, O1.out, O2.out, o3, Option.bind_some, Option.bind_none]
        rw [e]
        exact ⟨rfl, rfl, r3, ((((h1).then h2)).then h3)⟩
    · have e : (pBind (parse k) s) = none := by simp only [pBind, O1.out, o2, Option.bind_some, Option.bind_none]
      rw [e]
      exact ⟨rfl, rfl, r2, ((h1).then h2)⟩
  · have e : (pBind (parse k) s) = none := by simp only [pBind, o1, Option.bind_none]
    rw [e]
    exact ⟨rfl, rfl, r1, h1⟩

set_option maxHeartbeats 1000000 in
theorem operation_c (k : Nat) (ih : TermC k) (c : UInt8) (b : Nat) (s : Text) (w : World) (h : Rd0 b s w) (hk : s.length < k) (hl : s.length < 4000) :
    Calls Tryz.prog 80 #[.pointer (some ⟨b, 0, none⟩), .int .u8 (c.toNat : Int)] w (TermPost b w (pOp (parse k) c s)) := by
  go_enter Tryz.func80, Tryz.ntmps80
  have C1 := ih b s w h (by omega) (by omega)
  go_wp2_with fail
  refine term_use C1 (fun x1 r1 w1 n1 v1 o1 h1 E1 => ?_) (fun r1 w1 o1 h1 => ?_)
  · have l1 := parse_len _ _ _ _ o1
    clear C1
    have O1 := Lib.hid o1; clear o1
    have C2 := ih b r1 w1 h1.here (by omega) (by omega)
    go_wp2_with fail
    refine term_use C2 (fun x2 r2 w2 n2 v2 o2 h2 E2 => ?_) (fun r2 w2 o2 h2 => ?_)
    · have l2 := parse_len _ _ _ _ o2
      clear C2
      have O2 := Lib.hid o2; clear o2
      go_wp2_with fail
      go_ret
      simp only [pOp, O1.out, O2.out, Option.bind_some]
      exact ⟨by simp only [enc, E1.out, E2.out]; rfl, ((h1).then h2)⟩
    · have e : (pOp (parse k) c s) = none := by simp only [pOp, O1.out, o2, Option.bind_some, Option.bind_none]
      rw [e]
      exact ⟨rfl, rfl, r2, ((h1).then h2)⟩
  · have e : (pOp (parse k) c s) = none := by simp only [pOp, o1, Option.bind_none]
    rw [e]
    exact ⟨rfl, rfl, r1, h1⟩

set_option maxHeartbeats 1000000 in
theorem choice_c (k : Nat) (ih : TermC k) (b : Nat) (s : Text) (w : World) (h : Rd0 b s w) (hk : s.length < k) (hl : s.length < 4000) :
    Calls Tryz.prog 81 #[.pointer (some ⟨b, 0, none⟩)] w (TermPost b w (pSel (parse k) s)) := by
  go_enter Tryz.func81, Tryz.ntmps81
  have C1 := ih b s w h (by omega) (by omega)
  go_wp2_with fail
  refine term_use C1 (fun x1 r1 w1 n1 v1 o1 h1 E1 => ?_) (fun r1 w1 o1 h1 => ?_)
  · have l1 := parse_len _ _ _ _ o1
    clear C1
    have O1 := Lib.hid o1; clear o1
    have C2 := ih b r1 w1 h1.here (by omega) (by omega)
    go_wp2_with fail
    refine term_use C2 (fun x2 r2 w2 n2 v2 o2 h2 E2 => ?_) (fun r2 w2 o2 h2 => ?_)
    · have l2 := parse_len _ _ _ _ o2
      clear C2
      have O2 := Lib.hid o2; clear o2
      have C3 := ih b r2 w2 h2.here (by omega) (by omega)
      go_wp2_with fail
      refine term_use C3 (fun x3 r3 w3 n3 v3 o3 h3 E3 => ?_) (fun r3 w3 o3 h3 => ?_)
      · have l3 := parse_len _ _ _ _ o3
        clear C3
        have O3 := Lib.hid o3; clear o3
        go_wp2_with fail
        go_ret
        simp only [pSel, O1.out, O2.out, O3.out, Option.bind_some]
        exact ⟨by simp only [enc, E1.out, E2.out, E3.out]; rfl, ((((h1).then h2)).then h3)⟩
      · have e : (pSel (parse k) s) = none := by simp only [pSel, O1.out, O2.out, o3, Option.bind_some, Option.bind_none]
        rw [e]
        exact ⟨rfl, rfl, r3, ((((h1).then h2)).then h3)⟩
    · have e : (pSel (parse k) s) = none := by simp only [pSel, O1.out, o2, Option.bind_some, Option.bind_none]
      rw [e]
      exact ⟨rfl, rfl, r2, ((h1).then h2)⟩
  · have e : (pSel (parse k) s) = none := by simp only [pSel, o1, Option.bind_none]
    rw [e]
    exact ⟨rfl, rfl, r1, h1⟩

set_option maxHeartbeats 1000000 in
theorem fix_c (k : Nat) (ih : TermC k) (b : Nat) (s : Text) (w : World) (h : Rd0 b s w) (hk : s.length < k) (hl : s.length < 4000) :
    Calls Tryz.prog 77 #[.pointer (some ⟨b, 0, none⟩)] w (TermPost b w (pFix (parse k) s)) := by
  go_enter Tryz.func77, Tryz.ntmps77
  have C1 := name_c b s w h (by omega)
  go_wp2_with fail
  refine byte_use C1 (fun x1 r1 w1 o1 h1 => ?_) (fun r1 w1 o1 h1 => ?_)
  · have l1 := name1_len o1
    clear C1
    have O1 := Lib.hid o1; clear o1
    have C2 := name_c b r1 w1 h1.here (by omega)
    go_wp2_with fail
    refine byte_use C2 (fun x2 r2 w2 o2 h2 => ?_) (fun r2 w2 o2 h2 => ?_)
    · have l2 := name1_len o2
      clear C2
      have O2 := Lib.hid o2; clear o2
      by_cases hx : x1 = x2
      · subst hx
        have hq : ((x1.toNat : Int) == (x1.toNat : Int)) = true := by simp
        go_wp2_with fail
        have e : pFix (parse k) s = none := by simp only [pFix, O1.out, O2.out, Option.bind_some, if_true]
        rw [e]
        exact ⟨rfl, rfl, r2, h1.then h2⟩
      have hq : ((x1.toNat : Int) == (x2.toNat : Int)) = false := by
        rw [beq_eq_false_iff_ne]; intro h9; exact hx (UInt8.toNat_inj.1 (by omega))
      have Hx := Lib.hid hx; clear hx
      have C3 := ih b r2 w2 h2.here (by omega) (by omega)
      go_wp2_with fail
      refine term_use C3 (fun x3 r3 w3 n3 v3 o3 h3 E3 => ?_) (fun r3 w3 o3 h3 => ?_)
      · clear C3
        have O3 := Lib.hid o3; clear o3
        go_wp2_with fail
        go_ret
        simp only [pFix, O1.out, O2.out, O3.out, Option.bind_some, if_neg Hx.out]
        exact ⟨by simp only [enc, E3.out]; rfl, (h1.then h2).then h3⟩
      · have e : pFix (parse k) s = none := by simp only [pFix, O1.out, O2.out, o3, Option.bind_some, Option.bind_none, if_neg Hx.out]
        rw [e]
        exact ⟨rfl, rfl, r3, (h1.then h2).then h3⟩
    · have e : (pFix (parse k) s) = none := by simp only [pFix, O1.out, o2, Option.bind_some, Option.bind_none]
      rw [e]
      exact ⟨rfl, rfl, r2, ((h1).then h2)⟩
  · have e : (pFix (parse k) s) = none := by simp only [pFix, o1, Option.bind_none]
    rw [e]
    exact ⟨rfl, rfl, r1, h1⟩

set_option maxHeartbeats 1000000 in
theorem app_c (k : Nat) (ih : TermC k) (b : Nat) (s : Text) (w : World) (h : Rd0 b s w) (hk : s.length < k) (hl : s.length < 4000) :
    Calls Tryz.prog 78 #[.pointer (some ⟨b, 0, none⟩)] w (TermPost b w (pApp (parse k) s)) := by
  go_enter Tryz.func78, Tryz.ntmps78
  have C1 := ih b s w h (by omega) (by omega)
  go_wp2_with fail
  refine term_use C1 (fun x1 r1 w1 n1 v1 o1 h1 E1 => ?_) (fun r1 w1 o1 h1 => ?_)
  · have l1 := parse_len _ _ _ _ o1
    clear C1
    have O1 := Lib.hid o1; clear o1
    have C2 := ih b r1 w1 h1.here (by omega) (by omega)
    go_wp2_with fail
    refine term_use C2 (fun x2 r2 w2 n2 v2 o2 h2 E2 => ?_) (fun r2 w2 o2 h2 => ?_)
    · have l2 := parse_len _ _ _ _ o2
      clear C2
      have O2 := Lib.hid o2; clear o2
      have C3 := next_c b r2 w2 h2.here (by omega)
      go_wp2_with fail
      refine byte_use C3 (fun x3 r3 w3 o3 h3 => ?_) (fun r3 w3 o3 h3 => ?_)
      · have l3 := next1_len o3
        clear C3
        have O3 := Lib.hid o3; clear o3
        by_cases hx : x3.toNat = 41
        · have hq : ((x3.toNat : Int) != 41) = false := by rw [hx]; rfl
          have Hx := Lib.hid hx; clear hx
          go_wp2_with fail
          go_ret
          simp only [pApp, O1.out, O2.out, O3.out, Option.bind_some, if_pos Hx.out]
          exact ⟨by simp only [enc, E1.out, E2.out]; rfl, (h1.then h2).then h3⟩
        · have hq : ((x3.toNat : Int) != 41) = true := by rw [bne_iff_ne]; omega
          have Hx := Lib.hid hx; clear hx
          go_wp2_with fail
          have e : pApp (parse k) s = none := by simp only [pApp, O1.out, O2.out, O3.out, Option.bind_some, if_neg Hx.out]
          rw [e]
          exact ⟨rfl, rfl, r3, (h1.then h2).then h3⟩
      · have e : (pApp (parse k) s) = none := by simp only [pApp, O1.out, O2.out, o3, Option.bind_some, Option.bind_none]
        rw [e]
        exact ⟨rfl, rfl, r3, ((((h1).then h2)).then h3)⟩
    · have e : (pApp (parse k) s) = none := by simp only [pApp, O1.out, o2, Option.bind_some, Option.bind_none]
      rw [e]
      exact ⟨rfl, rfl, r2, ((h1).then h2)⟩
  · have e : (pApp (parse k) s) = none := by simp only [pApp, o1, Option.bind_none]
    rw [e]
    exact ⟨rfl, rfl, r1, h1⟩

theorem dig_bd {c : UInt8} (h : isDig c = true) : 48 ≤ (c.toNat : Int) ∧ (c.toNat : Int) ≤ 57 := by
  simp only [isDig, Bool.and_eq_true, decide_eq_true_eq] at h; omega
theorem ret_num {a : Int} {n : Nat} (h : a = (n : Int)) : Ending.returned (.iface 137 (.agg #[.int .i64 a])) = .returned (enc (.num n)) := by rw [h]; rfl

set_option maxHeartbeats 1000000 in
theorem long_c (k : Nat) (ih : TermC k) (b : Nat) (s : Text) (w : World) (h : Rd0 b s w) (hk : s.length < k) (hl : s.length < 4000) :
    Calls Tryz.prog 75 #[.pointer (some ⟨b, 0, none⟩)] w (TermPost b w (pLong s)) := by
  go_enter Tryz.func75, Tryz.ntmps75
  have C1 := next_c b s w h (by omega)
  go_wp2_with fail
  refine byte_use C1 (fun x1 r1 w1 o1 h1 => ?_) (fun r1 w1 o1 h1 => ?_)
  · have l1 := next1_len o1
    clear C1
    have O1 := Lib.hid o1; clear o1
    have C2 := next_c b r1 w1 h1.here (by omega)
    go_wp2_with fail
    refine byte_use C2 (fun x2 r2 w2 o2 h2 => ?_) (fun r2 w2 o2 h2 => ?_)
    · have l2 := next1_len o2
      clear C2
      have O2 := Lib.hid o2; clear o2
      cases H1 : isDig x1 with
      | false =>
        replace H1 := Lib.hid H1
        go_wp2_with fail
        refine (isDigit_c x1 _).mono ?_
        rintro e w3 ⟨rfl, rfl⟩
        rw [H1.out]
        go_wp2_with fail
        have e : pLong s = none := by simp only [pLong, O1.out, O2.out, Option.bind_some]; rw [if_neg (by simp [H1.out])]
        rw [e]
        exact ⟨rfl, rfl, r2, h1.then h2⟩
      | true =>
        replace H1 := Lib.hid H1
        cases H2 : isDig x2 with
        | false =>
          replace H2 := Lib.hid H2
          go_wp2_with fail
          refine (isDigit_c x1 _).mono ?_
          rintro e w3 ⟨rfl, rfl⟩
          rw [H1.out]
          go_wp2_with fail
          refine (isDigit_c x2 _).mono ?_
          rintro e w3 ⟨rfl, rfl⟩
          rw [H2.out]
          go_wp2_with fail
          have e : pLong s = none := by simp only [pLong, O1.out, O2.out, Option.bind_some]; rw [if_neg (by simp [H2.out])]
          rw [e]
          exact ⟨rfl, rfl, r2, h1.then h2⟩
        | true =>
          replace H2 := Lib.hid H2
          have b1 := dig_bd H1.out
          have b2 := dig_bd H2.out
          obtain ⟨b1, b1x⟩ := b1
          obtain ⟨b2, b2x⟩ := b2
          by_cases hx : x1.toNat = 48
          · have hq : ((x1.toNat : Int) == 48) = true := by rw [hx]; rfl
            have Hx := Lib.hid hx; clear hx
            go_wp2_with fail
            refine (isDigit_c x1 _).mono ?_
            rintro e w3 ⟨rfl, rfl⟩
            rw [H1.out]
            go_wp2_with fail
            refine (isDigit_c x2 _).mono ?_
            rintro e w3 ⟨rfl, rfl⟩
            rw [H2.out]
            go_wp2_with fail
            have e : pLong s = none := by simp only [pLong, O1.out, O2.out, Option.bind_some]; rw [if_neg (by simp [Hx.out])]
            rw [e]
            exact ⟨rfl, rfl, r2, h1.then h2⟩
          · have hq : ((x1.toNat : Int) == 48) = false := by rw [beq_eq_false_iff_ne]; omega
            have Hx := Lib.hid hx; clear hx
            go_wp2_with fail
            refine (isDigit_c x1 _).mono ?_
            rintro e w3 ⟨rfl, rfl⟩
            rw [H1.out]
            go_wp2_with fail
            refine (isDigit_c x2 _).mono ?_
            rintro e w3 ⟨rfl, rfl⟩
            rw [H2.out]
            go_wp2_with fail
            go_ret
            have e : pLong s = some (Tm.num (10 * (x1.toNat - 48) + (x2.toNat - 48)), r2) := by simp only [pLong, O1.out, O2.out, Option.bind_some]; rw [if_pos ⟨H1.out, H2.out, Hx.out⟩]
            rw [e]
            refine ⟨ret_num ?_, h1.then h2⟩
            omega
    · have e : (pLong s) = none := by simp only [pLong, O1.out, o2, Option.bind_some, Option.bind_none]
      rw [e]
      exact ⟨rfl, rfl, r2, ((h1).then h2)⟩
  · have e : (pLong s) = none := by simp only [pLong, o1, Option.bind_none]
    rw [e]
    exact ⟨rfl, rfl, r1, h1⟩

end Go.Proofs.YtjfhncfbejephaaGreatDoor

/- The program's reader of a text, function by function: the reader of terms itself. -/
namespace Go.Proofs.YtjfhncfbejephaaGreatDoor
open Go.RowKit
open Ff

set_option maxRecDepth 100000 in
set_option maxHeartbeats 2000000 in
theorem term_step (k : Nat) (ih : TermC k) : TermC (k + 1) := by
  intro b s w h hk hl
  have C1 := next_c b s w h hl
  go_enter Tryz.func50, Tryz.ntmps50
  go_wp2_with fail
  refine byte_use C1 (fun x1 r1 w1 o1 h1 => ?_) (fun r1 w1 o1 h1 => ?_)
  · have l1 := next1_len o1
    have hr1 : r1.length < k := by omega
    have hr2 : r1.length < 4000 := by omega
    have E0 := Lib.hid (show parse (k + 1) s = pBehind (parse k) x1 r1 by simp only [parse, o1, Option.bind_some])
    clear C1 o1 l1 hk hl h
    by_cases h35 : x1.toNat = 35
    · have C2 := long_c k ih b r1 w1 h1.here hr1 hr2
      have E := Lib.hid (show pBehind (parse k) x1 r1 = pLong r1 by simp [pBehind, h35])
      have q35 : ((x1.toNat : Int) == 35) = true := by rw [h35]; rfl
      clear h35
      go_wp2_with fail
      refine term_use C2 (fun x2 r2 w2 n2 v2 o2 h2 E2 => ?_) (fun r2 w2 o2 h2 => ?_)
      · have O2 := Lib.hid o2
        clear o2 C2
        go_wp2_with fail
        go_ret
        rw [E0.out, E.out, O2.out]
        exact ⟨by rw [E2.out]; rfl, h1.then h2⟩
      · rw [E0.out, E.out, o2]
        exact ⟨rfl, rfl, r2, h1.then h2⟩
    by_cases h92 : x1.toNat = 92
    · have C2 := function_c k ih b r1 w1 h1.here hr1 hr2
      have E := Lib.hid (show pBehind (parse k) x1 r1 = pFn (parse k) r1 by simp [pBehind, h92])
      have q92 : ((x1.toNat : Int) == 92) = true := by rw [h92]; rfl
      have q35 : ((x1.toNat : Int) == 35) = false := by rw [beq_eq_false_iff_ne]; omega
      clear h35 h92
      go_wp2_with fail
      refine term_use C2 (fun x2 r2 w2 n2 v2 o2 h2 E2 => ?_) (fun r2 w2 o2 h2 => ?_)
      · have O2 := Lib.hid o2
        clear o2 C2
        go_wp2_with fail
        go_ret
        rw [E0.out, E.out, O2.out]
        exact ⟨by rw [E2.out]; rfl, h1.then h2⟩
      · rw [E0.out, E.out, o2]
        exact ⟨rfl, rfl, r2, h1.then h2⟩
    by_cases h64 : x1.toNat = 64
    · have C2 := fix_c k ih b r1 w1 h1.here hr1 hr2
      have E := Lib.hid (show pBehind (parse k) x1 r1 = pFix (parse k) r1 by simp [pBehind, h64])
      have q64 : ((x1.toNat : Int) == 64) = true := by rw [h64]; rfl
      have q35 : ((x1.toNat : Int) == 35) = false := by rw [beq_eq_false_iff_ne]; omega
      have q92 : ((x1.toNat : Int) == 92) = false := by rw [beq_eq_false_iff_ne]; omega
      clear h35 h92 h64
      go_wp2_with fail
      refine term_use C2 (fun x2 r2 w2 n2 v2 o2 h2 E2 => ?_) (fun r2 w2 o2 h2 => ?_)
      · have O2 := Lib.hid o2
        clear o2 C2
        go_wp2_with fail
        go_ret
        rw [E0.out, E.out, O2.out]
        exact ⟨by rw [E2.out]; rfl, h1.then h2⟩
      · rw [E0.out, E.out, o2]
        exact ⟨rfl, rfl, r2, h1.then h2⟩
    by_cases h40 : x1.toNat = 40
    · have C2 := app_c k ih b r1 w1 h1.here hr1 hr2
      have E := Lib.hid (show pBehind (parse k) x1 r1 = pApp (parse k) r1 by simp [pBehind, h40])
      have q40 : ((x1.toNat : Int) == 40) = true := by rw [h40]; rfl
      have q35 : ((x1.toNat : Int) == 35) = false := by rw [beq_eq_false_iff_ne]; omega
      have q92 : ((x1.toNat : Int) == 92) = false := by rw [beq_eq_false_iff_ne]; omega
      have q64 : ((x1.toNat : Int) == 64) = false := by rw [beq_eq_false_iff_ne]; omega
      clear h35 h92 h64 h40
      go_wp2_with fail
      refine term_use C2 (fun x2 r2 w2 n2 v2 o2 h2 E2 => ?_) (fun r2 w2 o2 h2 => ?_)
      · have O2 := Lib.hid o2
        clear o2 C2
        go_wp2_with fail
        go_ret
        rw [E0.out, E.out, O2.out]
        exact ⟨by rw [E2.out]; rfl, h1.then h2⟩
      · rw [E0.out, E.out, o2]
        exact ⟨rfl, rfl, r2, h1.then h2⟩
    by_cases h61 : x1.toNat = 61
    · have C2 := let_c k ih b r1 w1 h1.here hr1 hr2
      have E := Lib.hid (show pBehind (parse k) x1 r1 = pBind (parse k) r1 by simp [pBehind, h61])
      have q61 : ((x1.toNat : Int) == 61) = true := by rw [h61]; rfl
      have q35 : ((x1.toNat : Int) == 35) = false := by rw [beq_eq_false_iff_ne]; omega
      have q92 : ((x1.toNat : Int) == 92) = false := by rw [beq_eq_false_iff_ne]; omega
      have q64 : ((x1.toNat : Int) == 64) = false := by rw [beq_eq_false_iff_ne]; omega
      have q40 : ((x1.toNat : Int) == 40) = false := by rw [beq_eq_false_iff_ne]; omega
      clear h35 h92 h64 h40 h61
      go_wp2_with fail
      refine term_use C2 (fun x2 r2 w2 n2 v2 o2 h2 E2 => ?_) (fun r2 w2 o2 h2 => ?_)
      · have O2 := Lib.hid o2
        clear o2 C2
        go_wp2_with fail
        go_ret
        rw [E0.out, E.out, O2.out]
        exact ⟨by rw [E2.out]; rfl, h1.then h2⟩
      · rw [E0.out, E.out, o2]
        exact ⟨rfl, rfl, r2, h1.then h2⟩
    by_cases h43 : x1.toNat = 43
    · have C2 := operation_c k ih x1 b r1 w1 h1.here hr1 hr2
      have E := Lib.hid (show pBehind (parse k) x1 r1 = pOp (parse k) x1 r1 by simp [pBehind, h43])
      have q43 : ((x1.toNat : Int) == 43) = true := by rw [h43]; rfl
      have q35 : ((x1.toNat : Int) == 35) = false := by rw [beq_eq_false_iff_ne]; omega
      have q92 : ((x1.toNat : Int) == 92) = false := by rw [beq_eq_false_iff_ne]; omega
      have q64 : ((x1.toNat : Int) == 64) = false := by rw [beq_eq_false_iff_ne]; omega
      have q40 : ((x1.toNat : Int) == 40) = false := by rw [beq_eq_false_iff_ne]; omega
      have q61 : ((x1.toNat : Int) == 61) = false := by rw [beq_eq_false_iff_ne]; omega
      clear h35 h92 h64 h40 h61 h43
      go_wp2_with fail
      refine term_use C2 (fun x2 r2 w2 n2 v2 o2 h2 E2 => ?_) (fun r2 w2 o2 h2 => ?_)
      · have O2 := Lib.hid o2
        clear o2 C2
        go_wp2_with fail
        go_ret
        rw [E0.out, E.out, O2.out]
        exact ⟨by rw [E2.out]; rfl, h1.then h2⟩
      · rw [E0.out, E.out, o2]
        exact ⟨rfl, rfl, r2, h1.then h2⟩
    by_cases h45 : x1.toNat = 45
    · have C2 := operation_c k ih x1 b r1 w1 h1.here hr1 hr2
      have E := Lib.hid (show pBehind (parse k) x1 r1 = pOp (parse k) x1 r1 by simp [pBehind, h45])
      have q45 : ((x1.toNat : Int) == 45) = true := by rw [h45]; rfl
      have q35 : ((x1.toNat : Int) == 35) = false := by rw [beq_eq_false_iff_ne]; omega
      have q92 : ((x1.toNat : Int) == 92) = false := by rw [beq_eq_false_iff_ne]; omega
      have q64 : ((x1.toNat : Int) == 64) = false := by rw [beq_eq_false_iff_ne]; omega
      have q40 : ((x1.toNat : Int) == 40) = false := by rw [beq_eq_false_iff_ne]; omega
      have q61 : ((x1.toNat : Int) == 61) = false := by rw [beq_eq_false_iff_ne]; omega
      have q43 : ((x1.toNat : Int) == 43) = false := by rw [beq_eq_false_iff_ne]; omega
      clear h35 h92 h64 h40 h61 h43 h45
      go_wp2_with fail
      refine term_use C2 (fun x2 r2 w2 n2 v2 o2 h2 E2 => ?_) (fun r2 w2 o2 h2 => ?_)
      · have O2 := Lib.hid o2
        clear o2 C2
        go_wp2_with fail
        go_ret
        rw [E0.out, E.out, O2.out]
        exact ⟨by rw [E2.out]; rfl, h1.then h2⟩
      · rw [E0.out, E.out, o2]
        exact ⟨rfl, rfl, r2, h1.then h2⟩
    by_cases h42 : x1.toNat = 42
    · have C2 := operation_c k ih x1 b r1 w1 h1.here hr1 hr2
      have E := Lib.hid (show pBehind (parse k) x1 r1 = pOp (parse k) x1 r1 by simp [pBehind, h42])
      have q42 : ((x1.toNat : Int) == 42) = true := by rw [h42]; rfl
      have q35 : ((x1.toNat : Int) == 35) = false := by rw [beq_eq_false_iff_ne]; omega
      have q92 : ((x1.toNat : Int) == 92) = false := by rw [beq_eq_false_iff_ne]; omega
      have q64 : ((x1.toNat : Int) == 64) = false := by rw [beq_eq_false_iff_ne]; omega
      have q40 : ((x1.toNat : Int) == 40) = false := by rw [beq_eq_false_iff_ne]; omega
      have q61 : ((x1.toNat : Int) == 61) = false := by rw [beq_eq_false_iff_ne]; omega
      have q43 : ((x1.toNat : Int) == 43) = false := by rw [beq_eq_false_iff_ne]; omega
      have q45 : ((x1.toNat : Int) == 45) = false := by rw [beq_eq_false_iff_ne]; omega
      clear h35 h92 h64 h40 h61 h43 h45 h42
      go_wp2_with fail
      refine term_use C2 (fun x2 r2 w2 n2 v2 o2 h2 E2 => ?_) (fun r2 w2 o2 h2 => ?_)
      · have O2 := Lib.hid o2
        clear o2 C2
        go_wp2_with fail
        go_ret
        rw [E0.out, E.out, O2.out]
        exact ⟨by rw [E2.out]; rfl, h1.then h2⟩
      · rw [E0.out, E.out, o2]
        exact ⟨rfl, rfl, r2, h1.then h2⟩
    by_cases h63 : x1.toNat = 63
    · have C2 := choice_c k ih b r1 w1 h1.here hr1 hr2
      have E := Lib.hid (show pBehind (parse k) x1 r1 = pSel (parse k) r1 by simp [pBehind, h63])
      have q63 : ((x1.toNat : Int) == 63) = true := by rw [h63]; rfl
      have q35 : ((x1.toNat : Int) == 35) = false := by rw [beq_eq_false_iff_ne]; omega
      have q92 : ((x1.toNat : Int) == 92) = false := by rw [beq_eq_false_iff_ne]; omega
      have q64 : ((x1.toNat : Int) == 64) = false := by rw [beq_eq_false_iff_ne]; omega
      have q40 : ((x1.toNat : Int) == 40) = false := by rw [beq_eq_false_iff_ne]; omega
      have q61 : ((x1.toNat : Int) == 61) = false := by rw [beq_eq_false_iff_ne]; omega
      have q43 : ((x1.toNat : Int) == 43) = false := by rw [beq_eq_false_iff_ne]; omega
      have q45 : ((x1.toNat : Int) == 45) = false := by rw [beq_eq_false_iff_ne]; omega
      have q42 : ((x1.toNat : Int) == 42) = false := by rw [beq_eq_false_iff_ne]; omega
      clear h35 h92 h64 h40 h61 h43 h45 h42 h63
      go_wp2_with fail
      refine term_use C2 (fun x2 r2 w2 n2 v2 o2 h2 E2 => ?_) (fun r2 w2 o2 h2 => ?_)
      · have O2 := Lib.hid o2
        clear o2 C2
        go_wp2_with fail
        go_ret
        rw [E0.out, E.out, O2.out]
        exact ⟨by rw [E2.out]; rfl, h1.then h2⟩
      · rw [E0.out, E.out, o2]
        exact ⟨rfl, rfl, r2, h1.then h2⟩
    have E := Lib.hid (show pBehind (parse k) x1 r1 = if isDig x1 = true then some (Tm.num (x1.toNat - 48), r1) else if isNam x1 = true then some (Tm.var x1, r1) else none by simp [pBehind, h35, h92, h64, h40, h61, h43, h45, h42, h63])
    have q35 : ((x1.toNat : Int) == 35) = false := by rw [beq_eq_false_iff_ne]; omega
    have q92 : ((x1.toNat : Int) == 92) = false := by rw [beq_eq_false_iff_ne]; omega
    have q64 : ((x1.toNat : Int) == 64) = false := by rw [beq_eq_false_iff_ne]; omega
    have q40 : ((x1.toNat : Int) == 40) = false := by rw [beq_eq_false_iff_ne]; omega
    have q61 : ((x1.toNat : Int) == 61) = false := by rw [beq_eq_false_iff_ne]; omega
    have q43 : ((x1.toNat : Int) == 43) = false := by rw [beq_eq_false_iff_ne]; omega
    have q45 : ((x1.toNat : Int) == 45) = false := by rw [beq_eq_false_iff_ne]; omega
    have q42 : ((x1.toNat : Int) == 42) = false := by rw [beq_eq_false_iff_ne]; omega
    have q63 : ((x1.toNat : Int) == 63) = false := by rw [beq_eq_false_iff_ne]; omega
    clear h35 h92 h64 h40 h61 h43 h45 h42 h63
    cases H1 : isDig x1 with
    | true =>
      obtain ⟨b1, b1x⟩ := dig_bd H1
      replace H1 := Lib.hid H1
      go_wp2_with fail
      refine (isDigit_c x1 _).mono ?_
      rintro e w3 ⟨rfl, rfl⟩
      rw [H1.out]
      go_wp2_with fail
      go_ret
      rw [E0.out, E.out, if_pos H1.out]
      exact ⟨ret_num (by omega), h1⟩
    | false =>
      replace H1 := Lib.hid H1
      go_wp2_with fail
      refine (isDigit_c x1 _).mono ?_
      rintro e w3 ⟨rfl, rfl⟩
      rw [H1.out]
      cases H2 : isNam x1 with
      | true =>
        replace H2 := Lib.hid H2
        go_wp2_with fail
        refine (isName_c x1 _).mono ?_
        rintro e w3 ⟨rfl, rfl⟩
        rw [H2.out]
        go_wp2_with fail
        go_ret
        rw [E0.out, E.out, if_neg (by simp [H1.out]), if_pos H2.out]
        exact ⟨rfl, h1⟩
      | false =>
        replace H2 := Lib.hid H2
        go_wp2_with fail
        refine (isName_c x1 _).mono ?_
        rintro e w3 ⟨rfl, rfl⟩
        rw [H2.out]
        have hq : ∀ W : World, (binOp BinOp.neq 86 .nilFunc .nilFunc).run Tryz.prog W = .ok (.bool false) W := fun W => by first | rfl | simp [go_sem]
        have ho1 := h1.oth
        go_wp2_with fail
        rw [E0.out, E.out, if_neg (by simp [H1.out]), if_neg (by simp [H2.out])]
        exact ⟨rfl, rfl, r1, h1⟩
  · have e : parse (k + 1) s = none := by simp only [parse, o1, Option.bind_none]
    rw [e]
    exact ⟨rfl, rfl, r1, h1⟩
theorem term_c : ∀ k, TermC k
  | 0 => fun _ _ _ _ h => absurd h (Nat.not_lt_zero _)
  | k + 1 => term_step k (term_c k)
end Go.Proofs.YtjfhncfbejephaaGreatDoor
