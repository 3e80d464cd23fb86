import Derived.Test.YtkelncocppiepaaGreatDoorMYi
import Derived.Test.YtkelncocppiepaaGreatDoorMCt
import Derived.Deep.RegionHeld3
import Derived.Test.YtkelncocppiepaaGreatDoorMCl
import Derived.Test.YtkelncocppiepaaGreatDoorMTm
/- The text of a term. No program in sight. -/
namespace Go.Proofs.YtkelncocppiepaaGreatDoor
open Ff
set_option linter.unusedVariables false

/-- The text of a number up to 99. -/
def decN (n : Nat) : Text := if n < 10 then [UInt8.ofNat (48 + n)] else [UInt8.ofNat (48 + n / 10), UInt8.ofNat (48 + n % 10)]
def numN (n : Nat) : Text := if n < 10 then decN n else 35 :: decN n
/-- The text of a term. -/
def textN : Tm → Text
  | .num n => numN n
  | .var c => [c]
  | .fn c b => 92 :: c :: textN b
  | .fix f c b => 64 :: f :: c :: textN b
  | .app f a => 40 :: (textN f ++ textN a ++ [41])
  | .bind c v b => 61 :: c :: (textN v ++ textN b)
  | .op s l r => s :: (textN l ++ textN r)
  | .sel a b c => 63 :: (textN a ++ textN b ++ textN c)
theorem text_len (t : Tm) : (textN t).length ≤ 3 * (parts t).length := by
  induction t with
  | num n => simp only [textN, numN, decN, parts, List.length_cons, List.length_nil]; split <;> (try split) <;> simp
  | var c => simp [textN, parts]
  | fn c b ih => simp only [textN, parts, List.length_cons]; omega
  | fix f c b ih => simp only [textN, parts, List.length_cons]; omega
  | app f a h1 h2 => simp only [textN, parts, List.length_cons, List.length_append, List.length_nil]; omega
  | bind c f a h1 h2 => simp only [textN, parts, List.length_cons, List.length_append]; omega
  | op s f a h1 h2 => simp only [textN, parts, List.length_cons, List.length_append]; omega
  | sel a b c h1 h2 h3 => simp only [textN, parts, List.length_cons, List.length_append]; omega
end Go.Proofs.YtkelncocppiepaaGreatDoor

/- The program's text of a term: numbers, names, functions. -/
namespace Go.Proofs.YtkelncocppiepaaGreatDoor
open Go.RowKit
open Ff
set_option linter.unusedVariables false

/-- The method's name, as the types' table has it. -/
def TextName (m : String) : Prop := (((Tryz.prog.info? 145).bind fun i => (i.methods[1]?).map (·.name)).getD "") = m
/-- A method called through an interface, in a region whose order is drawn. -/
theorem wp_invoke_if {P : Program} {ops : Array Oper} {o : Oper} {a a2 : Act} {K : Act → World → Prop} {Q : Exit → Act → World → Prop} {X : Prop} {w : World} (hgd : Region.wanted o (yielded ops a2.tmps) = true) (r : Operand) (m : String) (t : TypeId) (v : Value)
    (ho : o.op = .call { callee := .invoke r m, args := #[], argTypes := #[] }) (hr : a.eval r = .iface t v) (f : FuncId) (hm : (method (P.types.size + 100) t v m).run P w = .ok (f, v) w)
    (hf : (callFunc f #[v]).run P w = .ok (.enter f #[v]) w) (S : Value → World → Prop) (hC : Calls P f #[v] w fun e w' => ∃ x, e = .returned x ∧ S x w')
    (h : ∀ x w', S x w' → K (a.put o.dst x) w') : if Region.wanted o (yielded ops a2.tmps) = true then Oper.wp P o a w K Q else X := by
  rw [if_pos hgd]
  unfold Oper.wp execOp
  simp only [ho, resolve, invoke, callMethod, Sem.run_bind, Sem.run_pure, Result.andThen_ok, List.map_toArray, List.map_nil, hr]
  simp [hm, hf, Sem.run_bind, go_sem]
  refine hC.mono ?_
  rintro e w' ⟨x, rfl, hS⟩
  exact h x w' hS
theorem conv_c {c : UInt8} (h : c ∈ letters ∨ c = 43 ∨ c = 45 ∨ c = 42) (w : World) : (convert 5 9 (.int .u8 (c.toNat : Int))).run Tryz.prog w = .ok (.string ⟨#[c]⟩) w := by
  simp only [letters, List.mem_cons, List.not_mem_nil, or_false] at h
  rcases h with (h | h | h | h | h | h | h | h | h | h | h | h | h | h | h | h) | h | h | h <;> subst h <;> kernel_rfl
/-- The digits of the numbers up to 99. -/
theorem small_lo : ∀ i : Fin 10, (⟨#[48, 49, 50, 51, 52, 53, 54, 55, 56, 57, 97, 98, 99, 100, 101, 102, 103, 104, 105, 106, 107, 108, 109, 110, 111, 112, 113, 114, 115, 116, 117, 118, 119, 120, 121, 122]⟩ : ByteArray).extract i.1 (i.1 + 1) = ⟨(decN i.1).toArray⟩ := by decide
set_option maxRecDepth 100000 in
theorem small_hi : ∀ i : Fin 100, 10 ≤ i.1 → (⟨#[48, 48, 48, 49, 48, 50, 48, 51, 48, 52, 48, 53, 48, 54, 48, 55, 48, 56, 48, 57, 49, 48, 49, 49, 49, 50, 49, 51, 49, 52, 49, 53, 49, 54, 49, 55, 49, 56, 49, 57, 50, 48, 50, 49, 50, 50, 50, 51, 50, 52, 50, 53, 50, 54, 50, 55, 50, 56, 50, 57, 51, 48, 51, 49, 51, 50, 51, 51, 51, 52, 51, 53, 51, 54, 51, 55, 51, 56, 51, 57, 52, 48, 52, 49, 52, 50, 52, 51, 52, 52, 52, 53, 52, 54, 52, 55, 52, 56, 52, 57, 53, 48, 53, 49, 53, 50, 53, 51, 53, 52, 53, 53, 53, 54, 53, 55, 53, 56, 53, 57, 54, 48, 54, 49, 54, 50, 54, 51, 54, 52, 54, 53, 54, 54, 54, 55, 54, 56, 54, 57, 55, 48, 55, 49, 55, 50, 55, 51, 55, 52, 55, 53, 55, 54, 55, 55, 55, 56, 55, 57, 56, 48, 56, 49, 56, 50, 56, 51, 56, 52, 56, 53, 56, 54, 56, 55, 56, 56, 56, 57, 57, 48, 57, 49, 57, 50, 57, 51, 57, 52, 57, 53, 57, 54, 57, 55, 57, 56, 57, 57]⟩ : ByteArray).extract (i.1 * 2) (i.1 * 2 + 2) = ⟨(decN i.1).toArray⟩ := by decide +kernel
theorem dec_len (n : Nat) : (decN n).length ≤ 2 := by unfold decN; split <;> simp
end Go.Proofs.YtkelncocppiepaaGreatDoor

/- The program's text of a term: what has kids. -/
namespace Go.Proofs.YtkelncocppiepaaGreatDoor
open Go.RowKit
open Ff
set_option linter.unusedVariables false
attribute [local irreducible] Calls

theorem keep2 {B : Nat} {w W : World} {f : Nat} {args : Array Value} {x : Value} {c0 c1 : Value} (h : Calls Tryz.prog f args W fun e w' => e = .returned x ∧ Below W.heap.size W w') (hb : Below B w W) (hs : B < W.heap.size) (h0 : W.cell? ⟨B, 0, none⟩ = some c0) (h1 : W.cell? ⟨B, 1, none⟩ = some c1) :
    Calls Tryz.prog f args W fun e w' => ∃ y, e = .returned y ∧ y = x ∧ Below B w w' ∧ B < w'.heap.size ∧ w'.cell? ⟨B, 0, none⟩ = some c0 ∧ w'.cell? ⟨B, 1, none⟩ = some c1 :=
  h.mono (by
    rintro e w' ⟨rfl, hb2⟩
    exact ⟨_, rfl, rfl, hb.trans (hb2.mono (by omega)), Nat.lt_of_lt_of_le hs hb2.size, (hb2.cell (p := ⟨B, 0, none⟩) hs).trans h0, (hb2.cell (p := ⟨B, 1, none⟩) hs).trans h1⟩)
theorem keep3 {B : Nat} {w W : World} {f : Nat} {args : Array Value} {x : Value} {c0 c1 c2 : Value} (h : Calls Tryz.prog f args W fun e w' => e = .returned x ∧ Below W.heap.size W w') (hb : Below B w W) (hs : B < W.heap.size) (h0 : W.cell? ⟨B, 0, none⟩ = some c0) (h1 : W.cell? ⟨B, 1, none⟩ = some c1) (h2 : W.cell? ⟨B, 2, none⟩ = some c2) :
    Calls Tryz.prog f args W fun e w' => ∃ y, e = .returned y ∧ y = x ∧ Below B w w' ∧ B < w'.heap.size ∧ w'.cell? ⟨B, 0, none⟩ = some c0 ∧ w'.cell? ⟨B, 1, none⟩ = some c1 ∧ w'.cell? ⟨B, 2, none⟩ = some c2 :=
  h.mono (by
    rintro e w' ⟨rfl, hb2⟩
    exact ⟨_, rfl, rfl, hb.trans (hb2.mono (by omega)), Nat.lt_of_lt_of_le hs hb2.size, (hb2.cell (p := ⟨B, 0, none⟩) hs).trans h0, (hb2.cell (p := ⟨B, 1, none⟩) hs).trans h1, (hb2.cell (p := ⟨B, 2, none⟩) hs).trans h2⟩)
end Go.Proofs.YtkelncocppiepaaGreatDoor

/- The text of a term: the program's and the specification's. -/
namespace Go.Proofs.YtkelncocppiepaaGreatDoor
open Go.RowKit
open Ff
set_option linter.unusedVariables false

/-- A string of one byte that was reckoned. -/
theorem strZ {z : Int} {d : UInt8} (hz : z = (d.toNat : Int)) (W : World) : (convert 22 9 (.slice (some ⟨W.heap.size, 0, none⟩) 1 1)).run Tryz.prog (W.alloc (.cells #[.int .u8 z] 5)) = .ok (.string ⟨#[d]⟩) (W.alloc (.cells #[.int .u8 z] 5)) := by
  subst hz
  exact str1 _ d _ (cell_new_at _ _ _ _ rfl)
theorem byte_of {n : Nat} (h : n < 208) : ((48 : Int) + n) = ((UInt8.ofNat (48 + n)).toNat : Int) := by
  rw [UInt8.toNat_ofNat']
  omega
set_option maxRecDepth 100000 in
set_option maxHeartbeats 1000000 in
theorem dec_c (n : Nat) (hn : n < 100) (w : World) :
    Calls Tryz.prog 37 #[.int .i64 (n : Int)] w fun e w' => e = .returned (.string ⟨(decN n).toArray⟩) ∧ Below w.heap.size w w' := by
  have a1 : ¬ ((n : Int) < -9223372036854775807) := by omega
  have a2 : ¬ ((n : Int) < 0) := by omega
  by_cases h : n < 10
  · have h2 : ¬ (9 < (n : Int)) := by omega
    have e : decN n = [UInt8.ofNat (48 + n)] := by simp [decN, h]
    have k1 := strZ (byte_of (n := n) (by omega)) w
    rw [e]
    clear e
    go_enter Tryz.func37, Tryz.ntmps37
    go_wp2_with fail
    refine wp_loop_rounds 1 ?_
    rw [rounds_succ]
    go_wp2_with fail
    go_ret
    exact ⟨congrArg (fun s => Ending.returned (Value.string s)) (by apply ba_ext; simp [ByteArray.data_append]), (Below.refl _ w).alloc (Nat.le_refl _) _⟩
  · have h2 : (9 < (n : Int)) := by omega
    have e : decN n = [UInt8.ofNat (48 + n / 10), UInt8.ofNat (48 + n % 10)] := by simp [decN, h]
    have k1 := strZ (z := 48 + (n : Int) % 10) (d := UInt8.ofNat (48 + n % 10)) (by rw [← byte_of (n := n % 10) (by omega)]; omega) w
    have k2 := strZ (z := 48 + (n : Int) / 10) (d := UInt8.ofNat (48 + n / 10)) (by rw [← byte_of (n := n / 10) (by omega)]; omega) (w.alloc (.cells #[.int .u8 (48 + (n : Int) % 10)] 5))
    rw [World.size_alloc] at k2
    have h3 : (n : Int) / 10 ≤ 9 := by omega
    rw [e]
    clear e
    go_enter Tryz.func37, Tryz.ntmps37
    go_wp2_with fail
    refine wp_loop_rounds 2 ?_
    rw [rounds_succ]
    go_wp2_with fail
    rw [rounds_succ]
    go_wp2_with fail
    go_ret
    exact ⟨congrArg (fun s => Ending.returned (Value.string s)) (by apply ba_ext; simp [ByteArray.data_append]), ((Below.refl _ w).alloc (Nat.le_refl _) _).alloc (by simp) _⟩
theorem sdec_c (n : Nat) (hn : n ≤ 99) (w : World) :
    Calls Tryz.prog 36 #[.int .i64 (n : Int)] w fun e w' => e = .returned (.string ⟨(numN n).toArray⟩) ∧ Below w.heap.size w w' := by
  have hl := dec_len n
  have C := dec_c n (by omega) w
  by_cases h : n < 10
  · have h2 : ¬ (9 < (n : Int)) := by omega
    have e : numN n = decN n := by simp [numN, h]
    rw [e]
    clear e
    go_enter Tryz.func36, Tryz.ntmps36
    go_wp2_with (go_at_call 37; refine C.mono ?_; rintro e w2 ⟨rfl, hb⟩)
    go_ret
    exact ⟨rfl, hb⟩
  · have h2 : (9 < (n : Int)) := by omega
    have e : numN n = 35 :: decN n := by simp [numN, h]
    rw [e]
    clear e
    go_enter Tryz.func36, Tryz.ntmps36
    go_wp2_with (go_at_call 37; refine C.mono ?_; rintro e w2 ⟨rfl, hb⟩)
    go_ret
    exact ⟨congrArg (fun s => Ending.returned (Value.string s)) (str_app2 [35] (decN n)), hb⟩
end Go.Proofs.YtkelncocppiepaaGreatDoor

/- The specification's l1Text. -/
namespace Go.Proofs.YtkelncocppiepaaGreatDoor
open Go.RowKit
open Ff
set_option linter.unusedVariables false

def textTo (l : List Tm) (k : Nat) : Text := (l.take k).flatMap textN
theorem textTo_succ (l : List Tm) (k : Nat) (s : Tm) (h : l[k]? = some s) : textTo l (k + 1) = textTo l k ++ textN s := by
  unfold textTo
  rw [List.take_add_one, h]
  simp
theorem textTo_len (t : Tm) : ∀ k, (textTo t.kids k).length + 3 ≤ 3 * (before t k).length
  | 0 => by simp [textTo, before]
  | k + 1 => by
    have ih := textTo_len t k
    rcases h : t.kids[k]? with _ | s
    · have e1 : textTo t.kids (k + 1) = textTo t.kids k := by unfold textTo; rw [List.take_add_one, h]; simp
      have e2 : before t (k + 1) = before t k := by unfold before; rw [List.take_add_one, h]; simp
      rw [e1, e2]; exact ih
    · rw [textTo_succ _ k s h, before_succ t k s h, List.length_append, List.length_append]
      have := text_len s
      omega
/-- The sign at a term's head. -/
def headN (t : Tm) : UInt8 := UInt8.ofNat (kindOf t)
def tailN (t : Tm) : Text := if kindOf t = 40 then [41] else []
theorem kind_cases {t : Tm} (h : t.good) (h1 : kindOf t ≠ 110) (h2 : kindOf t ≠ 118) : kindOf t = 92 ∨ kindOf t = 64 ∨ kindOf t = 40 ∨ kindOf t = 61 ∨ kindOf t = 63 ∨ kindOf t = 43 ∨ kindOf t = 45 ∨ kindOf t = 42 := by
  cases t with
  | num n => simp [kindOf] at h1
  | var c => simp [kindOf] at h2
  | op s l r => rcases h.1 with h | h | h <;> subst h <;> simp [kindOf]
  | _ => simp [kindOf]
theorem text_shape {t : Tm} (h : t.good) (h1 : kindOf t ≠ 110) (h2 : kindOf t ≠ 118) : textN t = headN t :: (namesOf t ++ textTo t.kids t.kids.length) ++ tailN t := by
  cases t with
  | num n => simp [kindOf] at h1
  | var c => simp [kindOf] at h2
  | op s l r =>
    have hs : UInt8.ofNat s.toNat = s := by simp
    have ht : s.toNat ≠ 40 := by rcases h.1 with h | h | h <;> subst h <;> decide
    simp [textN, headN, tailN, kindOf, namesOf, textTo, Tm.kids, ht]
  | fn c b => simp [textN, headN, tailN, kindOf, namesOf, textTo, Tm.kids]
  | fix f c b => simp [textN, headN, tailN, kindOf, namesOf, textTo, Tm.kids]
  | app f a => simp [textN, headN, tailN, kindOf, namesOf, textTo, Tm.kids]
  | bind c f a => simp [textN, headN, tailN, kindOf, namesOf, textTo, Tm.kids]
  | sel a b c => simp [textN, headN, tailN, kindOf, namesOf, textTo, Tm.kids]
def STextC (n : Nat) : Prop := ∀ (t : Tm) (B : Nat) (v : Value) (w : World), t.depth ≤ n → n ≤ 4000 → (parts t).length ≤ 100000000 → Rep (fun g => g < B) w t v → B ≤ w.heap.size → t.good →
  Calls Tryz.prog 19 #[v] w fun e w' => e = .returned (.string ⟨(textN t).toArray⟩) ∧ Below w.heap.size w w'
set_option maxRecDepth 100000 in
set_option maxHeartbeats 2000000 in
theorem stext_var (d : UInt8) (B : Nat) (v : Value) (w : World) (hrep : Rep (fun g => g < B) w (.var d) v) :
    Calls Tryz.prog 19 #[v] w fun e w' => e = .returned (.string ⟨(textN (.var d)).toArray⟩) ∧ Below w.heap.size w w' := by
  cases hrep with
  | mk _ g cap cs hg hc hk =>
  clear hc hk
  unfold tmHead
  show Calls Tryz.prog 19 #[.agg #[.int .u8 118, .int .i64 0, .string ⟨([d] : Text).toArray⟩, .slice (some ⟨g, 0, none⟩) 0 cap]] w _
  go_enter Tryz.func19, Tryz.ntmps19
  go_wp2_with fail
  go_ret
  exact ⟨rfl, (Below.refl _ w).alloc (Nat.le_refl _) _⟩
set_option maxRecDepth 100000 in
set_option maxHeartbeats 2000000 in
theorem stext_num (n : Nat) (hn : n ≤ 99) (B : Nat) (v : Value) (w : World) (hrep : Rep (fun g => g < B) w (.num n) v) :
    Calls Tryz.prog 19 #[v] w fun e w' => e = .returned (.string ⟨(textN (.num n)).toArray⟩) ∧ Below w.heap.size w w' := by
  cases hrep with
  | mk _ g cap cs hg hc hk =>
  clear hc hk
  unfold tmHead
  have C := fun w' => sdec_c n hn w'
  show Calls Tryz.prog 19 #[.agg #[.int .u8 110, .int .i64 (n : Int), .string ⟨([] : Text).toArray⟩, .slice (some ⟨g, 0, none⟩) 0 cap]] w _
  go_enter Tryz.func19, Tryz.ntmps19
  go_wp2_with (go_at_call 36; refine (C _).mono ?_; clear C; rintro e w2 ⟨rfl, hb2⟩)
  go_ret
  exact ⟨rfl, ((Below.refl _ w).alloc (Nat.le_refl _) _).trans (hb2.mono (by simp))⟩
set_option maxRecDepth 100000 in
set_option maxHeartbeats 4000000 in
theorem stext_rest (n : Nat) (ih : STextC n) (t : Tm) (B : Nat) (v : Value) (w : World) (ht : t.depth ≤ n + 1) (hn : n + 1 ≤ 4000) (hp : (parts t).length ≤ 100000000) (hrep : Rep (fun g => g < B) w t v) (hB : B ≤ w.heap.size) (hgd : t.good) (h1 : kindOf t ≠ 110) (h2 : kindOf t ≠ 118) :
    Calls Tryz.prog 19 #[v] w fun e w' => e = .returned (.string ⟨(textN t).toArray⟩) ∧ Below w.heap.size w w' := by
  rw [text_shape hgd h1 h2]
  cases hrep with
  | mk _ g cap cs hg hc hk =>
  have hkl : t.kids.length ≤ 3 := by cases t <;> simp [Tm.kids]
  have HC := Lib.hid hc
  have HK := Lib.hid hk
  clear hc hk
  have hnl := names_len t
  have hkc := kind_cases hgd h1 h2
  have hhd : (kindOf t : Int) = ((headN t).toNat : Int) := by
    unfold headN
    rw [UInt8.toNat_ofNat']
    omega
  have htl : tailN t = if (kindOf t : Int) = 40 then [41] else [] := by
    unfold tailN
    by_cases e : kindOf t = 40
    · rw [if_pos e, if_pos (by omega)]
    · rw [if_neg e, if_neg (by omega)]
  rw [htl]
  have k1 := fun W => strZ hhd W
  unfold tmHead
  have hkd : (kindOf t : Int) ≠ 110 ∧ (kindOf t : Int) ≠ 118 ∧ (kindOf t : Int) ≠ 70 ∧ (kindOf t : Int) ≠ 46 ∧ (kindOf t : Int) ≠ 123 := by omega
  clear hkc hhd htl
  generalize (kindOf t : Int) = kd at k1 hkd ⊢
  obtain ⟨m1, m2, m3, m4, m5⟩ := hkd
  have b1 : (kd == 110) = false := by simp [m1]
  have b2 : (kd == 118) = false := by simp [m2]
  have b3 : (kd == 70) = false := by simp [m3]
  have b4 : (kd == 46) = false := by simp [m4]
  have b5 : (kd == 123) = false := by simp [m5]
  have k2 := k1 (w.alloc (.cells #[.int .u8 kd, .int .i64 (numOf t : Int), .string ⟨(namesOf t).toArray⟩, .slice (some ⟨g, 0, none⟩) t.kids.length cap] 42))
  rw [World.size_alloc] at k2
  clear k1
  have z1 : ¬ 9223372036854775807 < 1 + (namesOf t).length := by omega
  have hstart : (⟨#[headN t]⟩ ++ ⟨(namesOf t).toArray⟩ : ByteArray) = ⟨(headN t :: (namesOf t ++ textTo t.kids 0)).toArray⟩ := by
    apply ba_ext
    simp [ByteArray.data_append, textTo]
  go_enter Tryz.func19, Tryz.ntmps19
  go_wp2_with fail
  obtain ⟨W2, hW2⟩ : ∃ W2, (w.alloc (.cells #[.int .u8 kd, .int .i64 (numOf t : Int), .string ⟨(namesOf t).toArray⟩, .slice (some ⟨g, 0, none⟩) t.kids.length cap] 42)).alloc (.cells #[.int .u8 kd] 5) = W2 := ⟨_, rfl⟩
  have c0 : W2.cell? ⟨w.heap.size, 0, none⟩ = some (.int .u8 kd) := by
    rw [← hW2]
    have hb := (Below.refl (w.heap.size + 1) (w.alloc (.cells #[.int .u8 kd, .int .i64 (numOf t : Int), .string ⟨(namesOf t).toArray⟩, .slice (some ⟨g, 0, none⟩) t.kids.length cap] 42))).alloc (by simp) (.cells #[.int .u8 kd] 5)
    exact (hb.cell (p := ⟨w.heap.size, 0, none⟩) (by simp)).trans (cell_new w [.int .u8 kd, .int .i64 (numOf t : Int), .string ⟨(namesOf t).toArray⟩, .slice (some ⟨g, 0, none⟩) t.kids.length cap] 42 0)
  have qB : Below w.heap.size w W2 := by rw [← hW2]; exact ((Below.refl _ w).alloc (Nat.le_refl _) _).alloc (by simp) _
  have qs : w.heap.size + 2 = W2.heap.size := by rw [← hW2]; simp
  rw [hW2]
  clear hW2 k2
  go_loopw [3, 34] (fun o i wr => ∃ k : Nat, k ≤ t.kids.length ∧ i = .int .i64 k ∧ o = .string ⟨(headN t :: (namesOf t ++ textTo t.kids k)).toArray⟩ ∧ Below W2.heap.size W2 wr) (fun _ i _ => t.kids.length - (intOf i).toNat)
  case atStart => exact ⟨0, Nat.zero_le _, rfl, by rw [← hstart], Below.refl _ _⟩
  case round =>
    obtain ⟨k, hkl2, rfl, rfl, hBl⟩ := hrel
    have htl := textTo_len t k
    have hbf := before_le t k
    have hwB := qB.trans (hBl.mono qB.size)
    by_cases hlt : k < t.kids.length
    · obtain ⟨s, hs⟩ : ∃ s, t.kids[k]? = some s := ⟨_, List.getElem?_eq_getElem hlt⟩
      have hr := HK.out k s hs
      obtain ⟨x, y, st, aa, l, cc, he⟩ := hr.junk
      have hcells : ∀ j, j < 4 → wr.cell? ⟨g, 4 * k + j, none⟩ = some (cs (4 * k + j)) := fun j hj => (hwB.cell (p := ⟨g, 4 * k + j, none⟩) (by show g < w.heap.size; omega)).trans (HC.out (4 * k + j) (by omega))
      have hr2 : Rep (fun g => g < B) w s (.agg #[.int .u8 x, .int .i64 y, .string st, .slice aa l cc]) := by rw [← he]; exact hr
      unfold four at he
      simp only [Value.agg.injEq, Array.mk.injEq, List.cons.injEq, and_true] at he
      obtain ⟨i0, i1, i2, i3⟩ := he
      have e0 : wr.cell? ⟨g, k * 4, none⟩ = some (.int .u8 x) := by rw [← i0]; have := hcells 0 (by omega); rwa [Nat.mul_comm k 4]
      have e1 : wr.cell? ⟨g, k * 4 + 1, none⟩ = some (.int .i64 y) := by rw [← i1]; have := hcells 1 (by omega); rwa [Nat.mul_comm k 4]
      have e2 : wr.cell? ⟨g, k * 4 + 2, none⟩ = some (.string st) := by rw [← i2]; have := hcells 2 (by omega); rwa [Nat.mul_comm k 4]
      have e3 : wr.cell? ⟨g, k * 4 + 3, none⟩ = some (.slice aa l cc) := by rw [← i3]; have := hcells 3 (by omega); rwa [Nat.mul_comm k 4]
      have hmem := List.mem_of_getElem? hs
      have hps := parts_kid_le hmem
      have hsl := text_len s
      have hsucc := textTo_succ t.kids k s hs
      have HS := Lib.hid hsucc
      have hsz := hBl.size
      have hw2 : Below W2.heap.size W2 (wr.alloc (.cells #[.int .u8 x, .int .i64 y, .string st, .slice aa l cc] 42)) := hBl.alloc hsz _
      have C := ih s B (.agg #[.int .u8 x, .int .i64 y, .string st, .slice aa l cc]) (wr.alloc (.cells #[.int .u8 x, .int .i64 y, .string st, .slice aa l cc] 42)) (by have := kid_depth hmem; omega) (by omega) (by omega) (hr2.keep (fun g' hg' => (qB.trans (hw2.mono qB.size)).block g' (by omega)) (fun g' hg' => hg')) (by simp; omega) (Tm.kid_good hgd hmem)
      have hround : (⟨(headN t :: (namesOf t ++ textTo t.kids k)).toArray⟩ ++ ⟨(textN s).toArray⟩ : ByteArray) = ⟨(headN t :: (namesOf t ++ textTo t.kids (k + 1))).toArray⟩ := by
        rw [hsucc, str_app2]
        simp
      have HR := Lib.hid hround
      have z3 : ¬ 9223372036854775807 < (headN t :: (namesOf t ++ textTo t.kids k)).length + (textN s).length := by simp; omega
      generalize headN t :: (namesOf t ++ textTo t.kids k) = pref at z3 HR ⊢
      clear hcells i0 i1 i2 i3 hs hr hr2 HC HK hmem hsucc hround hstart
      go_wp2_with (go_at_call 19; refine C.mono ?_; clear C; rintro e w2 ⟨rfl, hb2⟩)
      refine ⟨⟨k + 1, by omega, by go_num, by rw [← HR.out], hw2.trans (hb2.mono (by simp; omega))⟩, by simp [intOf]; omega⟩
    · obtain rfl : k = t.kids.length := by omega
      have c1 := (hBl.cell (p := ⟨w.heap.size, 0, none⟩) (by simp; omega)).trans c0
      have z4 : ¬ 9223372036854775807 < (headN t :: (namesOf t ++ textTo t.kids t.kids.length)).length + 1 := by simp; omega
      clear hstart
      rcases Classical.em (kd = 40) with rfl | h40
      · go_wp2_with fail
        go_ret
        exact ⟨congrArg (fun s => Ending.returned (Value.string s)) (by apply ba_ext; simp [ByteArray.data_append]), hwB⟩
      · go_wp2_with fail
        go_ret
        exact ⟨congrArg (fun s => Ending.returned (Value.string s)) (by apply ba_ext; simp), hwB⟩
theorem stext_c : ∀ n, STextC n
  | 0 => fun t _ _ _ ht => absurd ht (by have := t.depth_pos; omega)
  | n + 1 => by
    intro t B v w ht hn hp hrep hB hgd
    cases t with
    | num m => exact stext_num m hgd B v w hrep
    | var d => exact stext_var d B v w hrep
    | op s l r => exact stext_rest n (stext_c n) _ B v w ht hn hp hrep hB hgd (by rcases hgd.1 with h | h | h <;> subst h <;> simp [kindOf]) (by rcases hgd.1 with h | h | h <;> subst h <;> simp [kindOf])
    | _ => exact stext_rest n (stext_c n) _ B v w ht hn hp hrep hB hgd (by simp [kindOf]) (by simp [kindOf])
end Go.Proofs.YtkelncocppiepaaGreatDoor

/- A text that reads as a term is the term's own text, and a term's text reads as it. No program in sight. -/
namespace Go.Proofs.YtkelncocppiepaaGreatDoor
open Ff
set_option linter.unusedVariables false
theorem name1_text {s r : Text} {c : UInt8} (h : name1 s = some (c, r)) : s = c :: r := by
  cases s with
  | nil => simp [name1] at h
  | cons a s => simp only [name1] at h; split at h <;> simp_all
theorem next1_text {s r : Text} {c : UInt8} (h : next1 s = some (c, r)) : s = c :: r := by
  cases s with
  | nil => simp [next1] at h
  | cons a s => simp only [next1, Option.some.injEq, Prod.mk.injEq] at h; simp [h.1, h.2]
theorem toN {c : UInt8} {n : Nat} (h : c.toNat = n) : c = UInt8.ofNat n := by subst h; simp
theorem parse_text : ∀ (k : Nat) (s r : Text) (t : Tm), parse k s = some (t, r) → s = textN t ++ r := by
  intro k
  induction k with
  | zero => intro s r t h; simp [parse] at h
  | succ k ih =>
    intro s r t h
    simp only [parse, Option.bind_eq_some_iff, Prod.exists] at h
    obtain ⟨c, s1, h1, h⟩ := h
    have e0 := next1_text h1
    unfold pBehind at h
    split at h
    · rename_i h35
      simp only [pLong, Option.bind_eq_some_iff, Prod.exists] at h
      obtain ⟨a, r1, ha, b, r2, hb, h⟩ := h
      split at h
      · rename_i hdig
        simp only [Option.some.injEq, Prod.mk.injEq] at h
        obtain ⟨rfl, rfl⟩ := h
        have e1 := next1_text ha; have e2 := next1_text hb
        obtain ⟨d1, d2, d3⟩ := hdig
        have g1 : 48 ≤ a.toNat ∧ a.toNat ≤ 57 := by simpa [isDig] using d1
        have g2 : 48 ≤ b.toNat ∧ b.toNat ≤ 57 := by simpa [isDig] using d2
        have f1 : a = UInt8.ofNat (48 + (10 * (a.toNat - 48) + (b.toNat - 48)) / 10) := toN (by omega)
        have f2 : b = UInt8.ofNat (48 + (10 * (a.toNat - 48) + (b.toNat - 48)) % 10) := toN (by omega)
        have f3 : ¬ (10 * (a.toNat - 48) + (b.toNat - 48) < 10) := by omega
        rw [e0, e1, e2, show c = 35 from toN h35]
        simp only [textN, numN, decN, if_neg f3]
        rw [← f1, ← f2]; rfl
      · simp at h
    rename_i h35
    split at h
    · rename_i h92
      simp only [pFn, Option.bind_eq_some_iff, Prod.exists, Option.some.injEq, Prod.mk.injEq] at h
      obtain ⟨a, r1, ha, b, r2, hb, rfl, rfl⟩ := h
      have e1 := name1_text ha; have e2 := ih _ _ _ hb
      rw [e0, e1, e2, show c = 92 from toN h92]; simp [textN]
    rename_i h92
    split at h
    · rename_i h64
      simp only [pFix, Option.bind_eq_some_iff, Prod.exists] at h
      obtain ⟨a, r1, ha, b, r2, hb, h⟩ := h
      split at h
      · simp at h
      · simp only [Option.bind_eq_some_iff, Prod.exists, Option.some.injEq, Prod.mk.injEq] at h
        obtain ⟨c2, r3, hc, rfl, rfl⟩ := h
        have e1 := name1_text ha; have e2 := name1_text hb; have e3 := ih _ _ _ hc
        rw [e0, e1, e2, e3, show c = 64 from toN h64]; simp [textN]
    rename_i h64
    split at h
    · rename_i h40
      simp only [pApp, Option.bind_eq_some_iff, Prod.exists] at h
      obtain ⟨a, r1, ha, b, r2, hb, z, r3, hz, h⟩ := h
      split at h
      · rename_i h41
        simp only [Option.some.injEq, Prod.mk.injEq] at h
        obtain ⟨rfl, rfl⟩ := h
        have e1 := ih _ _ _ ha; have e2 := ih _ _ _ hb; have e3 := next1_text hz
        rw [e0, e1, e2, e3, show c = 40 from toN h40, show z = 41 from toN h41]; simp [textN]
      · simp at h
    rename_i h40
    split at h
    · rename_i h61
      simp only [pBind, Option.bind_eq_some_iff, Prod.exists, Option.some.injEq, Prod.mk.injEq] at h
      obtain ⟨a, r1, ha, b, r2, hb, c2, r3, hc, rfl, rfl⟩ := h
      have e1 := name1_text ha; have e2 := ih _ _ _ hb; have e3 := ih _ _ _ hc
      rw [e0, e1, e2, e3, show c = 61 from toN h61]; simp [textN]
    rename_i h61
    split at h
    · rename_i ho
      simp only [pOp, Option.bind_eq_some_iff, Prod.exists, Option.some.injEq, Prod.mk.injEq] at h
      obtain ⟨a, r1, ha, b, r2, hb, rfl, rfl⟩ := h
      have e1 := ih _ _ _ ha; have e2 := ih _ _ _ hb
      rw [e0, e1, e2]; simp [textN]
    rename_i ho
    split at h
    · rename_i h63
      simp only [pSel, Option.bind_eq_some_iff, Prod.exists, Option.some.injEq, Prod.mk.injEq] at h
      obtain ⟨a, r1, ha, b, r2, hb, c2, r3, hc, rfl, rfl⟩ := h
      have e1 := ih _ _ _ ha; have e2 := ih _ _ _ hb; have e3 := ih _ _ _ hc
      rw [e0, e1, e2, e3, show c = 63 from toN h63]; simp [textN]
    rename_i h63
    split at h
    · rename_i hd
      simp only [Option.some.injEq, Prod.mk.injEq] at h
      obtain ⟨rfl, rfl⟩ := h
      have g1 : 48 ≤ c.toNat ∧ c.toNat ≤ 57 := by simpa [isDig] using hd
      have f1 : c = UInt8.ofNat (48 + (c.toNat - 48)) := toN (by omega)
      have f3 : c.toNat - 48 < 10 := by omega
      rw [e0]
      simp only [textN, numN, decN, if_pos f3]
      rw [← f1]; rfl
    rename_i hd
    split at h
    · rename_i hn
      simp only [Option.some.injEq, Prod.mk.injEq] at h
      obtain ⟨rfl, rfl⟩ := h
      rw [e0]; rfl
    · simp at h
theorem readS_text {s : Text} {T : Tm} (h : readS s = some T) : textN T = s := by
  have := parse_text _ _ _ _ (read24 h)
  simpa using this.symm
theorem name1_nam1 {c : UInt8} (h : isNam c = true) (s : Text) : name1 (c :: s) = some (c, s) := by simp [name1, h]
theorem dig_toN {d : Nat} (h : d < 10) : (UInt8.ofNat (48 + d)).toNat = 48 + d := by simp; omega
theorem dig_is {d : Nat} (h : d < 10) : isDig (UInt8.ofNat (48 + d)) = true := by unfold isDig; rw [dig_toN h]; simp; omega
theorem text_parse (t : Tm) : t.good → ∀ (k : Nat) (r : Text), t.depth ≤ k → parse k (textN t ++ r) = some (t, r) := by
  induction t with
  | num n =>
    intro hg k r hk
    obtain ⟨k, rfl⟩ : ∃ j, k = j + 1 := ⟨k - 1, by simp only [Tm.depth] at hk; omega⟩
    have hn : n ≤ 99 := hg
    by_cases h10 : n < 10
    · simp only [textN, numN, decN, if_pos h10, List.cons_append, List.nil_append]
      rw [parse_succ]
      have e := dig_toN h10
      unfold pBehind
      rw [if_neg (by omega), if_neg (by omega), if_neg (by omega), if_neg (by omega), if_neg (by omega), if_neg (by omega), if_neg (by omega), if_pos (dig_is h10), e]
      simp
    · simp only [textN, numN, decN, if_neg h10, List.cons_append, List.nil_append]
      rw [parse_succ]
      have e1 := dig_toN (show n / 10 < 10 by omega)
      have e2 := dig_toN (show n % 10 < 10 by omega)
      unfold pBehind
      rw [if_pos (by decide)]
      simp only [pLong, next1, Option.bind_some, e1, e2]
      rw [if_pos ⟨dig_is (by omega), dig_is (by omega), by omega⟩]
      congr 3
      omega
  | var c =>
    intro hg k r hk
    obtain ⟨k, rfl⟩ : ∃ j, k = j + 1 := ⟨k - 1, by simp only [Tm.depth] at hk; omega⟩
    exact (parse_succ _ _ _).trans (behind_nam _ _ _ hg)
  | fn c b ih =>
    intro hg k r hk
    simp only [Tm.depth] at hk
    obtain ⟨k, rfl⟩ : ∃ j, k = j + 1 := ⟨k - 1, by omega⟩
    simp only [textN, List.cons_append]
    rw [parse_succ]
    unfold pBehind
    rw [if_neg (by decide), if_pos (by decide)]
    simp only [pFn, name1_nam1 hg.1, Option.bind_some, ih hg.2 k r (by omega)]
  | fix f c b ih =>
    intro hg k r hk
    simp only [Tm.depth] at hk
    obtain ⟨k, rfl⟩ : ∃ j, k = j + 1 := ⟨k - 1, by omega⟩
    simp only [textN, List.cons_append]
    rw [parse_succ]
    unfold pBehind
    rw [if_neg (by decide), if_neg (by decide), if_pos (by decide)]
    simp only [pFix, name1_nam1 hg.1, name1_nam1 hg.2.1, Option.bind_some, if_neg hg.2.2.1, ih hg.2.2.2 k r (by omega)]
  | app f a h1 h2 =>
    intro hg k r hk
    simp only [Tm.depth] at hk
    obtain ⟨k, rfl⟩ : ∃ j, k = j + 1 := ⟨k - 1, by omega⟩
    simp only [textN, List.cons_append, List.append_assoc]
    rw [parse_succ]
    unfold pBehind
    rw [if_neg (by decide), if_neg (by decide), if_neg (by decide), if_pos (by decide)]
    simp only [pApp, h1 hg.1 k _ (show f.depth ≤ k by omega), Option.bind_some, h2 hg.2 k _ (show a.depth ≤ k by omega)]
    rfl
  | bind c v b h1 h2 =>
    intro hg k r hk
    simp only [Tm.depth] at hk
    obtain ⟨k, rfl⟩ : ∃ j, k = j + 1 := ⟨k - 1, by omega⟩
    simp only [textN, List.cons_append, List.append_assoc]
    rw [parse_succ]
    unfold pBehind
    rw [if_neg (by decide), if_neg (by decide), if_neg (by decide), if_neg (by decide), if_pos (by decide)]
    simp only [pBind, name1_nam1 hg.1, h1 hg.2.1 k _ (show v.depth ≤ k by omega), Option.bind_some, h2 hg.2.2 k _ (show b.depth ≤ k by omega)]
  | op s l r' h1 h2 =>
    intro hg k r hk
    simp only [Tm.depth] at hk
    obtain ⟨k, rfl⟩ : ∃ j, k = j + 1 := ⟨k - 1, by omega⟩
    simp only [textN, List.cons_append, List.append_assoc]
    rw [parse_succ]
    have hs : (s.toNat = 43 ∨ s.toNat = 45 ∨ s.toNat = 42) := by rcases hg.1 with h | h | h <;> subst h <;> decide
    unfold pBehind
    rw [if_neg (by omega), if_neg (by omega), if_neg (by omega), if_neg (by omega), if_neg (by omega), if_pos hs]
    simp only [pOp, h1 hg.2.1 k _ (show l.depth ≤ k by omega), Option.bind_some, h2 hg.2.2 k _ (show r'.depth ≤ k by omega)]
  | sel a b c h1 h2 h3 =>
    intro hg k r hk
    simp only [Tm.depth] at hk
    obtain ⟨k, rfl⟩ : ∃ j, k = j + 1 := ⟨k - 1, by omega⟩
    simp only [textN, List.cons_append, List.append_assoc]
    rw [parse_succ]
    unfold pBehind
    rw [if_neg (by decide), if_neg (by decide), if_neg (by decide), if_neg (by decide), if_neg (by decide), if_neg (by decide), if_pos (by decide)]
    simp only [pSel, h1 hg.1 k _ (show a.depth ≤ k by omega), Option.bind_some, h2 hg.2.1 k _ (show b.depth ≤ k by omega), h3 hg.2.2 k _ (show c.depth ≤ k by omega)]
theorem text_readS {t : Tm} (hg : t.good) (hd : t.depth ≤ 24) (hl : (textN t).length ≤ 120) : readS (textN t) = some t := by
  have := text_parse t hg 24 [] hd
  rw [List.append_nil] at this
  exact readS_of this (Nat.le_refl _) hl
end Go.Proofs.YtkelncocppiepaaGreatDoor
