import Derived.Test.YtjfhncfbejephaaGreatDoorMYi
import Derived.Test.YtjfhncfbejephaaGreatDoorMCt
import Derived.Deep.RegionHeld3
import Derived.Test.YtjfhncfbejephaaGreatDoorMCl
import Derived.Test.YtjfhncfbejephaaGreatDoorMTm
/- The text of a term. No program in sight. -/
namespace Go.Proofs.YtjfhncfbejephaaGreatDoor
open Ff
set_option linter.unusedVariables false

/-- The text of a number up to 99. -/
def decN (n : Nat) : Text := if n < 10 then [UInt8.ofNat (48 + n)] else [UInt8.ofNat (48 + n / 10), UInt8.ofNat (48 + n % 10)]
def numN (n : Nat) : Text := if n < 10 then decN n else 35 :: decN n
/-- The text of a term. -/
def textN : Tm → Text
  | .num n => numN n
  | .var c => [c]
  | .fn c b => 92 :: c :: textN b
  | .fix f c b => 64 :: f :: c :: textN b
  | .app f a => 40 :: (textN f ++ textN a ++ [41])
  | .bind c v b => 61 :: c :: (textN v ++ textN b)
  | .op s l r => s :: (textN l ++ textN r)
  | .sel a b c => 63 :: (textN a ++ textN b ++ textN c)
theorem text_len (t : Tm) : (textN t).length ≤ 3 * (parts t).length := by
  induction t with
  | num n => simp only [textN, numN, decN, parts, List.length_cons, List.length_nil]; split <;> (try split) <;> simp
  | var c => simp [textN, parts]
  | fn c b ih => simp only [textN, parts, List.length_cons]; omega
  | fix f c b ih => simp only [textN, parts, List.length_cons]; omega
  | app f a h1 h2 => simp only [textN, parts, List.length_cons, List.length_append, List.length_nil]; omega
  | bind c f a h1 h2 => simp only [textN, parts, List.length_cons, List.length_append]; omega
  | op s f a h1 h2 => simp only [textN, parts, List.length_cons, List.length_append]; omega
  | sel a b c h1 h2 h3 => simp only [textN, parts, List.length_cons, List.length_append]; omega
end Go.Proofs.YtjfhncfbejephaaGreatDoor

/- The program's text of a term: numbers, names, functions. -/
namespace Go.Proofs.YtjfhncfbejephaaGreatDoor
open Go.RowKit
open Ff
set_option linter.unusedVariables false

/-- The method's function. -/
def tf : Tm → Nat
  | .num _ => 130 | .var _ => 127 | .fn _ _ => 146 | .fix _ _ _ => 146
  | .app _ _ => 148 | .bind _ _ _ => 150 | .op _ _ _ => 152 | .sel _ _ _ => 154
/-- The method's name, as the types' table has it. -/
def TextName (m : String) : Prop := (((Tryz.prog.info? 137).bind fun i => (i.methods[1]?).map (·.name)).getD "") = m
theorem text_m (t : Tm) (m : String) (hm : TextName m) (w : World) : (method (Tryz.prog.types.size + 100) (ty t) (pl t) m).run Tryz.prog w = .ok (tf t, pl t) w := by
  unfold TextName at hm
  subst hm
  cases t <;> kernel_rfl
theorem text_f (t : Tm) (w : World) : (callFunc (tf t) #[pl t]).run Tryz.prog w = .ok (.enter (tf t) #[pl t]) w := by
  cases t <;> kernel_rfl
/-- A method called through an interface, in a region whose order is drawn. -/
theorem wp_invoke_if {P : Program} {ops : Array Oper} {o : Oper} {a a2 : Act} {K : Act → World → Prop} {Q : Exit → Act → World → Prop} {X : Prop} {w : World} (hgd : Region.wanted o (yielded ops a2.tmps) = true) (r : Operand) (m : String) (t : TypeId) (v : Value)
    (ho : o.op = .call { callee := .invoke r m, args := #[], argTypes := #[] }) (hr : a.eval r = .iface t v) (f : FuncId) (hm : (method (P.types.size + 100) t v m).run P w = .ok (f, v) w)
    (hf : (callFunc f #[v]).run P w = .ok (.enter f #[v]) w) (S : Value → World → Prop) (hC : Calls P f #[v] w fun e w' => ∃ x, e = .returned x ∧ S x w')
    (h : ∀ x w', S x w' → K (a.put o.dst x) w') : if Region.wanted o (yielded ops a2.tmps) = true then Oper.wp P o a w K Q else X := by
  rw [if_pos hgd]
  unfold Oper.wp execOp
  simp only [ho, resolve, invoke, callMethod, Sem.run_bind, Sem.run_pure, Result.andThen_ok, List.map_toArray, List.map_nil, hr]
  simp [hm, hf, Sem.run_bind, go_sem]
  refine hC.mono ?_
  rintro e w' ⟨x, rfl, hS⟩
  exact h x w' hS
def TextC (n : Nat) : Prop := ∀ t : Tm, t.depth ≤ n → t.good → (parts t).length ≤ 100000000 → ∀ w, Calls Tryz.prog (tf t) #[pl t] w fun e w' => e = .returned (.string ⟨(textN t).toArray⟩) ∧ Below w.heap.size w w'
theorem conv_c {c : UInt8} (h : c ∈ letters ∨ c = 43 ∨ c = 45 ∨ c = 42) (w : World) : (convert 5 9 (.int .u8 (c.toNat : Int))).run Tryz.prog w = .ok (.string ⟨#[c]⟩) w := by
  simp only [letters, List.mem_cons, List.not_mem_nil, or_false] at h
  rcases h with (h | h | h | h | h | h | h | h | h | h | h | h | h | h | h | h) | h | h | h <;> subst h <;> kernel_rfl
/-- The digits of the numbers up to 99. -/
theorem small_lo : ∀ i : Fin 10, (⟨#[48, 49, 50, 51, 52, 53, 54, 55, 56, 57, 97, 98, 99, 100, 101, 102, 103, 104, 105, 106, 107, 108, 109, 110, 111, 112, 113, 114, 115, 116, 117, 118, 119, 120, 121, 122]⟩ : ByteArray).extract i.1 (i.1 + 1) = ⟨(decN i.1).toArray⟩ := by decide
set_option maxRecDepth 100000 in
theorem small_hi : ∀ i : Fin 100, 10 ≤ i.1 → (⟨#[48, 48, 48, 49, 48, 50, 48, 51, 48, 52, 48, 53, 48, 54, 48, 55, 48, 56, 48, 57, 49, 48, 49, 49, 49, 50, 49, 51, 49, 52, 49, 53, 49, 54, 49, 55, 49, 56, 49, 57, 50, 48, 50, 49, 50, 50, 50, 51, 50, 52, 50, 53, 50, 54, 50, 55, 50, 56, 50, 57, 51, 48, 51, 49, 51, 50, 51, 51, 51, 52, 51, 53, 51, 54, 51, 55, 51, 56, 51, 57, 52, 48, 52, 49, 52, 50, 52, 51, 52, 52, 52, 53, 52, 54, 52, 55, 52, 56, 52, 57, 53, 48, 53, 49, 53, 50, 53, 51, 53, 52, 53, 53, 53, 54, 53, 55, 53, 56, 53, 57, 54, 48, 54, 49, 54, 50, 54, 51, 54, 52, 54, 53, 54, 54, 54, 55, 54, 56, 54, 57, 55, 48, 55, 49, 55, 50, 55, 51, 55, 52, 55, 53, 55, 54, 55, 55, 55, 56, 55, 57, 56, 48, 56, 49, 56, 50, 56, 51, 56, 52, 56, 53, 56, 54, 56, 55, 56, 56, 56, 57, 57, 48, 57, 49, 57, 50, 57, 51, 57, 52, 57, 53, 57, 54, 57, 55, 57, 56, 57, 57]⟩ : ByteArray).extract (i.1 * 2) (i.1 * 2 + 2) = ⟨(decN i.1).toArray⟩ := by decide +kernel
set_option maxRecDepth 100000 in
set_option maxHeartbeats 1000000 in
theorem small_c (n : Nat) (hn : n < 100) (w : World) :
    Calls Tryz.prog 134 #[.int .i64 (n : Int)] w fun e w' => e = .returned (.string ⟨(decN n).toArray⟩) ∧ w' = w := by
  by_cases h : n < 10
  · have h1 := small_lo ⟨n, h⟩
    simp only [] at h1
    go_enter Tryz.func134, Tryz.ntmps134
    go_wp2_with fail
    go_ret
    exact ⟨rfl, rfl⟩
  · go_enter Tryz.func134, Tryz.ntmps134
    go_wp2_with fail
    go_ret
    exact ⟨congrArg (fun s => Ending.returned (Value.string s)) (small_hi ⟨n, hn⟩ (show 10 ≤ n by omega)), rfl⟩
set_option maxHeartbeats 1000000 in
theorem itoa_c (n : Nat) (hn : n < 100) (w : World) :
    Calls Tryz.prog 131 #[.int .i64 (n : Int)] w fun e w' => e = .returned (.string ⟨(decN n).toArray⟩) ∧ w' = w := by
  have h1 : Calls Tryz.prog 133 #[.int .i64 (n : Int), .int .i64 10] w fun e w' => e = .returned (.string ⟨(decN n).toArray⟩) ∧ w' = w := by
    have h0 : (0 : Int) ≤ n := by omega
    have h2 : (n : Int) < 100 := by omega
    go_enter Tryz.func133, Tryz.ntmps133
    go_wp2_with (go_at_call 134; refine (small_c n hn _).mono ?_; rintro e w2 ⟨rfl, rfl⟩)
    go_ret
    exact ⟨rfl, rfl⟩
  have h2 : Calls Tryz.prog 132 #[.int .i64 (n : Int)] w fun e w' => e = .returned (.string ⟨(decN n).toArray⟩) ∧ w' = w := by
    go_enter Tryz.func132, Tryz.ntmps132
    go_wp2_with (go_at_call 133; refine h1.mono ?_; rintro e w2 ⟨rfl, rfl⟩)
    go_ret
    exact ⟨rfl, rfl⟩
  go_enter Tryz.func131, Tryz.ntmps131
  go_wp2_with (go_at_call 132; refine h2.mono ?_; rintro e w2 ⟨rfl, rfl⟩)
  go_ret
  exact ⟨rfl, rfl⟩
theorem dec_len (n : Nat) : (decN n).length ≤ 2 := by unfold decN; split <;> simp
set_option maxHeartbeats 1000000 in
theorem text_num (n : Nat) (hn : n ≤ 99) (w : World) :
    Calls Tryz.prog 130 #[.agg #[.int .i64 (n : Int)]] w fun e w' => e = .returned (.string ⟨(numN n).toArray⟩) ∧ Below w.heap.size w w' := by
  have hl := dec_len n
  have C := fun w' => itoa_c n (by omega) w'
  by_cases h : n < 10
  · have h2 : (n : Int) < 10 := by omega
    have e : numN n = decN n := by simp [numN, h]
    rw [e]
    clear e
    go_enter Tryz.func130, Tryz.ntmps130
    go_wp2_with (go_at_call 131; refine (C _).mono ?_; rintro e w2 ⟨rfl, rfl⟩)
    go_ret
    exact ⟨rfl, (Below.refl _ w).alloc (Nat.le_refl _) _⟩
  · have h2 : ¬ (n : Int) < 10 := by omega
    have e : numN n = 35 :: decN n := by simp [numN, h]
    rw [e]
    have z : ¬ 9223372036854775807 < 1 + (decN n).length := by omega
    clear e
    go_enter Tryz.func130, Tryz.ntmps130
    go_wp2_with (go_at_call 131; refine (C _).mono ?_; rintro e w2 ⟨rfl, rfl⟩)
    go_ret
    exact ⟨congrArg (fun s => Ending.returned (Value.string s)) (str_app2 [35] (decN n)), (Below.refl _ w).alloc (Nat.le_refl _) _⟩
set_option maxHeartbeats 1000000 in
theorem text_var (c : UInt8) (hc : c ∈ letters) (w : World) :
    Calls Tryz.prog 127 #[.agg #[bv c]] w fun e w' => e = .returned (.string ⟨#[c]⟩) ∧ Below w.heap.size w w' := by
  have hv := fun w' => conv_c (.inl hc) w'
  go_enter Tryz.func127, Tryz.ntmps127
  go_wp2_with fail
  go_ret
  exact ⟨rfl, (Below.refl _ w).alloc (Nat.le_refl _) _⟩
end Go.Proofs.YtjfhncfbejephaaGreatDoor

/- The program's text of a term: what has kids. -/
namespace Go.Proofs.YtjfhncfbejephaaGreatDoor
open Go.RowKit
open Ff
set_option linter.unusedVariables false
attribute [local irreducible] Calls

theorem keep2 {B : Nat} {w W : World} {f : Nat} {args : Array Value} {x : Value} {c0 c1 : Value} (h : Calls Tryz.prog f args W fun e w' => e = .returned x ∧ Below W.heap.size W w') (hb : Below B w W) (hs : B < W.heap.size) (h0 : W.cell? ⟨B, 0, none⟩ = some c0) (h1 : W.cell? ⟨B, 1, none⟩ = some c1) :
    Calls Tryz.prog f args W fun e w' => ∃ y, e = .returned y ∧ y = x ∧ Below B w w' ∧ B < w'.heap.size ∧ w'.cell? ⟨B, 0, none⟩ = some c0 ∧ w'.cell? ⟨B, 1, none⟩ = some c1 :=
  h.mono (by
    rintro e w' ⟨rfl, hb2⟩
    exact ⟨_, rfl, rfl, hb.trans (hb2.mono (by omega)), Nat.lt_of_lt_of_le hs hb2.size, (hb2.cell (p := ⟨B, 0, none⟩) hs).trans h0, (hb2.cell (p := ⟨B, 1, none⟩) hs).trans h1⟩)
theorem keep3 {B : Nat} {w W : World} {f : Nat} {args : Array Value} {x : Value} {c0 c1 c2 : Value} (h : Calls Tryz.prog f args W fun e w' => e = .returned x ∧ Below W.heap.size W w') (hb : Below B w W) (hs : B < W.heap.size) (h0 : W.cell? ⟨B, 0, none⟩ = some c0) (h1 : W.cell? ⟨B, 1, none⟩ = some c1) (h2 : W.cell? ⟨B, 2, none⟩ = some c2) :
    Calls Tryz.prog f args W fun e w' => ∃ y, e = .returned y ∧ y = x ∧ Below B w w' ∧ B < w'.heap.size ∧ w'.cell? ⟨B, 0, none⟩ = some c0 ∧ w'.cell? ⟨B, 1, none⟩ = some c1 ∧ w'.cell? ⟨B, 2, none⟩ = some c2 :=
  h.mono (by
    rintro e w' ⟨rfl, hb2⟩
    exact ⟨_, rfl, rfl, hb.trans (hb2.mono (by omega)), Nat.lt_of_lt_of_le hs hb2.size, (hb2.cell (p := ⟨B, 0, none⟩) hs).trans h0, (hb2.cell (p := ⟨B, 1, none⟩) hs).trans h1, (hb2.cell (p := ⟨B, 2, none⟩) hs).trans h2⟩)
set_option maxRecDepth 100000 in
set_option maxHeartbeats 4000000 in
theorem text_fn (n : Nat) (ih : ∀ s : Tm, s.depth ≤ n → s.good → (parts s).length ≤ 300000 → ∀ w, Calls Tryz.prog (tf s) #[pl s] w fun e w' => e = .returned (.string ⟨(textN s).toArray⟩) ∧ Below w.heap.size w w') (c : UInt8) (b : Tm) (hb : b.depth ≤ n) (gb : b.good) (pb : (parts b).length ≤ 300000) (hc : c ∈ letters) (w : World) :
    Calls Tryz.prog 146 #[.agg #[.int .u8 0, bv c, .iface (ty b) (pl b)]] w fun e w' => e = .returned (.string ⟨(92 :: c :: textN b : Text).toArray⟩) ∧ Below w.heap.size w w' := by
  have Cb := fun w' => ih b hb gb pb w'
  have lb := text_len b
  have vc := fun w' => conv_c (.inl hc) w'
  have z0 : ¬ 9223372036854775807 < 1 + 1 + (textN b).length := by omega
  have z1 : ¬ 9223372036854775807 < 2 + (textN b).length := by omega
  go_enter Tryz.func146, Tryz.ntmps146
  go_wp2_with fail
  have q0 := cell_new w [.int .u8 0, bv c, .iface (ty b) (pl b)] 140 0
  have q1 := cell_new w [.int .u8 0, bv c, .iface (ty b) (pl b)] 140 1
  have q2 := cell_new w [.int .u8 0, bv c, .iface (ty b) (pl b)] 140 2
  have qB := (Below.refl w.heap.size w).alloc (Nat.le_refl _) (.cells #[.int .u8 0, bv c, .iface (ty b) (pl b)] 140)
  have qs : w.heap.size < (w.alloc (.cells #[.int .u8 0, bv c, .iface (ty b) (pl b)] 140)).heap.size := by simp
  simp only [List.getElem?_cons_succ, List.getElem?_cons_zero] at q0 q1 q2
  change (w.alloc (.cells #[.int .u8 0, bv c, .iface (ty b) (pl b)] 140)).cell? _ = _ at q0 q1 q2
  generalize w.alloc (.cells #[.int .u8 0, bv c, .iface (ty b) (pl b)] 140) = W1 at q0 q1 q2 qB qs ⊢
  have qd := qB.drew
  clear ih
  go_region_held3 (fun w' => w'.cell? ⟨w.heap.size, 0, none⟩ = some (.int .u8 0) ∧ w'.cell? ⟨w.heap.size, 1, none⟩ = some (bv c) ∧ w'.cell? ⟨w.heap.size, 2, none⟩ = some (.iface (ty b) (pl b)) ∧ Below w.heap.size w w' ∧ w.heap.size < w'.heap.size)
    (first | go_keep | refine ⟨?_, ?_, ?_, ?_, ?_⟩ <;> assumption)
    (first | (refine wp_invoke_if rfl _ _ (ty b) (pl b) rfl rfl (tf b) (text_m b _ (by unfold TextName; kernel_rfl) _) (text_f b _) (fun rv w' => rv = .string ⟨(textN b).toArray⟩ ∧ Below w.heap.size w w' ∧ w.heap.size < w'.heap.size ∧ w'.cell? ⟨w.heap.size, 0, none⟩ = some (.int .u8 0) ∧ w'.cell? ⟨w.heap.size, 1, none⟩ = some (bv c) ∧ w'.cell? ⟨w.heap.size, 2, none⟩ = some (.iface (ty b) (pl b))) (keep3 (Cb _) (by assumption) (by assumption) (by assumption) (by assumption) (by assumption)) ?_; rintro rv w2 ⟨rfl, hbb, hss, hq0, hq1, hq2⟩))
  all_goals go_wp2_with fail
  all_goals go_ret
  all_goals exact ⟨congrArg (fun s => Ending.returned (Value.string s)) (by apply ba_ext; simp [ByteArray.data_append]), by assumption⟩
set_option maxRecDepth 100000 in
set_option maxHeartbeats 4000000 in
theorem text_fix (n : Nat) (ih : ∀ s : Tm, s.depth ≤ n → s.good → (parts s).length ≤ 300000 → ∀ w, Calls Tryz.prog (tf s) #[pl s] w fun e w' => e = .returned (.string ⟨(textN s).toArray⟩) ∧ Below w.heap.size w w') (f c : UInt8) (b : Tm) (hb : b.depth ≤ n) (gb : b.good) (pb : (parts b).length ≤ 300000) (hf : f ∈ letters) (hc : c ∈ letters) (hz : ((f.toNat : Int) == 0) = false) (w : World) :
    Calls Tryz.prog 146 #[.agg #[bv f, bv c, .iface (ty b) (pl b)]] w fun e w' => e = .returned (.string ⟨(64 :: f :: c :: textN b : Text).toArray⟩) ∧ Below w.heap.size w w' := by
  have Cb := fun w' => ih b hb gb pb w'
  have lb := text_len b
  have vc := fun w' => conv_c (.inl hc) w'
  have vf := fun w' => conv_c (.inl hf) w'
  have z0 : ¬ 9223372036854775807 < 1 + 1 + 1 + (textN b).length := by omega
  have z1 : ¬ 9223372036854775807 < 3 + (textN b).length := by omega
  go_enter Tryz.func146, Tryz.ntmps146
  go_wp2_with fail
  have q0 := cell_new w [bv f, bv c, .iface (ty b) (pl b)] 140 0
  have q1 := cell_new w [bv f, bv c, .iface (ty b) (pl b)] 140 1
  have q2 := cell_new w [bv f, bv c, .iface (ty b) (pl b)] 140 2
  have qB := (Below.refl w.heap.size w).alloc (Nat.le_refl _) (.cells #[bv f, bv c, .iface (ty b) (pl b)] 140)
  have qs : w.heap.size < (w.alloc (.cells #[bv f, bv c, .iface (ty b) (pl b)] 140)).heap.size := by simp
  simp only [List.getElem?_cons_succ, List.getElem?_cons_zero] at q0 q1 q2
  change (w.alloc (.cells #[bv f, bv c, .iface (ty b) (pl b)] 140)).cell? _ = _ at q0 q1 q2
  generalize w.alloc (.cells #[bv f, bv c, .iface (ty b) (pl b)] 140) = W1 at q0 q1 q2 qB qs ⊢
  have qd := qB.drew
  clear ih
  go_region_held3 (fun w' => w'.cell? ⟨w.heap.size, 0, none⟩ = some (bv f) ∧ w'.cell? ⟨w.heap.size, 1, none⟩ = some (bv c) ∧ w'.cell? ⟨w.heap.size, 2, none⟩ = some (.iface (ty b) (pl b)) ∧ Below w.heap.size w w' ∧ w.heap.size < w'.heap.size)
    (first | go_keep | refine ⟨?_, ?_, ?_, ?_, ?_⟩ <;> assumption)
    (first | (refine wp_invoke_if rfl _ _ (ty b) (pl b) rfl rfl (tf b) (text_m b _ (by unfold TextName; kernel_rfl) _) (text_f b _) (fun rv w' => rv = .string ⟨(textN b).toArray⟩ ∧ Below w.heap.size w w' ∧ w.heap.size < w'.heap.size ∧ w'.cell? ⟨w.heap.size, 0, none⟩ = some (bv f) ∧ w'.cell? ⟨w.heap.size, 1, none⟩ = some (bv c) ∧ w'.cell? ⟨w.heap.size, 2, none⟩ = some (.iface (ty b) (pl b))) (keep3 (Cb _) (by assumption) (by assumption) (by assumption) (by assumption) (by assumption)) ?_; rintro rv w2 ⟨rfl, hbb, hss, hq0, hq1, hq2⟩))
  all_goals go_wp2_with fail
  all_goals go_ret
  all_goals exact ⟨congrArg (fun s => Ending.returned (Value.string s)) (by apply ba_ext; simp [ByteArray.data_append]), by assumption⟩
set_option maxRecDepth 100000 in
set_option maxHeartbeats 4000000 in
theorem text_app (n : Nat) (ih : ∀ s : Tm, s.depth ≤ n → s.good → (parts s).length ≤ 300000 → ∀ w, Calls Tryz.prog (tf s) #[pl s] w fun e w' => e = .returned (.string ⟨(textN s).toArray⟩) ∧ Below w.heap.size w w') (x y : Tm) (hx : x.depth ≤ n) (gx : x.good) (px : (parts x).length ≤ 300000) (hy : y.depth ≤ n) (gy : y.good) (py : (parts y).length ≤ 300000)  (w : World) :
    Calls Tryz.prog 148 #[.agg #[.iface (ty x) (pl x), .iface (ty y) (pl y)]] w fun e w' => e = .returned (.string ⟨(40 :: (textN x ++ textN y ++ [41]) : Text).toArray⟩) ∧ Below w.heap.size w w' := by
  have Cx := fun w' => ih x hx gx px w'
  have Cy := fun w' => ih y hy gy py w'
  have lx := text_len x
  have ly := text_len y

  have z0 : ¬ 9223372036854775807 < 1 + (textN x).length := by omega
  have z1 : ¬ 9223372036854775807 < 1 + (textN x).length + (textN y).length := by omega
  have z2 : ¬ 9223372036854775807 < 1 + (textN x).length + (textN y).length + 1 := by omega
  go_enter Tryz.func148, Tryz.ntmps148
  go_wp2_with fail
  have q0 := cell_new w [.iface (ty x) (pl x), .iface (ty y) (pl y)] 143 0
  have q1 := cell_new w [.iface (ty x) (pl x), .iface (ty y) (pl y)] 143 1
  have qB := (Below.refl w.heap.size w).alloc (Nat.le_refl _) (.cells #[.iface (ty x) (pl x), .iface (ty y) (pl y)] 143)
  have qs : w.heap.size < (w.alloc (.cells #[.iface (ty x) (pl x), .iface (ty y) (pl y)] 143)).heap.size := by simp
  simp only [List.getElem?_cons_succ, List.getElem?_cons_zero] at q0 q1
  change (w.alloc (.cells #[.iface (ty x) (pl x), .iface (ty y) (pl y)] 143)).cell? _ = _ at q0 q1
  generalize w.alloc (.cells #[.iface (ty x) (pl x), .iface (ty y) (pl y)] 143) = W1 at q0 q1 qB qs ⊢
  have qd := qB.drew
  clear ih
  go_region_held3 (fun w' => w'.cell? ⟨w.heap.size, 0, none⟩ = some (.iface (ty x) (pl x)) ∧ w'.cell? ⟨w.heap.size, 1, none⟩ = some (.iface (ty y) (pl y)) ∧ Below w.heap.size w w' ∧ w.heap.size < w'.heap.size)
    (first | go_keep | refine ⟨?_, ?_, ?_, ?_⟩ <;> assumption)
    (first | (refine wp_invoke_if rfl _ _ (ty x) (pl x) rfl rfl (tf x) (text_m x _ (by unfold TextName; kernel_rfl) _) (text_f x _) (fun rv w' => rv = .string ⟨(textN x).toArray⟩ ∧ Below w.heap.size w w' ∧ w.heap.size < w'.heap.size ∧ w'.cell? ⟨w.heap.size, 0, none⟩ = some (.iface (ty x) (pl x)) ∧ w'.cell? ⟨w.heap.size, 1, none⟩ = some (.iface (ty y) (pl y))) (keep2 (Cx _) (by assumption) (by assumption) (by assumption) (by assumption)) ?_; rintro rv w2 ⟨rfl, hbb, hss, hq0, hq1⟩) | (refine wp_invoke_if rfl _ _ (ty y) (pl y) rfl rfl (tf y) (text_m y _ (by unfold TextName; kernel_rfl) _) (text_f y _) (fun rv w' => rv = .string ⟨(textN y).toArray⟩ ∧ Below w.heap.size w w' ∧ w.heap.size < w'.heap.size ∧ w'.cell? ⟨w.heap.size, 0, none⟩ = some (.iface (ty x) (pl x)) ∧ w'.cell? ⟨w.heap.size, 1, none⟩ = some (.iface (ty y) (pl y))) (keep2 (Cy _) (by assumption) (by assumption) (by assumption) (by assumption)) ?_; rintro rv w2 ⟨rfl, hbb, hss, hq0, hq1⟩))
  all_goals go_wp2_with fail
  all_goals go_ret
  all_goals exact ⟨congrArg (fun s => Ending.returned (Value.string s)) (by apply ba_ext; simp [ByteArray.data_append]), by assumption⟩
set_option maxRecDepth 100000 in
set_option maxHeartbeats 4000000 in
theorem text_bind (n : Nat) (ih : ∀ s : Tm, s.depth ≤ n → s.good → (parts s).length ≤ 300000 → ∀ w, Calls Tryz.prog (tf s) #[pl s] w fun e w' => e = .returned (.string ⟨(textN s).toArray⟩) ∧ Below w.heap.size w w') (c : UInt8) (x y : Tm) (hx : x.depth ≤ n) (gx : x.good) (px : (parts x).length ≤ 300000) (hy : y.depth ≤ n) (gy : y.good) (py : (parts y).length ≤ 300000) (hc : c ∈ letters) (w : World) :
    Calls Tryz.prog 150 #[.agg #[bv c, .iface (ty x) (pl x), .iface (ty y) (pl y)]] w fun e w' => e = .returned (.string ⟨(61 :: c :: (textN x ++ textN y) : Text).toArray⟩) ∧ Below w.heap.size w w' := by
  have Cx := fun w' => ih x hx gx px w'
  have Cy := fun w' => ih y hy gy py w'
  have lx := text_len x
  have ly := text_len y
  have vc := fun w' => conv_c (.inl hc) w'
  have z0 : ¬ 9223372036854775807 < 1 + 1 + (textN x).length := by omega
  have z1 : ¬ 9223372036854775807 < 2 + (textN x).length := by omega
  have z2 : ¬ 9223372036854775807 < 1 + 1 + (textN x).length + (textN y).length := by omega
  have z3 : ¬ 9223372036854775807 < 2 + (textN x).length + (textN y).length := by omega
  go_enter Tryz.func150, Tryz.ntmps150
  go_wp2_with fail
  have q0 := cell_new w [bv c, .iface (ty x) (pl x), .iface (ty y) (pl y)] 146 0
  have q1 := cell_new w [bv c, .iface (ty x) (pl x), .iface (ty y) (pl y)] 146 1
  have q2 := cell_new w [bv c, .iface (ty x) (pl x), .iface (ty y) (pl y)] 146 2
  have qB := (Below.refl w.heap.size w).alloc (Nat.le_refl _) (.cells #[bv c, .iface (ty x) (pl x), .iface (ty y) (pl y)] 146)
  have qs : w.heap.size < (w.alloc (.cells #[bv c, .iface (ty x) (pl x), .iface (ty y) (pl y)] 146)).heap.size := by simp
  simp only [List.getElem?_cons_succ, List.getElem?_cons_zero] at q0 q1 q2
  change (w.alloc (.cells #[bv c, .iface (ty x) (pl x), .iface (ty y) (pl y)] 146)).cell? _ = _ at q0 q1 q2
  generalize w.alloc (.cells #[bv c, .iface (ty x) (pl x), .iface (ty y) (pl y)] 146) = W1 at q0 q1 q2 qB qs ⊢
  have qd := qB.drew
  clear ih
  go_region_held3 (fun w' => w'.cell? ⟨w.heap.size, 0, none⟩ = some (bv c) ∧ w'.cell? ⟨w.heap.size, 1, none⟩ = some (.iface (ty x) (pl x)) ∧ w'.cell? ⟨w.heap.size, 2, none⟩ = some (.iface (ty y) (pl y)) ∧ Below w.heap.size w w' ∧ w.heap.size < w'.heap.size)
    (first | go_keep | refine ⟨?_, ?_, ?_, ?_, ?_⟩ <;> assumption)
    (first | (refine wp_invoke_if rfl _ _ (ty x) (pl x) rfl rfl (tf x) (text_m x _ (by unfold TextName; kernel_rfl) _) (text_f x _) (fun rv w' => rv = .string ⟨(textN x).toArray⟩ ∧ Below w.heap.size w w' ∧ w.heap.size < w'.heap.size ∧ w'.cell? ⟨w.heap.size, 0, none⟩ = some (bv c) ∧ w'.cell? ⟨w.heap.size, 1, none⟩ = some (.iface (ty x) (pl x)) ∧ w'.cell? ⟨w.heap.size, 2, none⟩ = some (.iface (ty y) (pl y))) (keep3 (Cx _) (by assumption) (by assumption) (by assumption) (by assumption) (by assumption)) ?_; rintro rv w2 ⟨rfl, hbb, hss, hq0, hq1, hq2⟩) | (refine wp_invoke_if rfl _ _ (ty y) (pl y) rfl rfl (tf y) (text_m y _ (by unfold TextName; kernel_rfl) _) (text_f y _) (fun rv w' => rv = .string ⟨(textN y).toArray⟩ ∧ Below w.heap.size w w' ∧ w.heap.size < w'.heap.size ∧ w'.cell? ⟨w.heap.size, 0, none⟩ = some (bv c) ∧ w'.cell? ⟨w.heap.size, 1, none⟩ = some (.iface (ty x) (pl x)) ∧ w'.cell? ⟨w.heap.size, 2, none⟩ = some (.iface (ty y) (pl y))) (keep3 (Cy _) (by assumption) (by assumption) (by assumption) (by assumption) (by assumption)) ?_; rintro rv w2 ⟨rfl, hbb, hss, hq0, hq1, hq2⟩))
  all_goals go_wp2_with fail
  all_goals go_ret
  all_goals exact ⟨congrArg (fun s => Ending.returned (Value.string s)) (by apply ba_ext; simp [ByteArray.data_append]), by assumption⟩
set_option maxRecDepth 100000 in
set_option maxHeartbeats 4000000 in
theorem text_op (n : Nat) (ih : ∀ s : Tm, s.depth ≤ n → s.good → (parts s).length ≤ 300000 → ∀ w, Calls Tryz.prog (tf s) #[pl s] w fun e w' => e = .returned (.string ⟨(textN s).toArray⟩) ∧ Below w.heap.size w w') (c : UInt8) (x y : Tm) (hx : x.depth ≤ n) (gx : x.good) (px : (parts x).length ≤ 300000) (hy : y.depth ≤ n) (gy : y.good) (py : (parts y).length ≤ 300000) (hc : c = 43 ∨ c = 45 ∨ c = 42) (w : World) :
    Calls Tryz.prog 152 #[.agg #[bv c, .iface (ty x) (pl x), .iface (ty y) (pl y)]] w fun e w' => e = .returned (.string ⟨(c :: (textN x ++ textN y) : Text).toArray⟩) ∧ Below w.heap.size w w' := by
  have Cx := fun w' => ih x hx gx px w'
  have Cy := fun w' => ih y hy gy py w'
  have lx := text_len x
  have ly := text_len y
  have vc := fun w' => conv_c (.inr hc) w'
  have z0 : ¬ 9223372036854775807 < 1 + (textN x).length := by omega
  have z1 : ¬ 9223372036854775807 < 1 + (textN x).length + (textN y).length := by omega
  go_enter Tryz.func152, Tryz.ntmps152
  go_wp2_with fail
  have q0 := cell_new w [bv c, .iface (ty x) (pl x), .iface (ty y) (pl y)] 149 0
  have q1 := cell_new w [bv c, .iface (ty x) (pl x), .iface (ty y) (pl y)] 149 1
  have q2 := cell_new w [bv c, .iface (ty x) (pl x), .iface (ty y) (pl y)] 149 2
  have qB := (Below.refl w.heap.size w).alloc (Nat.le_refl _) (.cells #[bv c, .iface (ty x) (pl x), .iface (ty y) (pl y)] 149)
  have qs : w.heap.size < (w.alloc (.cells #[bv c, .iface (ty x) (pl x), .iface (ty y) (pl y)] 149)).heap.size := by simp
  simp only [List.getElem?_cons_succ, List.getElem?_cons_zero] at q0 q1 q2
  change (w.alloc (.cells #[bv c, .iface (ty x) (pl x), .iface (ty y) (pl y)] 149)).cell? _ = _ at q0 q1 q2
  generalize w.alloc (.cells #[bv c, .iface (ty x) (pl x), .iface (ty y) (pl y)] 149) = W1 at q0 q1 q2 qB qs ⊢
  have qd := qB.drew
  clear ih
  go_region_held3 (fun w' => w'.cell? ⟨w.heap.size, 0, none⟩ = some (bv c) ∧ w'.cell? ⟨w.heap.size, 1, none⟩ = some (.iface (ty x) (pl x)) ∧ w'.cell? ⟨w.heap.size, 2, none⟩ = some (.iface (ty y) (pl y)) ∧ Below w.heap.size w w' ∧ w.heap.size < w'.heap.size)
    (first | go_keep | refine ⟨?_, ?_, ?_, ?_, ?_⟩ <;> assumption)
    (first | (refine wp_invoke_if rfl _ _ (ty x) (pl x) rfl rfl (tf x) (text_m x _ (by unfold TextName; kernel_rfl) _) (text_f x _) (fun rv w' => rv = .string ⟨(textN x).toArray⟩ ∧ Below w.heap.size w w' ∧ w.heap.size < w'.heap.size ∧ w'.cell? ⟨w.heap.size, 0, none⟩ = some (bv c) ∧ w'.cell? ⟨w.heap.size, 1, none⟩ = some (.iface (ty x) (pl x)) ∧ w'.cell? ⟨w.heap.size, 2, none⟩ = some (.iface (ty y) (pl y))) (keep3 (Cx _) (by assumption) (by assumption) (by assumption) (by assumption) (by assumption)) ?_; rintro rv w2 ⟨rfl, hbb, hss, hq0, hq1, hq2⟩) | (refine wp_invoke_if rfl _ _ (ty y) (pl y) rfl rfl (tf y) (text_m y _ (by unfold TextName; kernel_rfl) _) (text_f y _) (fun rv w' => rv = .string ⟨(textN y).toArray⟩ ∧ Below w.heap.size w w' ∧ w.heap.size < w'.heap.size ∧ w'.cell? ⟨w.heap.size, 0, none⟩ = some (bv c) ∧ w'.cell? ⟨w.heap.size, 1, none⟩ = some (.iface (ty x) (pl x)) ∧ w'.cell? ⟨w.heap.size, 2, none⟩ = some (.iface (ty y) (pl y))) (keep3 (Cy _) (by assumption) (by assumption) (by assumption) (by assumption) (by assumption)) ?_; rintro rv w2 ⟨rfl, hbb, hss, hq0, hq1, hq2⟩))
  all_goals go_wp2_with fail
  all_goals go_ret
  all_goals exact ⟨congrArg (fun s => Ending.returned (Value.string s)) (by apply ba_ext; simp [ByteArray.data_append]), by assumption⟩
set_option maxRecDepth 100000 in
set_option maxHeartbeats 4000000 in
theorem text_sel (n : Nat) (ih : ∀ s : Tm, s.depth ≤ n → s.good → (parts s).length ≤ 300000 → ∀ w, Calls Tryz.prog (tf s) #[pl s] w fun e w' => e = .returned (.string ⟨(textN s).toArray⟩) ∧ Below w.heap.size w w') (x y z : Tm) (hx : x.depth ≤ n) (gx : x.good) (px : (parts x).length ≤ 300000) (hy : y.depth ≤ n) (gy : y.good) (py : (parts y).length ≤ 300000) (hz : z.depth ≤ n) (gz : z.good) (pz : (parts z).length ≤ 300000)  (w : World) :
    Calls Tryz.prog 154 #[.agg #[.iface (ty x) (pl x), .iface (ty y) (pl y), .iface (ty z) (pl z)]] w fun e w' => e = .returned (.string ⟨(63 :: (textN x ++ textN y ++ textN z) : Text).toArray⟩) ∧ Below w.heap.size w w' := by
  have Cx := fun w' => ih x hx gx px w'
  have Cy := fun w' => ih y hy gy py w'
  have Cz := fun w' => ih z hz gz pz w'
  have lx := text_len x
  have ly := text_len y
  have lz := text_len z

  have z0 : ¬ 9223372036854775807 < 1 + (textN x).length := by omega
  have z1 : ¬ 9223372036854775807 < 1 + (textN x).length + (textN y).length := by omega
  have z2 : ¬ 9223372036854775807 < 1 + (textN x).length + (textN y).length + (textN z).length := by omega
  go_enter Tryz.func154, Tryz.ntmps154
  go_wp2_with fail
  have q0 := cell_new w [.iface (ty x) (pl x), .iface (ty y) (pl y), .iface (ty z) (pl z)] 153 0
  have q1 := cell_new w [.iface (ty x) (pl x), .iface (ty y) (pl y), .iface (ty z) (pl z)] 153 1
  have q2 := cell_new w [.iface (ty x) (pl x), .iface (ty y) (pl y), .iface (ty z) (pl z)] 153 2
  have qB := (Below.refl w.heap.size w).alloc (Nat.le_refl _) (.cells #[.iface (ty x) (pl x), .iface (ty y) (pl y), .iface (ty z) (pl z)] 153)
  have qs : w.heap.size < (w.alloc (.cells #[.iface (ty x) (pl x), .iface (ty y) (pl y), .iface (ty z) (pl z)] 153)).heap.size := by simp
  simp only [List.getElem?_cons_succ, List.getElem?_cons_zero] at q0 q1 q2
  change (w.alloc (.cells #[.iface (ty x) (pl x), .iface (ty y) (pl y), .iface (ty z) (pl z)] 153)).cell? _ = _ at q0 q1 q2
  generalize w.alloc (.cells #[.iface (ty x) (pl x), .iface (ty y) (pl y), .iface (ty z) (pl z)] 153) = W1 at q0 q1 q2 qB qs ⊢
  have qd := qB.drew
  clear ih
  go_region_held3 (fun w' => w'.cell? ⟨w.heap.size, 0, none⟩ = some (.iface (ty x) (pl x)) ∧ w'.cell? ⟨w.heap.size, 1, none⟩ = some (.iface (ty y) (pl y)) ∧ w'.cell? ⟨w.heap.size, 2, none⟩ = some (.iface (ty z) (pl z)) ∧ Below w.heap.size w w' ∧ w.heap.size < w'.heap.size)
    (first | go_keep | refine ⟨?_, ?_, ?_, ?_, ?_⟩ <;> assumption)
    (first | (refine wp_invoke_if rfl _ _ (ty x) (pl x) rfl rfl (tf x) (text_m x _ (by unfold TextName; kernel_rfl) _) (text_f x _) (fun rv w' => rv = .string ⟨(textN x).toArray⟩ ∧ Below w.heap.size w w' ∧ w.heap.size < w'.heap.size ∧ w'.cell? ⟨w.heap.size, 0, none⟩ = some (.iface (ty x) (pl x)) ∧ w'.cell? ⟨w.heap.size, 1, none⟩ = some (.iface (ty y) (pl y)) ∧ w'.cell? ⟨w.heap.size, 2, none⟩ = some (.iface (ty z) (pl z))) (keep3 (Cx _) (by assumption) (by assumption) (by assumption) (by assumption) (by assumption)) ?_; rintro rv w2 ⟨rfl, hbb, hss, hq0, hq1, hq2⟩) | (refine wp_invoke_if rfl _ _ (ty y) (pl y) rfl rfl (tf y) (text_m y _ (by unfold TextName; kernel_rfl) _) (text_f y _) (fun rv w' => rv = .string ⟨(textN y).toArray⟩ ∧ Below w.heap.size w w' ∧ w.heap.size < w'.heap.size ∧ w'.cell? ⟨w.heap.size, 0, none⟩ = some (.iface (ty x) (pl x)) ∧ w'.cell? ⟨w.heap.size, 1, none⟩ = some (.iface (ty y) (pl y)) ∧ w'.cell? ⟨w.heap.size, 2, none⟩ = some (.iface (ty z) (pl z))) (keep3 (Cy _) (by assumption) (by assumption) (by assumption) (by assumption) (by assumption)) ?_; rintro rv w2 ⟨rfl, hbb, hss, hq0, hq1, hq2⟩) | (refine wp_invoke_if rfl _ _ (ty z) (pl z) rfl rfl (tf z) (text_m z _ (by unfold TextName; kernel_rfl) _) (text_f z _) (fun rv w' => rv = .string ⟨(textN z).toArray⟩ ∧ Below w.heap.size w w' ∧ w.heap.size < w'.heap.size ∧ w'.cell? ⟨w.heap.size, 0, none⟩ = some (.iface (ty x) (pl x)) ∧ w'.cell? ⟨w.heap.size, 1, none⟩ = some (.iface (ty y) (pl y)) ∧ w'.cell? ⟨w.heap.size, 2, none⟩ = some (.iface (ty z) (pl z))) (keep3 (Cz _) (by assumption) (by assumption) (by assumption) (by assumption) (by assumption)) ?_; rintro rv w2 ⟨rfl, hbb, hss, hq0, hq1, hq2⟩))
  all_goals go_wp2_with fail
  all_goals go_ret
  all_goals exact ⟨congrArg (fun s => Ending.returned (Value.string s)) (by apply ba_ext; simp [ByteArray.data_append]), by assumption⟩
end Go.Proofs.YtjfhncfbejephaaGreatDoor

/- The text of a term: the program's and the specification's. -/
namespace Go.Proofs.YtjfhncfbejephaaGreatDoor
open Go.RowKit
open Ff
set_option linter.unusedVariables false

theorem text_c : ∀ (n : Nat) (t : Tm), t.depth ≤ n → t.good → (parts t).length ≤ 300000 → ∀ w, Calls Tryz.prog (tf t) #[pl t] w fun e w' => e = .returned (.string ⟨(textN t).toArray⟩) ∧ Below w.heap.size w w'
  | 0 => fun t ht => absurd ht (by have := t.depth_pos; omega)
  | n + 1 => by
    intro t ht hgd hp w
    have ih := text_c n
    have hd : ∀ s ∈ t.kids, s.depth ≤ n := fun s hs => by have := kid_depth hs; omega
    have hgk : ∀ s ∈ t.kids, s.good := fun s hs => Tm.kid_good hgd hs
    have hpk : ∀ s ∈ t.kids, (parts s).length ≤ 300000 := fun s hs => Nat.le_trans (parts_kid_le hs) hp
    cases t with
    | num m => exact text_num m hgd w
    | var c => exact text_var c (nam_letter hgd) w
    | fn c b => 
      have k := text_fn n ih c b (hd b (by simp [Tm.kids])) (hgk b (by simp [Tm.kids])) (hpk b (by simp [Tm.kids])) (nam_letter hgd.1) w
      rw [← enc_ty b] at k
      exact k
    | fix f c b =>
      have hf : ((f.toNat : Int) == 0) = false := by
        have := hgd.1
        simp only [isNam, Bool.and_eq_true, decide_eq_true_eq] at this
        simp; omega
      have k := text_fix n ih f c b (hd b (by simp [Tm.kids])) (hgk b (by simp [Tm.kids])) (hpk b (by simp [Tm.kids])) (nam_letter hgd.1) (nam_letter hgd.2.1) hf w
      rw [← enc_ty b] at k
      exact k
    | app f a =>
      have k := text_app n ih f a (hd f (by simp [Tm.kids])) (hgk f (by simp [Tm.kids])) (hpk f (by simp [Tm.kids])) (hd a (by simp [Tm.kids])) (hgk a (by simp [Tm.kids])) (hpk a (by simp [Tm.kids])) w
      rw [← enc_ty f, ← enc_ty a] at k
      exact k
    | bind c x b =>
      have k := text_bind n ih c x b (hd x (by simp [Tm.kids])) (hgk x (by simp [Tm.kids])) (hpk x (by simp [Tm.kids])) (hd b (by simp [Tm.kids])) (hgk b (by simp [Tm.kids])) (hpk b (by simp [Tm.kids])) (nam_letter hgd.1) w
      rw [← enc_ty x, ← enc_ty b] at k
      exact k
    | op o l r =>
      have k := text_op n ih o l r (hd l (by simp [Tm.kids])) (hgk l (by simp [Tm.kids])) (hpk l (by simp [Tm.kids])) (hd r (by simp [Tm.kids])) (hgk r (by simp [Tm.kids])) (hpk r (by simp [Tm.kids])) hgd.1 w
      rw [← enc_ty l, ← enc_ty r] at k
      exact k
    | sel a b c =>
      have k := text_sel n ih a b c (hd a (by simp [Tm.kids])) (hgk a (by simp [Tm.kids])) (hpk a (by simp [Tm.kids])) (hd b (by simp [Tm.kids])) (hgk b (by simp [Tm.kids])) (hpk b (by simp [Tm.kids])) (hd c (by simp [Tm.kids])) (hgk c (by simp [Tm.kids])) (hpk c (by simp [Tm.kids])) w
      rw [← enc_ty a, ← enc_ty b, ← enc_ty c] at k
      exact k

/-- A string of one byte that was reckoned. -/
theorem strZ {z : Int} {d : UInt8} (hz : z = (d.toNat : Int)) (W : World) : (convert 22 9 (.slice (some ⟨W.heap.size, 0, none⟩) 1 1)).run Tryz.prog (W.alloc (.cells #[.int .u8 z] 5)) = .ok (.string ⟨#[d]⟩) (W.alloc (.cells #[.int .u8 z] 5)) := by
  subst hz
  exact str1 _ d _ (cell_new_at _ _ _ _ rfl)
theorem byte_of {n : Nat} (h : n < 208) : ((48 : Int) + n) = ((UInt8.ofNat (48 + n)).toNat : Int) := by
  rw [UInt8.toNat_ofNat']
  omega
end Go.Proofs.YtjfhncfbejephaaGreatDoor

/- The specification's l1Text. -/
namespace Go.Proofs.YtjfhncfbejephaaGreatDoor
open Go.RowKit
open Ff
set_option linter.unusedVariables false

def textTo (l : List Tm) (k : Nat) : Text := (l.take k).flatMap textN
theorem textTo_succ (l : List Tm) (k : Nat) (s : Tm) (h : l[k]? = some s) : textTo l (k + 1) = textTo l k ++ textN s := by
  unfold textTo
  rw [List.take_add_one, h]
  simp
theorem textTo_len (t : Tm) : ∀ k, (textTo t.kids k).length + 3 ≤ 3 * (before t k).length
  | 0 => by simp [textTo, before]
  | k + 1 => by
    have ih := textTo_len t k
    rcases h : t.kids[k]? with _ | s
    · have e1 : textTo t.kids (k + 1) = textTo t.kids k := by unfold textTo; rw [List.take_add_one, h]; simp
      have e2 : before t (k + 1) = before t k := by unfold before; rw [List.take_add_one, h]; simp
      rw [e1, e2]; exact ih
    · rw [textTo_succ _ k s h, before_succ t k s h, List.length_append, List.length_append]
      have := text_len s
      omega
/-- The sign at a term's head. -/
def headN (t : Tm) : UInt8 := UInt8.ofNat (kindOf t)
def tailN (t : Tm) : Text := if kindOf t = 40 then [41] else []
theorem kind_cases {t : Tm} (h : t.good) (h1 : kindOf t ≠ 110) (h2 : kindOf t ≠ 118) : kindOf t = 92 ∨ kindOf t = 64 ∨ kindOf t = 40 ∨ kindOf t = 61 ∨ kindOf t = 63 ∨ kindOf t = 43 ∨ kindOf t = 45 ∨ kindOf t = 42 := by
  cases t with
  | num n => simp [kindOf] at h1
  | var c => simp [kindOf] at h2
  | op s l r => rcases h.1 with h | h | h <;> subst h <;> simp [kindOf]
  | _ => simp [kindOf]
theorem text_shape {t : Tm} (h : t.good) (h1 : kindOf t ≠ 110) (h2 : kindOf t ≠ 118) : textN t = headN t :: (namesOf t ++ textTo t.kids t.kids.length) ++ tailN t := by
  cases t with
  | num n => simp [kindOf] at h1
  | var c => simp [kindOf] at h2
  | op s l r =>
    have hs : UInt8.ofNat s.toNat = s := by simp
    have ht : s.toNat ≠ 40 := by rcases h.1 with h | h | h <;> subst h <;> decide
    simp [textN, headN, tailN, kindOf, namesOf, textTo, Tm.kids, ht]
  | fn c b => simp [textN, headN, tailN, kindOf, namesOf, textTo, Tm.kids]
  | fix f c b => simp [textN, headN, tailN, kindOf, namesOf, textTo, Tm.kids]
  | app f a => simp [textN, headN, tailN, kindOf, namesOf, textTo, Tm.kids]
  | bind c f a => simp [textN, headN, tailN, kindOf, namesOf, textTo, Tm.kids]
  | sel a b c => simp [textN, headN, tailN, kindOf, namesOf, textTo, Tm.kids]
end Go.Proofs.YtjfhncfbejephaaGreatDoor

/- A text that reads as a term is the term's own text, and a term's text reads as it. No program in sight. -/
namespace Go.Proofs.YtjfhncfbejephaaGreatDoor
open Ff
set_option linter.unusedVariables false
theorem name1_text {s r : Text} {c : UInt8} (h : name1 s = some (c, r)) : s = c :: r := by
  cases s with
  | nil => simp [name1] at h
  | cons a s => simp only [name1] at h; split at h <;> simp_all
theorem next1_text {s r : Text} {c : UInt8} (h : next1 s = some (c, r)) : s = c :: r := by
  cases s with
  | nil => simp [next1] at h
  | cons a s => simp only [next1, Option.some.injEq, Prod.mk.injEq] at h; simp [h.1, h.2]
theorem toN {c : UInt8} {n : Nat} (h : c.toNat = n) : c = UInt8.ofNat n := by subst h; simp
theorem parse_text : ∀ (k : Nat) (s r : Text) (t : Tm), parse k s = some (t, r) → s = textN t ++ r := by
  intro k
  induction k with
  | zero => intro s r t h; simp [parse] at h
  | succ k ih =>
    intro s r t h
    simp only [parse, Option.bind_eq_some_iff, Prod.exists] at h
    obtain ⟨c, s1, h1, h⟩ := h
    have e0 := next1_text h1
    unfold pBehind at h
    split at h
    · rename_i h35
      simp only [pLong, Option.bind_eq_some_iff, Prod.exists] at h
      obtain ⟨a, r1, ha, b, r2, hb, h⟩ := h
      split at h
      · rename_i hdig
        simp only [Option.some.injEq, Prod.mk.injEq] at h
        obtain ⟨rfl, rfl⟩ := h
        have e1 := next1_text ha; have e2 := next1_text hb
        obtain ⟨d1, d2, d3⟩ := hdig
        have g1 : 48 ≤ a.toNat ∧ a.toNat ≤ 57 := by simpa [isDig] using d1
        have g2 : 48 ≤ b.toNat ∧ b.toNat ≤ 57 := by simpa [isDig] using d2
        have f1 : a = UInt8.ofNat (48 + (10 * (a.toNat - 48) + (b.toNat - 48)) / 10) := toN (by omega)
        have f2 : b = UInt8.ofNat (48 + (10 * (a.toNat - 48) + (b.toNat - 48)) % 10) := toN (by omega)
        have f3 : ¬ (10 * (a.toNat - 48) + (b.toNat - 48) < 10) := by omega
        rw [e0, e1, e2, show c = 35 from toN h35]
        simp only [textN, numN, decN, if_neg f3]
        rw [← f1, ← f2]; rfl
      · simp at h
    rename_i h35
    split at h
    · rename_i h92
      simp only [pFn, Option.bind_eq_some_iff, Prod.exists, Option.some.injEq, Prod.mk.injEq] at h
      obtain ⟨a, r1, ha, b, r2, hb, rfl, rfl⟩ := h
      have e1 := name1_text ha; have e2 := ih _ _ _ hb
      rw [e0, e1, e2, show c = 92 from toN h92]; simp [textN]
    rename_i h92
    split at h
    · rename_i h64
      simp only [pFix, Option.bind_eq_some_iff, Prod.exists] at h
      obtain ⟨a, r1, ha, b, r2, hb, h⟩ := h
      split at h
      · simp at h
      · simp only [Option.bind_eq_some_iff, Prod.exists, Option.some.injEq, Prod.mk.injEq] at h
        obtain ⟨c2, r3, hc, rfl, rfl⟩ := h
        have e1 := name1_text ha; have e2 := name1_text hb; have e3 := ih _ _ _ hc
        rw [e0, e1, e2, e3, show c = 64 from toN h64]; simp [textN]
    rename_i h64
    split at h
    · rename_i h40
      simp only [pApp, Option.bind_eq_some_iff, Prod.exists] at h
      obtain ⟨a, r1, ha, b, r2, hb, z, r3, hz, h⟩ := h
      split at h
      · rename_i h41
        simp only [Option.some.injEq, Prod.mk.injEq] at h
        obtain ⟨rfl, rfl⟩ := h
        have e1 := ih _ _ _ ha; have e2 := ih _ _ _ hb; have e3 := next1_text hz
        rw [e0, e1, e2, e3, show c = 40 from toN h40, show z = 41 from toN h41]; simp [textN]
      · simp at h
    rename_i h40
    split at h
    · rename_i h61
      simp only [pBind, Option.bind_eq_some_iff, Prod.exists, Option.some.injEq, Prod.mk.injEq] at h
      obtain ⟨a, r1, ha, b, r2, hb, c2, r3, hc, rfl, rfl⟩ := h
      have e1 := name1_text ha; have e2 := ih _ _ _ hb; have e3 := ih _ _ _ hc
      rw [e0, e1, e2, e3, show c = 61 from toN h61]; simp [textN]
    rename_i h61
    split at h
    · rename_i ho
      simp only [pOp, Option.bind_eq_some_iff, Prod.exists, Option.some.injEq, Prod.mk.injEq] at h
      obtain ⟨a, r1, ha, b, r2, hb, rfl, rfl⟩ := h
      have e1 := ih _ _ _ ha; have e2 := ih _ _ _ hb
      rw [e0, e1, e2]; simp [textN]
    rename_i ho
    split at h
    · rename_i h63
      simp only [pSel, Option.bind_eq_some_iff, Prod.exists, Option.some.injEq, Prod.mk.injEq] at h
      obtain ⟨a, r1, ha, b, r2, hb, c2, r3, hc, rfl, rfl⟩ := h
      have e1 := ih _ _ _ ha; have e2 := ih _ _ _ hb; have e3 := ih _ _ _ hc
      rw [e0, e1, e2, e3, show c = 63 from toN h63]; simp [textN]
    rename_i h63
    split at h
    · rename_i hd
      simp only [Option.some.injEq, Prod.mk.injEq] at h
      obtain ⟨rfl, rfl⟩ := h
      have g1 : 48 ≤ c.toNat ∧ c.toNat ≤ 57 := by simpa [isDig] using hd
      have f1 : c = UInt8.ofNat (48 + (c.toNat - 48)) := toN (by omega)
      have f3 : c.toNat - 48 < 10 := by omega
      rw [e0]
      simp only [textN, numN, decN, if_pos f3]
      rw [← f1]; rfl
    rename_i hd
    split at h
    · rename_i hn
      simp only [Option.some.injEq, Prod.mk.injEq] at h
      obtain ⟨rfl, rfl⟩ := h
      rw [e0]; rfl
    · simp at h
theorem readS_text {s : Text} {T : Tm} (h : readS s = some T) : textN T = s := by
  have := parse_text _ _ _ _ (read24 h)
  simpa using this.symm
theorem name1_nam1 {c : UInt8} (h : isNam c = true) (s : Text) : name1 (c :: s) = some (c, s) := by simp [name1, h]
theorem dig_toN {d : Nat} (h : d < 10) : (UInt8.ofNat (48 + d)).toNat = 48 + d := by simp; omega
theorem dig_is {d : Nat} (h : d < 10) : isDig (UInt8.ofNat (48 + d)) = true := by unfold isDig; rw [dig_toN h]; simp; omega
theorem text_parse (t : Tm) : t.good → ∀ (k : Nat) (r : Text), t.depth ≤ k → parse k (textN t ++ r) = some (t, r) := by
  induction t with
  | num n =>
    intro hg k r hk
    obtain ⟨k, rfl⟩ : ∃ j, k = j + 1 := ⟨k - 1, by simp only [Tm.depth] at hk; omega⟩
    have hn : n ≤ 99 := hg
    by_cases h10 : n < 10
    · simp only [textN, numN, decN, if_pos h10, List.cons_append, List.nil_append]
      rw [parse_succ]
      have e := dig_toN h10
      unfold pBehind
      rw [if_neg (by omega), if_neg (by omega), if_neg (by omega), if_neg (by omega), if_neg (by omega), if_neg (by omega), if_neg (by omega), if_pos (dig_is h10), e]
      simp
    · simp only [textN, numN, decN, if_neg h10, List.cons_append, List.nil_append]
      rw [parse_succ]
      have e1 := dig_toN (show n / 10 < 10 by omega)
      have e2 := dig_toN (show n % 10 < 10 by omega)
      unfold pBehind
      rw [if_pos (by decide)]
      simp only [pLong, next1, Option.bind_some, e1, e2]
      rw [if_pos ⟨dig_is (by omega), dig_is (by omega), by omega⟩]
      congr 3
      omega
  | var c =>
    intro hg k r hk
    obtain ⟨k, rfl⟩ : ∃ j, k = j + 1 := ⟨k - 1, by simp only [Tm.depth] at hk; omega⟩
    exact (parse_succ _ _ _).trans (behind_nam _ _ _ hg)
  | fn c b ih =>
    intro hg k r hk
    simp only [Tm.depth] at hk
    obtain ⟨k, rfl⟩ : ∃ j, k = j + 1 := ⟨k - 1, by omega⟩
    simp only [textN, List.cons_append]
    rw [parse_succ]
    unfold pBehind
    rw [if_neg (by decide), if_pos (by decide)]
    simp only [pFn, name1_nam1 hg.1, Option.bind_some, ih hg.2 k r (by omega)]
  | fix f c b ih =>
    intro hg k r hk
    simp only [Tm.depth] at hk
    obtain ⟨k, rfl⟩ : ∃ j, k = j + 1 := ⟨k - 1, by omega⟩
    simp only [textN, List.cons_append]
    rw [parse_succ]
    unfold pBehind
    rw [if_neg (by decide), if_neg (by decide), if_pos (by decide)]
    simp only [pFix, name1_nam1 hg.1, name1_nam1 hg.2.1, Option.bind_some, if_neg hg.2.2.1, ih hg.2.2.2 k r (by omega)]
  | app f a h1 h2 =>
    intro hg k r hk
    simp only [Tm.depth] at hk
    obtain ⟨k, rfl⟩ : ∃ j, k = j + 1 := ⟨k - 1, by omega⟩
    simp only [textN, List.cons_append, List.append_assoc]
    rw [parse_succ]
    unfold pBehind
    rw [if_neg (by decide), if_neg (by decide), if_neg (by decide), if_pos (by decide)]
    simp only [pApp, h1 hg.1 k _ (show f.depth ≤ k by omega), Option.bind_some, h2 hg.2 k _ (show a.depth ≤ k by omega)]
    rfl
  | bind c v b h1 h2 =>
    intro hg k r hk
    simp only [Tm.depth] at hk
    obtain ⟨k, rfl⟩ : ∃ j, k = j + 1 := ⟨k - 1, by omega⟩
    simp only [textN, List.cons_append, List.append_assoc]
    rw [parse_succ]
    unfold pBehind
    rw [if_neg (by decide), if_neg (by decide), if_neg (by decide), if_neg (by decide), if_pos (by decide)]
    simp only [pBind, name1_nam1 hg.1, h1 hg.2.1 k _ (show v.depth ≤ k by omega), Option.bind_some, h2 hg.2.2 k _ (show b.depth ≤ k by omega)]
  | op s l r' h1 h2 =>
    intro hg k r hk
    simp only [Tm.depth] at hk
    obtain ⟨k, rfl⟩ : ∃ j, k = j + 1 := ⟨k - 1, by omega⟩
    simp only [textN, List.cons_append, List.append_assoc]
    rw [parse_succ]
    have hs : (s.toNat = 43 ∨ s.toNat = 45 ∨ s.toNat = 42) := by rcases hg.1 with h | h | h <;> subst h <;> decide
    unfold pBehind
    rw [if_neg (by omega), if_neg (by omega), if_neg (by omega), if_neg (by omega), if_neg (by omega), if_pos hs]
    simp only [pOp, h1 hg.2.1 k _ (show l.depth ≤ k by omega), Option.bind_some, h2 hg.2.2 k _ (show r'.depth ≤ k by omega)]
  | sel a b c h1 h2 h3 =>
    intro hg k r hk
    simp only [Tm.depth] at hk
    obtain ⟨k, rfl⟩ : ∃ j, k = j + 1 := ⟨k - 1, by omega⟩
    simp only [textN, List.cons_append, List.append_assoc]
    rw [parse_succ]
    unfold pBehind
    rw [if_neg (by decide), if_neg (by decide), if_neg (by decide), if_neg (by decide), if_neg (by decide), if_neg (by decide), if_pos (by decide)]
    simp only [pSel, h1 hg.1 k _ (show a.depth ≤ k by omega), Option.bind_some, h2 hg.2.1 k _ (show b.depth ≤ k by omega), h3 hg.2.2 k _ (show c.depth ≤ k by omega)]
theorem text_readS {t : Tm} (hg : t.good) (hd : t.depth ≤ 24) (hl : (textN t).length ≤ 120) : readS (textN t) = some t := by
  have := text_parse t hg 24 [] hd
  rw [List.append_nil] at this
  exact readS_of this (Nat.le_refl _) hl
end Go.Proofs.YtjfhncfbejephaaGreatDoor
