/- The program's text of a term: numbers, names, functions. -/
import Derived.Test.YtppllaonbihflaaBy
import Derived.Deep.RegionHeld3
namespace Go.Proofs.Ytppllaonbihflaa
open Go.RowKit
open Ff
set_option linter.unusedVariables false

/-- The text of a number up to 99. -/
def decN (n : Nat) : Text := if n < 10 then [UInt8.ofNat (48 + n)] else [UInt8.ofNat (48 + n / 10), UInt8.ofNat (48 + n % 10)]
def numN (n : Nat) : Text := if n < 10 then decN n else 35 :: decN n
/-- The text of a term. -/
def textN : Tm → Text
  | .num n => numN n
  | .var c => [c]
  | .fn c b => 92 :: c :: textN b
  | .fix f c b => 64 :: f :: c :: textN b
  | .app f a => 40 :: (textN f ++ textN a ++ [41])
  | .bind c v b => 61 :: c :: (textN v ++ textN b)
  | .op s l r => s :: (textN l ++ textN r)
  | .sel a b c => 63 :: (textN a ++ textN b ++ textN c)
theorem text_len (t : Tm) : (textN t).length ≤ 3 * (parts t).length := by
  induction t with
  | num n => simp only [textN, numN, decN, parts, List.length_cons, List.length_nil]; split <;> (try split) <;> simp
  | var c => simp [textN, parts]
  | fn c b ih => simp only [textN, parts, List.length_cons]; omega
  | fix f c b ih => simp only [textN, parts, List.length_cons]; omega
  | app f a h1 h2 => simp only [textN, parts, List.length_cons, List.length_append, List.length_nil]; omega
  | bind c f a h1 h2 => simp only [textN, parts, List.length_cons, List.length_append]; omega
  | op s f a h1 h2 => simp only [textN, parts, List.length_cons, List.length_append]; omega
  | sel a b c h1 h2 h3 => simp only [textN, parts, List.length_cons, List.length_append]; omega
/-- The method's function. -/
def tf : Tm → Nat
  | .num _ => 137 | .var _ => 157 | .fn _ _ => 153 | .fix _ _ _ => 153
  | .app _ _ => 160 | .bind _ _ _ => 155 | .op _ _ _ => 162 | .sel _ _ _ => 164
/-- The method's name, as the types' table has it. -/
def TextName (m : String) : Prop := (((Try.prog.info? 124).bind fun i => (i.methods[1]?).map (·.name)).getD "") = m
theorem text_m (t : Tm) (m : String) (hm : TextName m) (w : World) : (method (Try.prog.types.size + 100) (ty t) (pl t) m).run Try.prog w = .ok (tf t, pl t) w := by
  unfold TextName at hm
  subst hm
  cases t <;> kernel_rfl
theorem text_f (t : Tm) (w : World) : (callFunc (tf t) #[pl t]).run Try.prog w = .ok (.enter (tf t) #[pl t]) w := by
  cases t <;> kernel_rfl
/-- A method called through an interface, in a region whose order is drawn. -/
theorem wp_invoke_if {P : Program} {ops : Array Oper} {o : Oper} {a a2 : Act} {K : Act → World → Prop} {Q : Exit → Act → World → Prop} {X : Prop} {w : World} (hgd : Region.wanted o (yielded ops a2.tmps) = true) (r : Operand) (m : String) (t : TypeId) (v : Value)
    (ho : o.op = .call { callee := .invoke r m, args := #[], argTypes := #[] }) (hr : a.eval r = .iface t v) (f : FuncId) (hm : (method (P.types.size + 100) t v m).run P w = .ok (f, v) w)
    (hf : (callFunc f #[v]).run P w = .ok (.enter f #[v]) w) (S : Value → World → Prop) (hC : Calls P f #[v] w fun e w' => ∃ x, e = .returned x ∧ S x w')
    (h : ∀ x w', S x w' → K (a.put o.dst x) w') : if Region.wanted o (yielded ops a2.tmps) = true then Oper.wp P o a w K Q else X := by
  rw [if_pos hgd]
  unfold Oper.wp execOp
  simp only [ho, resolve, invoke, callMethod, Sem.run_bind, Sem.run_pure, Result.andThen_ok, List.map_toArray, List.map_nil, hr]
  simp [hm, hf, Sem.run_bind, go_sem]
  refine hC.mono ?_
  rintro e w' ⟨x, rfl, hS⟩
  exact h x w' hS
def TextC (n : Nat) : Prop := ∀ t : Tm, t.depth ≤ n → t.good → (parts t).length ≤ 1000000 → ∀ w, Calls Try.prog (tf t) #[pl t] w fun e w' => e = .returned (.string ⟨(textN t).toArray⟩) ∧ Below w.heap.size w w'
theorem conv_c {c : UInt8} (h : c ∈ letters ∨ c = 43 ∨ c = 45 ∨ c = 42) (w : World) : (convert 5 9 (.int .u8 (c.toNat : Int))).run Try.prog w = .ok (.string ⟨#[c]⟩) w := by
  simp only [letters, List.mem_cons, List.not_mem_nil, or_false] at h
  rcases h with (h | h | h | h | h | h | h | h | h | h | h | h | h | h | h | h) | h | h | h <;> subst h <;> kernel_rfl
/-- The digits of the numbers up to 99. -/
theorem small_lo : ∀ i : Fin 10, (⟨#[48, 49, 50, 51, 52, 53, 54, 55, 56, 57, 97, 98, 99, 100, 101, 102, 103, 104, 105, 106, 107, 108, 109, 110, 111, 112, 113, 114, 115, 116, 117, 118, 119, 120, 121, 122]⟩ : ByteArray).extract i.1 (i.1 + 1) = ⟨(decN i.1).toArray⟩ := by decide
set_option maxRecDepth 100000 in
theorem small_hi : ∀ i : Fin 100, 10 ≤ i.1 → (⟨#[48, 48, 48, 49, 48, 50, 48, 51, 48, 52, 48, 53, 48, 54, 48, 55, 48, 56, 48, 57, 49, 48, 49, 49, 49, 50, 49, 51, 49, 52, 49, 53, 49, 54, 49, 55, 49, 56, 49, 57, 50, 48, 50, 49, 50, 50, 50, 51, 50, 52, 50, 53, 50, 54, 50, 55, 50, 56, 50, 57, 51, 48, 51, 49, 51, 50, 51, 51, 51, 52, 51, 53, 51, 54, 51, 55, 51, 56, 51, 57, 52, 48, 52, 49, 52, 50, 52, 51, 52, 52, 52, 53, 52, 54, 52, 55, 52, 56, 52, 57, 53, 48, 53, 49, 53, 50, 53, 51, 53, 52, 53, 53, 53, 54, 53, 55, 53, 56, 53, 57, 54, 48, 54, 49, 54, 50, 54, 51, 54, 52, 54, 53, 54, 54, 54, 55, 54, 56, 54, 57, 55, 48, 55, 49, 55, 50, 55, 51, 55, 52, 55, 53, 55, 54, 55, 55, 55, 56, 55, 57, 56, 48, 56, 49, 56, 50, 56, 51, 56, 52, 56, 53, 56, 54, 56, 55, 56, 56, 56, 57, 57, 48, 57, 49, 57, 50, 57, 51, 57, 52, 57, 53, 57, 54, 57, 55, 57, 56, 57, 57]⟩ : ByteArray).extract (i.1 * 2) (i.1 * 2 + 2) = ⟨(decN i.1).toArray⟩ := by decide +kernel
set_option maxRecDepth 100000 in
set_option maxHeartbeats 1000000 in
theorem small_c (n : Nat) (hn : n < 100) (w : World) :
    Calls Try.prog 141 #[.int .i64 (n : Int)] w fun e w' => e = .returned (.string ⟨(decN n).toArray⟩) ∧ w' = w := by
  by_cases h : n < 10
  · have h1 := small_lo ⟨n, h⟩
    simp only [] at h1
    go_enter Try.func141, Try.ntmps141
    go_wp2_with fail
    go_ret
    exact ⟨rfl, rfl⟩
  · go_enter Try.func141, Try.ntmps141
    go_wp2_with fail
    go_ret
    exact ⟨congrArg (fun s => Ending.returned (Value.string s)) (small_hi ⟨n, hn⟩ (show 10 ≤ n by omega)), rfl⟩
set_option maxHeartbeats 1000000 in
theorem itoa_c (n : Nat) (hn : n < 100) (w : World) :
    Calls Try.prog 138 #[.int .i64 (n : Int)] w fun e w' => e = .returned (.string ⟨(decN n).toArray⟩) ∧ w' = w := by
  have h1 : Calls Try.prog 140 #[.int .i64 (n : Int), .int .i64 10] w fun e w' => e = .returned (.string ⟨(decN n).toArray⟩) ∧ w' = w := by
    have h0 : (0 : Int) ≤ n := by omega
    have h2 : (n : Int) < 100 := by omega
    go_enter Try.func140, Try.ntmps140
    go_wp2_with (go_at_call 141; refine (small_c n hn _).mono ?_; rintro e w2 ⟨rfl, rfl⟩)
    go_ret
    exact ⟨rfl, rfl⟩
  have h2 : Calls Try.prog 139 #[.int .i64 (n : Int)] w fun e w' => e = .returned (.string ⟨(decN n).toArray⟩) ∧ w' = w := by
    go_enter Try.func139, Try.ntmps139
    go_wp2_with (go_at_call 140; refine h1.mono ?_; rintro e w2 ⟨rfl, rfl⟩)
    go_ret
    exact ⟨rfl, rfl⟩
  go_enter Try.func138, Try.ntmps138
  go_wp2_with (go_at_call 139; refine h2.mono ?_; rintro e w2 ⟨rfl, rfl⟩)
  go_ret
  exact ⟨rfl, rfl⟩
theorem dec_len (n : Nat) : (decN n).length ≤ 2 := by unfold decN; split <;> simp
set_option maxHeartbeats 1000000 in
theorem text_num (n : Nat) (hn : n ≤ 99) (w : World) :
    Calls Try.prog 137 #[.agg #[.int .i64 (n : Int)]] w fun e w' => e = .returned (.string ⟨(numN n).toArray⟩) ∧ Below w.heap.size w w' := by
  have hl := dec_len n
  have C := fun w' => itoa_c n (by omega) w'
  by_cases h : n < 10
  · have h2 : (n : Int) < 10 := by omega
    have e : numN n = decN n := by simp [numN, h]
    rw [e]
    clear e
    go_enter Try.func137, Try.ntmps137
    go_wp2_with (go_at_call 138; refine (C _).mono ?_; rintro e w2 ⟨rfl, rfl⟩)
    go_ret
    exact ⟨rfl, (Below.refl _ w).alloc (Nat.le_refl _) _⟩
  · have h2 : ¬ (n : Int) < 10 := by omega
    have e : numN n = 35 :: decN n := by simp [numN, h]
    rw [e]
    have z : ¬ 9223372036854775807 < 1 + (decN n).length := by omega
    clear e
    go_enter Try.func137, Try.ntmps137
    go_wp2_with (go_at_call 138; refine (C _).mono ?_; rintro e w2 ⟨rfl, rfl⟩)
    go_ret
    exact ⟨congrArg (fun s => Ending.returned (Value.string s)) (str_app2 [35] (decN n)), (Below.refl _ w).alloc (Nat.le_refl _) _⟩
set_option maxHeartbeats 1000000 in
theorem text_var (c : UInt8) (hc : c ∈ letters) (w : World) :
    Calls Try.prog 157 #[.agg #[bv c]] w fun e w' => e = .returned (.string ⟨#[c]⟩) ∧ Below w.heap.size w w' := by
  have hv := fun w' => conv_c (.inl hc) w'
  go_enter Try.func157, Try.ntmps157
  go_wp2_with fail
  go_ret
  exact ⟨rfl, (Below.refl _ w).alloc (Nat.le_refl _) _⟩
end Go.Proofs.Ytppllaonbihflaa
