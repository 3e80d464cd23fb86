/- The program's text of a term: numbers, names, functions. -/
import Derived.Test.YtdedhejpbnfnaaaBy
import Derived.Deep.RegionHeld3
namespace Go.Proofs.Ytdedhejpbnfnaaa
open Go.RowKit
open Ff
set_option linter.unusedVariables false

/-- The text of a number up to 99. -/
def decN (n : Nat) : Text := if n < 10 then [UInt8.ofNat (48 + n)] else [UInt8.ofNat (48 + n / 10), UInt8.ofNat (48 + n % 10)]
def numN (n : Nat) : Text := if n < 10 then decN n else 35 :: decN n
/-- The text of a term. -/
def textN : Tm → Text
  | .num n => numN n
  | .var c => [c]
  | .fn c b => 92 :: c :: textN b
  | .fix f c b => 64 :: f :: c :: textN b
  | .app f a => 40 :: (textN f ++ textN a ++ [41])
  | .bind c v b => 61 :: c :: (textN v ++ textN b)
  | .op s l r => s :: (textN l ++ textN r)
  | .sel a b c => 63 :: (textN a ++ textN b ++ textN c)
theorem text_len (t : Tm) : (textN t).length ≤ 3 * (parts t).length := by
  induction t with
  | num n => simp only [textN, numN, decN, parts, List.length_cons, List.length_nil]; split <;> (try split) <;> simp
  | var c => simp [textN, parts]
  | fn c b ih => simp only [textN, parts, List.length_cons]; omega
  | fix f c b ih => simp only [textN, parts, List.length_cons]; omega
  | app f a h1 h2 => simp only [textN, parts, List.length_cons, List.length_append, List.length_nil]; omega
  | bind c f a h1 h2 => simp only [textN, parts, List.length_cons, List.length_append]; omega
  | op s f a h1 h2 => simp only [textN, parts, List.length_cons, List.length_append]; omega
  | sel a b c h1 h2 h3 => simp only [textN, parts, List.length_cons, List.length_append]; omega
/-- A method called through an interface, in a region whose order is drawn. -/
theorem wp_invoke_if {P : Program} {ops : Array Oper} {o : Oper} {a a2 : Act} {K : Act → World → Prop} {Q : Exit → Act → World → Prop} {X : Prop} {w : World} (hgd : Region.wanted o (yielded ops a2.tmps) = true) (r : Operand) (m : String) (t : TypeId) (v : Value)
    (ho : o.op = .call { callee := .invoke r m, args := #[], argTypes := #[] }) (hr : a.eval r = .iface t v) (f : FuncId) (hm : (method (P.types.size + 100) t v m).run P w = .ok (f, v) w)
    (hf : (callFunc f #[v]).run P w = .ok (.enter f #[v]) w) (S : Value → World → Prop) (hC : Calls P f #[v] w fun e w' => ∃ x, e = .returned x ∧ S x w')
    (h : ∀ x w', S x w' → K (a.put o.dst x) w') : if Region.wanted o (yielded ops a2.tmps) = true then Oper.wp P o a w K Q else X := by
  rw [if_pos hgd]
  unfold Oper.wp execOp
  simp only [ho, resolve, invoke, callMethod, Sem.run_bind, Sem.run_pure, Result.andThen_ok, List.map_toArray, List.map_nil, hr]
  simp [hm, hf, Sem.run_bind, go_sem]
  refine hC.mono ?_
  rintro e w' ⟨x, rfl, hS⟩
  exact h x w' hS
theorem conv_c {c : UInt8} (h : c ∈ letters ∨ c = 43 ∨ c = 45 ∨ c = 42) (w : World) : (convert 5 9 (.int .u8 (c.toNat : Int))).run Try.prog w = .ok (.string ⟨#[c]⟩) w := by
  simp only [letters, List.mem_cons, List.not_mem_nil, or_false] at h
  rcases h with (h | h | h | h | h | h | h | h | h | h | h | h | h | h | h | h) | h | h | h <;> subst h <;> kernel_rfl
/-- The digits of the numbers up to 99. -/
theorem small_lo : ∀ i : Fin 10, (⟨#[48, 49, 50, 51, 52, 53, 54, 55, 56, 57, 97, 98, 99, 100, 101, 102, 103, 104, 105, 106, 107, 108, 109, 110, 111, 112, 113, 114, 115, 116, 117, 118, 119, 120, 121, 122]⟩ : ByteArray).extract i.1 (i.1 + 1) = ⟨(decN i.1).toArray⟩ := by decide
set_option maxRecDepth 100000 in
theorem small_hi : ∀ i : Fin 100, 10 ≤ i.1 → (⟨#[48, 48, 48, 49, 48, 50, 48, 51, 48, 52, 48, 53, 48, 54, 48, 55, 48, 56, 48, 57, 49, 48, 49, 49, 49, 50, 49, 51, 49, 52, 49, 53, 49, 54, 49, 55, 49, 56, 49, 57, 50, 48, 50, 49, 50, 50, 50, 51, 50, 52, 50, 53, 50, 54, 50, 55, 50, 56, 50, 57, 51, 48, 51, 49, 51, 50, 51, 51, 51, 52, 51, 53, 51, 54, 51, 55, 51, 56, 51, 57, 52, 48, 52, 49, 52, 50, 52, 51, 52, 52, 52, 53, 52, 54, 52, 55, 52, 56, 52, 57, 53, 48, 53, 49, 53, 50, 53, 51, 53, 52, 53, 53, 53, 54, 53, 55, 53, 56, 53, 57, 54, 48, 54, 49, 54, 50, 54, 51, 54, 52, 54, 53, 54, 54, 54, 55, 54, 56, 54, 57, 55, 48, 55, 49, 55, 50, 55, 51, 55, 52, 55, 53, 55, 54, 55, 55, 55, 56, 55, 57, 56, 48, 56, 49, 56, 50, 56, 51, 56, 52, 56, 53, 56, 54, 56, 55, 56, 56, 56, 57, 57, 48, 57, 49, 57, 50, 57, 51, 57, 52, 57, 53, 57, 54, 57, 55, 57, 56, 57, 57]⟩ : ByteArray).extract (i.1 * 2) (i.1 * 2 + 2) = ⟨(decN i.1).toArray⟩ := by decide +kernel
theorem dec_len (n : Nat) : (decN n).length ≤ 2 := by unfold decN; split <;> simp
end Go.Proofs.Ytdedhejpbnfnaaa
