/- The specification's lists of texts: what they share. -/
import Derived.Test.YtppllaonbihflaaTxD
import Derived.Test.YtppllaonbihflaaLst
import Derived.Test.YtppllaonbihflaaSize
import Derived.ArgAppend
namespace Go.Proofs.Ytppllaonbihflaa
open Go.RowKit
open Ff
set_option linter.unusedVariables false

theorem Try.infoStr : (Try.prog.info? 9).map (fun i => (i.zero, i.size, i.bytes)) = some (some (.string ⟨#[]⟩), 1, 16) := by kernel_rfl
theorem parts_goodL {t s : Tm} (h : t.good) (hs : s ∈ parts t) : s.good := by
  induction t with
  | num n => simp only [parts, List.mem_singleton] at hs; subst hs; exact h
  | var c => simp only [parts, List.mem_singleton] at hs; subst hs; exact h
  | fn c b ih => simp only [parts, List.mem_cons] at hs; rcases hs with rfl | hs; exact h; exact ih h.2 hs
  | fix f c b ih => simp only [parts, List.mem_cons] at hs; rcases hs with rfl | hs; exact h; exact ih h.2.2.2 hs
  | app f a h1 h2 => simp only [parts, List.mem_cons, List.mem_append] at hs; rcases hs with rfl | hs | hs; exact h; exact h1 h.1 hs; exact h2 h.2 hs
  | bind c f a h1 h2 => simp only [parts, List.mem_cons, List.mem_append] at hs; rcases hs with rfl | hs | hs; exact h; exact h1 h.2.1 hs; exact h2 h.2.2 hs
  | op c f a h1 h2 => simp only [parts, List.mem_cons, List.mem_append] at hs; rcases hs with rfl | hs | hs; exact h; exact h1 h.2.1 hs; exact h2 h.2.2 hs
  | sel a b c h1 h2 h3 => simp only [parts, List.mem_cons, List.mem_append] at hs; rcases hs with rfl | hs | hs | hs; exact h; exact h1 h.1 hs; exact h2 h.2.1 hs; exact h3 h.2.2 hs
theorem parts_sub {t s : Tm} (hs : s ∈ parts t) : s.depth ≤ t.depth ∧ (parts s).length ≤ (parts t).length := by
  induction t with
  | num n => simp only [parts, List.mem_singleton] at hs; subst hs; exact ⟨Nat.le_refl _, Nat.le_refl _⟩
  | var c => simp only [parts, List.mem_singleton] at hs; subst hs; exact ⟨Nat.le_refl _, Nat.le_refl _⟩
  | fn c b ih => simp only [parts, List.mem_cons] at hs; rcases hs with rfl | hs; exact ⟨Nat.le_refl _, Nat.le_refl _⟩; have := ih hs; simp only [Tm.depth, parts, List.length_cons]; omega
  | fix f c b ih => simp only [parts, List.mem_cons] at hs; rcases hs with rfl | hs; exact ⟨Nat.le_refl _, Nat.le_refl _⟩; have := ih hs; simp only [Tm.depth, parts, List.length_cons]; omega
  | app f a h1 h2 => simp only [parts, List.mem_cons, List.mem_append] at hs; rcases hs with rfl | hs | hs; exact ⟨Nat.le_refl _, Nat.le_refl _⟩; all_goals (first | have := h1 hs | have := h2 hs); simp only [Tm.depth, parts, List.length_cons, List.length_append]; omega
  | bind c f a h1 h2 => simp only [parts, List.mem_cons, List.mem_append] at hs; rcases hs with rfl | hs | hs; exact ⟨Nat.le_refl _, Nat.le_refl _⟩; all_goals (first | have := h1 hs | have := h2 hs); simp only [Tm.depth, parts, List.length_cons, List.length_append]; omega
  | op c f a h1 h2 => simp only [parts, List.mem_cons, List.mem_append] at hs; rcases hs with rfl | hs | hs; exact ⟨Nat.le_refl _, Nat.le_refl _⟩; all_goals (first | have := h1 hs | have := h2 hs); simp only [Tm.depth, parts, List.length_cons, List.length_append]; omega
  | sel a b c h1 h2 h3 => simp only [parts, List.mem_cons, List.mem_append] at hs; rcases hs with rfl | hs | hs | hs; exact ⟨Nat.le_refl _, Nat.le_refl _⟩; all_goals (first | have := h1 hs | have := h2 hs | have := h3 hs); simp only [Tm.depth, parts, List.length_cons, List.length_append]; omega
theorem isFun_kind {p : Tm} (h : p.good) : isFun p = true ↔ ((kindOf p : Int) = 92 ∨ (kindOf p : Int) = 64) := by
  cases p with
  | op s l r => rcases h.1 with h | h | h <;> subst h <;> simp [isFun, kindOf]
  | _ => simp [isFun, kindOf]
/-- The list that is being made: none yet, in the block i0; or one of its own, beyond w3. -/
def Out (i0 : Nat) (w3 wr : World) (v : Value) (l : List Text) : Prop := (l = [] ∧ v = .slice (some ⟨i0, 0, none⟩) 0 0) ∨ (l ≠ [] ∧ Strs wr w3.heap.size v l)
theorem strs_empty {W : World} {b base : Nat} (h : W.heap[b]? = some (.cells #[] 9 (0, 0))) (hb : base ≤ b := by exact Nat.le_refl _) : Strs W base (.slice (some ⟨b, 0, none⟩) 0 0) [] :=
  ⟨by simp, .inr ⟨b, 0, #[], rfl, hb, h, Nat.le_refl _, by simp [maxLen], by simp, by simp⟩⟩
theorem Strs.base {W : World} {base base' : Nat} {v : Value} {l : List Text} (h : Strs W base v l) (hb : base' ≤ base) : Strs W base' v l := by
  refine ⟨h.1, ?_⟩
  rcases h.2 with h2 | ⟨g, cap, cur, hv, h2, rest⟩
  · exact .inl h2
  · exact .inr ⟨g, cap, cur, hv, Nat.le_trans hb h2, rest⟩
theorem Strs.below {W W' : World} {base n : Nat} {v : Value} {l : List Text} (h : Strs W base v l) (hb : Below n W W') (hn : W.heap.size ≤ n) : Strs W' base v l := by
  refine World.ownsRow.kept (row := none) h ⟨hb.os, hb.tape, hb.output, hb.size, fun j hj _ => hb.block j (by omega)⟩ ?_
  rcases h.2 with ⟨rfl, _⟩ | ⟨g, cap, cur, rfl, _⟩
  · exact .inl rfl
  · exact .inr (by simp [Value.ownBlock])
theorem Out.below {i0 : Nat} {w3 W W' : World} {v : Value} {l : List Text} (h : Out i0 w3 W v l) (hb : Below W.heap.size W W') : Out i0 w3 W' v l := by
  rcases h with h | ⟨h1, h2⟩
  · exact .inl h
  · exact .inr ⟨h1, h2.below hb (Nat.le_refl _)⟩
theorem Out.strs {i0 base : Nat} {w3 W : World} {v : Value} {l : List Text} (h : Out i0 w3 W v l) (hz : i0 + 1 ≤ w3.heap.size) (hb : Below w3.heap.size w3 W) (hi : w3.heap[i0]? = some (.cells #[] 9 (0, 0))) (hbase : base ≤ i0 := by exact Nat.le_refl _) : Strs W base v l := by
  rcases h with ⟨rfl, rfl⟩ | ⟨h1, h2⟩
  · exact strs_empty ((hb.block i0 (by omega)).trans hi) hbase
  · exact h2.base (by omega)
theorem belowG {B : Nat} {W W' : World} {row : Option Nat} (h : W.grownBy W' row) (hB : B ≤ W.heap.size) (hr : ∀ j, row = some j → B ≤ j) : Below B W W' := (Below.refl B W).grown h hB hr
/-- One more text at the end of the list that is being made. -/
theorem wpList_append_out {w : World} {ops : Array Oper} {rest : List Oper} {o : Oper} {a : Act} {Q : Exit → Act → World → Prop} {i0 : Nat} {w3 : World} {v : Value} {l : List Text} {t : Text} {i : TypeInfo}
    (hg : o.guard = none) (s x : Operand) (hop : o.op = Op.call { callee := Callee.builtin Builtin.append, args := #[s, x], argTypes := #[28, 28] })
    (hi : Try.prog.info? 9 = some i) (hz0 : i.zero = some (.string ⟨#[]⟩)) (hz1 : i.size = 1) (hz2 : i.bytes = 16) (hs : a.eval s = v) (hout : Out i0 w3 w v l) (ad : Addr) (hx : a.eval x = .slice (some ad) 1 1) (hc : ∀ j u, [sv t][j]? = some u → w.cell? (ad.add j) = some u) (hsz : w3.heap.size ≤ w.heap.size) (hl : l.length ≤ 1000000)
    (hK : ∀ v' w', Out i0 w3 w' v' (l ++ [t]) → Below w3.heap.size w w' → wpList Try.prog ops Q rest (a.put o.dst v') w') : wpList Try.prog ops Q (o :: rest) a w := by
  rcases hout with ⟨rfl, rfl⟩ | ⟨h1, h2⟩
  · refine wpList_append_grows w hg s x _ hop 9 i _ 1 16 Try.underlying28 hi hz0 hz1 hz2 rfl (by decide) (some ⟨i0, 0, none⟩) 0 0 [] hs (by simp) rfl (by simp) ad 1 1 [sv t] hx rfl hc (by simp [Value.oneCell']) (by decide) (by decide) (by decide) ?_
    intro v' w' hown hgr
    refine hK v' w' (.inr ⟨by simp, ?_⟩) (belowG hgr hsz (fun j hj => by cases hj))
    exact Strs.base (l := [t]) hown hsz
  · refine wpList_append_own_at w hg s x _ hop w3.heap.size 9 i _ 1 16 Try.underlying28 hi hz0 hz1 hz2 rfl (by decide) v l.length (l.map sv) hs h2 ad 1 1 [sv t] hx rfl hc (by simp [Value.oneCell']) (by unfold maxLen; omega) (by omega) hsz ?_
    intro v' w' hown hgr _ _
    refine hK v' w' (.inr ⟨by simp, ?_⟩) (belowG hgr hsz (fun j hj => (World.ownsRow.lt h2 j hj).1))
    have h := hown
    unfold Strs
    rw [List.length_append, List.map_append]
    exact h
/-- The lists that are told. -/
def partsT (l : List Tm) : List Text := l.map textN
def funsT (l : List Tm) : List Text := (l.filter isFun).map textN
def capsT (l : List Tm) : List Text := (l.filter isFun).map sfree
theorem partsT_snoc (l : List Tm) (p : Tm) : partsT (l ++ [p]) = partsT l ++ [textN p] := by simp [partsT]
theorem funsT_snoc {l : List Tm} {p : Tm} (h : isFun p = true) : funsT (l ++ [p]) = funsT l ++ [textN p] := by simp [funsT, h]
theorem funsT_skip {l : List Tm} {p : Tm} (h : isFun p = false) : funsT (l ++ [p]) = funsT l := by simp [funsT, h]
theorem capsT_snoc {l : List Tm} {p : Tm} (h : isFun p = true) : capsT (l ++ [p]) = capsT l ++ [sfree p] := by simp [capsT, h]
theorem capsT_skip {l : List Tm} {p : Tm} (h : isFun p = false) : capsT (l ++ [p]) = capsT l := by simp [capsT, h]
def partsO (o : Option Tm) : List Text := match o with | some t => partsT (parts t) | none => []
def funsO (o : Option Tm) : List Text := match o with | some t => funsT (parts t) | none => []
def capsO (o : Option Tm) : List Text := match o with | some t => capsT (parts t) | none => []
end Go.Proofs.Ytppllaonbihflaa
