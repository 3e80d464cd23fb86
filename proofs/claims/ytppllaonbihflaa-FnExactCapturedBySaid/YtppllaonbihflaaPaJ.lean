/- The program's lists over the parts of a term: what they share. -/
import Derived.Test.YtppllaonbihflaaPaS
import Derived.Test.YtppllaonbihflaaYg
import Derived.Test.YtppllaonbihflaaBdI
import Derived.Stop.RegionWithIn
import Derived.Maps.AppendAt
namespace Go.Proofs.Ytppllaonbihflaa
open Go.RowKit Go.Shelf
open Ff
set_option linter.unusedVariables false
attribute [local go_sem] Oper.semAt_some

/-- What a body that appends to a boxed row writes: the box, and the row that it holds. -/
def RowT (B : Nat) (W : World) (j : Nat) : Prop := j = B ∨ ∃ v, W.cell? ⟨B, 0, none⟩ = some v ∧ v.ownBlock = some j ∧ ¬ ∃ n x, W.cell? ⟨j, 0, none⟩ = some (.iface n x)
theorem told_row {B n₀ : Nat} (h : B < n₀) : Told2 n₀ (RowT B) := by
  refine ⟨fun X Y hn hb j hj => ?_, fun W g hg hi ht => ?_⟩
  · rcases hj with rfl | ⟨v, h1, h2, h3⟩
    · exact .inl (.inl rfl)
    · have hc : Y.cell? ⟨B, 0, none⟩ = X.cell? ⟨B, 0, none⟩ := hb.cell (p := ⟨B, 0, none⟩) (by simp; omega)
      by_cases hj : j < X.heap.size
      · refine .inl (.inr ⟨v, hc.symm.trans h1, h2, fun ⟨n, x, hx⟩ => h3 ⟨n, x, (hb.cell (p := ⟨j, 0, none⟩) hj).trans hx⟩⟩)
      · exact .inr (by omega)
  · rcases ht with rfl | ⟨v, _, _, h3⟩
    · omega
    · exact h3 hi
theorem rowT_putObj {B : Nat} (W : World) (l : Nat) (o o' : Obj) (hB : B < l) (h : W.heap[l]? = some o) (ho : o.isCells = false) : KeepT (RowT B) W (W.putObj l o') := by
  have hg := grownBy_putObj' W l o'
  have hcell : ∀ j, j ≠ l → (W.putObj l o').cell? ⟨j, 0, none⟩ = W.cell? ⟨j, 0, none⟩ := fun j hj => World.cell?_of_block (World.putObj_heap_other hj)
  refine ⟨hg.size, fun j oj hj hc _ => ?_, fun j hj => ?_⟩
  · refine (hg.block j (Array.getElem?_eq_some_iff.1 hj).1 (fun e => ?_)).trans hj
    injection e with e
    subst e
    rw [h] at hj
    injection hj with hj
    subst hj
    rw [ho] at hc
    cases hc
  · rcases hj with rfl | ⟨v, h1, h2, h3⟩
    · exact .inl (.inl rfl)
    · rw [hcell B (by omega)] at h1
      refine .inl (.inr ⟨v, h1, h2, ?_⟩)
      by_cases e : j = l
      · subst e
        rintro ⟨n, x, hx⟩
        obtain ⟨o2, ho2, hc2⟩ := cells_of_cell hx
        rw [h] at ho2
        injection ho2 with ho2
        subst ho2
        rw [ho] at hc2
        cases hc2
      · rw [hcell j e] at h3
        exact h3
/-- What a round that appends one text to the boxed row owes. -/
theorem row_step {W Wa w1 : World} {n₀ B : Nat} {v v' : Value} {l l' : List Text} {tmp : Obj} (hv : Boxed W B 28 v) (hrow : Strs W n₀ v l) (hnil : l = [] → v = .slice none 0 0) (hn₀ : n₀ ≤ B) (hBW : B < W.heap.size) (hWa : Below W.heap.size W Wa)
    (hown' : Strs w1 n₀ v' l') (hgrow : (Wa.alloc tmp).grownBy w1 v.ownBlock) (hwhere : v'.ownBlock = v.ownBlock ∨ v'.ownBlock = some (Wa.alloc tmp).heap.size) :
    Boxed w1 B 28 v ∧ Boxed (w1.setCell ⟨B, 0, none⟩ v') B 28 v' ∧ Strs (w1.setCell ⟨B, 0, none⟩ v') n₀ v' l' ∧ KeepsOthers W (w1.setCell ⟨B, 0, none⟩ v') ∧ Below n₀ W (w1.setCell ⟨B, 0, none⟩ v') ∧ KeepT (RowT B) W (w1.setCell ⟨B, 0, none⟩ v') := by
  have hva : Boxed Wa B 28 v := (hWa.block B hBW).trans hv
  have hra : Strs Wa n₀ v l := hrow.below hWa (Nat.le_refl _)
  have hsz := hWa.size
  obtain ⟨h1, h2, h3, h4, h5⟩ := Boxed.appended (tmp := tmp) hva (by decide) hra (by omega) hn₀ hown' hgrow
  refine ⟨h1, h2, h3, (KeepsOthers.of_grownBy (below_grown hWa) (fun j o e => by cases e)).trans h4, (Below.mono hWa (by omega)).trans h5, ?_⟩
  have hrowT : ∀ g, v.ownBlock = some g → RowT B W g := fun g hg => by
    refine .inr ⟨v, hv.cell, hg, ?_⟩
    rintro ⟨n, x, hx⟩
    cases l with
    | nil => rw [hnil rfl] at hg; cases hg
    | cons s r =>
      have hc := hrow.cells hg 0 (sv s) rfl
      rw [Addr.add_lit] at hc
      rw [hx] at hc
      cases hc
  have hblk : ∀ j, j < W.heap.size → j ≠ B → some j ≠ v.ownBlock → (w1.setCell ⟨B, 0, none⟩ v').heap[j]? = W.heap[j]? := fun j hj hjB hjv => by
    rw [Below.heap_setCell _ _ _ _ hjB, hgrow.block j (by simp; omega) hjv, Below.heap_alloc _ _ _ (by omega), hWa.block j hj]
  refine ⟨by have := h4.size; omega, fun j o hj hc ht => ?_, fun j hj => ?_⟩
  · refine (hblk j (Array.getElem?_eq_some_iff.1 hj).1 (fun e => ht (.inl e)) (fun e => ht (hrowT j e.symm))).trans hj
  · rcases hj with rfl | ⟨u, hu1, hu2, hu3⟩
    · exact .inl (.inl rfl)
    · rw [h2.cell] at hu1
      injection hu1 with hu1
      subst hu1
      rcases hwhere with e | e
      · rw [e] at hu2
        exact .inl (hrowT j hu2)
      · rw [e] at hu2
        injection hu2 with hu2
        subst hu2
        exact .inr (by simp; omega)

/-- A method called through an interface, in a round's region whose order is drawn. -/
theorem wpIn_invoke_if {P : Program} {l n : Nat} {ops : Array Oper} {o : Oper} {a a2 : Act} {K : Act → World → Prop} {Q : Exit → Act → World → Prop} {X : Prop} {w : World} (hgd : Region.wanted o (yielded ops a2.tmps) = true) (r : Operand) (m : String) (t : TypeId) (v : Value)
    (ho : o.op = .call { callee := .invoke r m, args := #[], argTypes := #[] }) (hr : a.eval r = .iface t v) (f : FuncId) (hm : (method (P.types.size + 100) t v m).run P w = .ok (f, v) w)
    (hf : (callFunc f #[v]).run P w = .ok (.enter f #[v]) w) (S : Value → World → Prop) (hC : Calls P f #[v] w fun e w' => ∃ x, e = .returned x ∧ S x w')
    (h : ∀ x w', S x w' → K (a.put o.dst x) w') : if Region.wanted o (yielded ops a2.tmps) = true then Oper.wpIn (Fence.wide.inRound l) n P o a w K Q else X := by
  rw [if_pos hgd]
  have hrun : (execOp a.eval o).run P w = .ok (.enter f #[v]) w := by
    unfold execOp
    simp only [ho, resolve, invoke, callMethod, Sem.run_bind, Sem.run_pure, Result.andThen_ok, List.map_toArray, List.map_nil, hr]
    simp [hm, hf, Sem.run_bind, go_sem]
  unfold Oper.wpIn
  refine ⟨fun _ _ => trivial, ?_⟩
  rw [Oper.semAt_plain (Fence.wide.inRound l) _ _ (by rw [ho]; intro c hc; cases hc), hrun, Oper.uponIn_enter]
  refine ⟨fun h => (by cases h), ?_⟩
  refine CallsIn.inRound l (callsIn_wide.2 (hC.mono ?_))
  rintro e w' ⟨x, rfl, hS⟩
  exact h x w' hS
/-- A call of a function, in a round's region whose order is drawn. -/
theorem wpIn_call_if {P : Program} {l n : Nat} {ops : Array Oper} {o : Oper} {a a2 : Act} {K : Act → World → Prop} {Q : Exit → Act → World → Prop} {X : Prop} {w : World} (hgd : Region.wanted o (yielded ops a2.tmps) = true) (f : FuncId) (x : Operand) (t : TypeId) (v : Value)
    (ho : o.op = .call { callee := .value (.func f), args := #[x], argTypes := #[t] }) (hr : a.eval x = v)
    (hf : ∀ args w, (callFunc f args).run P w = .ok (.enter f args) w) (S : Value → World → Prop) (hC : Calls P f #[v] w fun e w' => ∃ x, e = .returned x ∧ S x w')
    (h : ∀ x w', S x w' → K (a.put o.dst x) w') : if Region.wanted o (yielded ops a2.tmps) = true then Oper.wpIn (Fence.wide.inRound l) n P o a w K Q else X := by
  rw [if_pos hgd]
  have hrun : (execOp a.eval o).run P w = .ok (.enter f #[v]) w := by
    have key : ∀ ρ : Operand → Value, ρ (.func f) = .func (.func f) #[] #[] → ρ x = v → (execOp ρ o).run P w = .ok (.enter f #[v]) w := fun ρ h1 h2 => by
      simp [execOp, ho, resolve, invoke, Deferred.ofValue, h1, h2, hf]
    exact key a.eval rfl hr
  unfold Oper.wpIn
  refine ⟨fun _ _ => trivial, ?_⟩
  rw [Oper.semAt_plain (Fence.wide.inRound l) _ _ (by rw [ho]; intro c hc; cases hc), hrun, Oper.uponIn_enter]
  refine ⟨fun h => (by cases h), ?_⟩
  refine CallsIn.inRound l (callsIn_wide.2 (hC.mono ?_))
  rintro e w' ⟨x, rfl, hS⟩
  exact h x w' hS
/-- One more text at the end of the boxed row, in a round's region whose order is drawn. -/
theorem wpIn_append_if {l n : Nat} {ops : Array Oper} {o : Oper} {a a2 : Act} {K : Act → World → Prop} {Q : Exit → Act → World → Prop} {X : Prop} {w : World} {i : TypeInfo} {base : Nat} {v : Value} {ts : List Text} {t : Text} (hgd : Region.wanted o (yielded ops a2.tmps) = true)
    (s x : Operand) (hop : o.op = Op.call { callee := Callee.builtin Builtin.append, args := #[s, x], argTypes := #[28, 28] })
    (hi : Try.prog.info? 9 = some i) (hz0 : i.zero = some (.string ⟨#[]⟩)) (hz1 : i.size = 1) (hz2 : i.bytes = 16) (hs : a.eval s = v) (hrow : Strs w base v ts) (ad : Addr) (hx : a.eval x = .slice (some ad) 1 1) (hc : ∀ j u, [sv t][j]? = some u → w.cell? (ad.add j) = some u) (hsz : base ≤ w.heap.size) (hl : ts.length ≤ 1000000)
    (h : ∀ v' w', Strs w' base v' (ts ++ [t]) → w.grownBy w' v.ownBlock → (v'.ownBlock = v.ownBlock ∨ v'.ownBlock = some w.heap.size) → K (a.put o.dst v') w') : if Region.wanted o (yielded ops a2.tmps) = true then Oper.wpIn (Fence.wide.inRound l) n Try.prog o a w K Q else X := by
  rw [if_pos hgd]
  obtain ⟨v', w', hr, h2, h3, h4, h5⟩ := run_append_own_at (P := Try.prog) w base 28 o.type 9 i _ 1 16 Try.underlying28 hi hz0 hz1 hz2 rfl (by decide) v ts.length (ts.map sv) hrow ad 1 1 [sv t] rfl hc (by simp [Value.oneCell']) (by unfold maxLen; omega) (by omega) hsz
  unfold Oper.wpIn
  refine ⟨fun _ _ => trivial, ?_⟩
  rw [Oper.semAt_plain (Fence.wide.inRound l) _ _ (by rw [hop]; intro c hc; cases hc)]
  simp [execOp, hop, resolve, invoke, builtin, hs, hx, hr, Result.andThen]
  refine h v' w' ?_ h3 h5
  have k := h2
  unfold Strs
  rw [List.length_append, List.map_append]
  exact k
theorem strs_succ {W : World} {base : Nat} {v : Value} {l : List Text} {t : Text} (h : Strs W base v (l ++ [t])) : ∃ g cap, v = .slice (some ⟨g, 0, none⟩) (l.length + 1) cap := by
  unfold Strs at h
  rw [List.length_append] at h
  exact ownsRow_succ h
theorem partsT_len (l : List Tm) : (partsT l).length ≤ l.length := by simp [partsT]
theorem funsT_len (l : List Tm) : (funsT l).length ≤ l.length := by rw [funsT, List.length_map]; exact List.length_filter_le _ _
theorem capsT_len (l : List Tm) : (capsT l).length ≤ l.length := by rw [capsT, List.length_map]; exact List.length_filter_le _ _
end Go.Proofs.Ytppllaonbihflaa
