import Derived.OrdersHeld
import Derived.Deep.RegionHeld
/- A region that draws its order: what is told of the world need not hold behind its last operation. -/
namespace Go.Proofs.YthjhpfcilaghgaaGreatDoor
open Go
set_option linter.unusedVariables false
/-- Each one waits for the one ahead of it. -/
def waits (md : Region.Mode) (ops : Array Oper) : Nat → List Nat → Bool
  | _, [] => true
  | x, y :: c => (match ops[y]? with | some o => o.after.any (fun e => Region.binds md e && e.on == x) | none => false) && waits md ops y c
section
variable {P : Program} {ops : Array Oper} {Q : Exit → Act → World → Prop} {md : Region.Mode} {S : World → Prop} {L : Nat}
/-- In whatever order: S holds as long as number L has not come up. -/
def AnyT (P : Program) (md : Region.Mode) (ops : Array Oper) (Q : Exit → Act → World → Prop) (S : World → Prop) (L : Nat) : Nat → Array Bool → Act → World → Prop
  | 0, l, a, w => Region.ready md ops l = [] ∧ Q .normal a w
  | n + 1, l, a, w => (Region.ready md ops l = [] → Q .normal a w) ∧
    ∀ i ∈ Region.ready md ops l, wpOp P ops Q i (fun a' w' => ((l.setIfInBounds i true).getD L true = false → S w') ∧ AnyT P md ops Q S L n (l.setIfInBounds i true) a' w') a w
theorem AnyT.any : ∀ (n : Nat) (l : Array Bool) (a : Act) (w : World), AnyT P md ops Q S L n l a w → wpAny P md ops Q n l a w
  | 0, _, _, _, h => h
  | n + 1, _, _, _, h => ⟨h.1, fun i hi => wpOp_mono (fun a' w' q => AnyT.any n _ a' w' q.2) (h.2 i hi)⟩
theorem not_listed {l : Array Bool} {x : Nat} (h : l.getD x true = false) (h2 : l.getD x false = true) : False := by
  rcases Nat.lt_or_ge x l.size with q | q
  · simp [q] at h h2; rw [h] at h2; cases h2
  · simp [Array.getElem?_eq_none q] at h
/-- Who waits for one that has not come up has not either. -/
theorem waits_not {j : Nat} {l : Array Bool} (hj : j ∈ Region.ready md ops l) : ∀ (c : List Nat) (x : Nat), waits md ops x c = true → (∀ y ∈ x :: c, l.getD y true = false) → j ∉ c
  | [], _, _, _ => by simp
  | y :: c, x, h, hl => by
    simp only [waits, Bool.and_eq_true] at h
    have ih := waits_not hj c y h.2 (fun z hz => hl z (List.mem_cons_of_mem _ hz))
    intro hm
    rcases List.mem_cons.1 hm with rfl | hm
    · obtain ⟨_, o, ho, hall⟩ := mem_ready.1 hj
      have h1 := h.1
      rw [ho] at h1
      obtain ⟨e, he, hb⟩ := Array.any_eq_true'.1 h1
      rw [Bool.and_eq_true] at hb
      have hx : e.on = x := by simpa using hb.2
      have k1 := hall e he hb.1
      rw [hx] at k1
      exact not_listed (hl x (by simp)) k1
    · exact ih hm
theorem AnyT.first {i : Nat} {c : List Nat} {oi : Oper} {v : Value} (hi : ops[i]? = some oi) (hc : waits md ops i c = true) (hL : L ∈ c) (hsel : ∀ (j : Nat) (o : Oper) cs b, ops[j]? = some o → o.op ≠ .select cs b) (hQ : ∀ c a w, Q (.panic c) (a.put oi.dst v) w → Q (.panic c) a w) (n : Nat) :
    ∀ (l : Array Bool) (a : Act) (w : World), (∀ y ∈ i :: c, l.getD y true = false) → (∀ j oj, ops[j]? = some oj → j ≠ i → l.getD j true = false → (∀ e ∈ oj.after, Region.binds md e = true → e.on ≠ i) → oi.apart ops oj = true) →
      i ∈ Region.ready md ops l → YieldsIf P ops S oi v a → S w → AnyT P md ops Q S L n (l.setIfInBounds i true) (a.put oi.dst v) w → AnyT P md ops Q S L (n + 1) l a w := by
  induction n with
  | zero =>
    intro l a w hun hap hr hy hS H
    refine ⟨fun e => (by rw [e] at hr; cases hr), fun j hj => ?_⟩
    by_cases e : j = i
    · subst e; exact hy.wpOp hi hS ⟨fun _ => hS, H⟩
    · have hm := ready_mono hj e
      rw [H.1] at hm
      cases hm
  | succ n ih =>
    intro l a w hun hap hr hy hS H
    refine ⟨fun e => (by rw [e] at hr; cases hr), fun j hj => ?_⟩
    by_cases e : j = i
    · subst e; exact hy.wpOp hi hS ⟨fun _ => hS, H⟩
    · obtain ⟨huj, oj, hoj, hall⟩ := mem_ready.1 hj
      have hjc := waits_not hj c i hc hun
      have hfar : ∀ y ∈ i :: c, (l.setIfInBounds j true).getD y true = false := fun y hy => by
        have hne : j ≠ y := by
          rintro rfl
          rcases List.mem_cons.1 hy with q | q
          · exact e q
          · exact hjc q
        rw [getD_set_ne true hne]; exact hun y hy
      have hnot : ∀ x ∈ oj.after, Region.binds md x = true → x.on ≠ i := fun x hx hb hxi => by
        have k1 := hall x hx hb
        rw [hxi] at k1
        exact not_listed (hun i (by simp)) k1
      have hstep := wpOp_putIf hoj (hap j oj hoj e huj hnot) (fun cs b => hsel i oi cs b hi) (fun cs b => hsel j oj cs b hoj) hQ hy (H.2 j (ready_mono hj e))
      have hir := ready_mono hr (Ne.symm e)
      refine wpOp_mono (fun a' w' q => ?_) hstep
      obtain ⟨q1, q2, q3⟩ := q
      have hLi : i ≠ L := by
        rintro rfl
        exact absurd rfl (fun (_ : i = i) => by
          have := waits_not hr c i hc hun
          exact this hL)
      have hS2 : S w' := q2 (by
        have h1 := hfar L (List.mem_cons_of_mem _ hL)
        rw [Array.setIfInBounds_comm _ _ (Ne.symm e), getD_set_ne true hLi]; exact h1)
      refine ⟨fun _ => hS2, ih _ a' w' hfar (fun k ok hk hki hku hkn => hap k ok hk hki (by
        by_cases ejk : j = k
        · subst ejk; exact huj
        · rw [getD_set_ne true ejk] at hku; exact hku) hkn) hir q1 hS2 (by rw [Array.setIfInBounds_comm _ _ e]; exact q3)⟩
/-- Number i is taken first. -/
theorem AnyT.take {i : Nat} (c : List Nat) {oi : Oper} {v : Value} {n : Nat} {l : Array Bool} {a : Act} {w : World} (hi : ops[i]? = some oi) (hc : (waits md ops i c && c.contains L && (i :: c).all (fun y => !(l.getD y true))) = true)
    (hs : Region.noSelect ops = true) (hf : Region.free md ops l i = true) (hr : (Region.ready md ops l).contains i = true) (hQ : ∀ c a w, Q (.panic c) (a.put oi.dst v) w → Q (.panic c) a w) (hy : YieldsIf P ops S oi v a) (hS : S w)
    (h : AnyT P md ops Q S L n (l.setIfInBounds i true) (a.put oi.dst v) w) : AnyT P md ops Q S L (n + 1) l a w := by
  rw [Bool.and_eq_true, Bool.and_eq_true] at hc
  exact AnyT.first hi hc.1.1 (by simpa using hc.1.2) (Region.noSelect_spec hs) hQ n l a w (fun y hy => by have := List.all_eq_true.1 hc.2 y hy; simpa using this) (Region.free_spec hi hf) (by simpa using hr) hy hS h
/-- One alone may come up now. -/
theorem AnyT.one {i : Nat} {n : Nat} {o : Oper} {l : Array Bool} {a : Act} {w : World} (hr : Region.ready md ops l = [i]) (ho : ops[i]? = some o)
    (h : ∀ K : Act → World → Prop, Shut (∀ a w, ((l.setIfInBounds i true).getD L true = false → S w) → AnyT P md ops Q S L n (l.setIfInBounds i true) a w → K a w) → if Region.wanted o (yielded ops a.tmps) = true then Oper.wp P o a w K Q else K (a.put o.dst undef) w) :
    AnyT P md ops Q S L (n + 1) l a w := by
  refine ⟨fun e => (by rw [hr] at e; cases e), fun j hj => ?_⟩
  rw [hr] at hj
  obtain rfl : j = i := by simpa using hj
  exact wpOp_step ho (fun K hK => h K (fun a w hS hW => hK a w ⟨hS, hW⟩))
theorem AnyT.done {l : Array Bool} {a : Act} {w : World} (hr : Region.ready md ops l = []) (h : Q .normal a w) : ∀ n, AnyT P md ops Q S L n l a w
  | 0 => ⟨hr, h⟩
  | _ + 1 => ⟨fun _ => h, by rw [hr]; simp⟩
theorem wp_region_T {id : Nat} {a : Act} {w : World} (L : Nat) (S : World → Prop) (hm : P.follows .mixedOrders = true) (hS : S w.drew) (h : S w.drew → AnyT P .any ops Q S L ops.size (Array.replicate ops.size false) a w.drew) : (Code.region id ops true).wp P Q a w :=
  wp_region_any hm (AnyT.any _ _ _ _ (h hS))
end
end Go.Proofs.YthjhpfcilaghgaaGreatDoor
