import Derived.OrdersHeld
import Derived.Deep.RegionHeld
import Derived.Test.YtjfhncfbejephaaGreatDoorMEa
/- A region that draws its order: what is told of the world need not hold behind its last operation. -/
namespace Go.Proofs.YtjfhncfbejephaaGreatDoor
open Go
set_option linter.unusedVariables false
/-- Each one waits for the one ahead of it. -/
def waits (md : Region.Mode) (ops : Array Oper) : Nat → List Nat → Bool
  | _, [] => true
  | x, y :: c => (match ops[y]? with | some o => o.after.any (fun e => Region.binds md e && e.on == x) | none => false) && waits md ops y c
section
variable {P : Program} {ops : Array Oper} {Q : Exit → Act → World → Prop} {md : Region.Mode} {S : World → Prop} {L : Nat}
/-- In whatever order: S holds as long as number L has not come up. -/
def AnyT (P : Program) (md : Region.Mode) (ops : Array Oper) (Q : Exit → Act → World → Prop) (S : World → Prop) (L : Nat) : Nat → Array Bool → Act → World → Prop
  | 0, l, a, w => Region.ready md ops l = [] ∧ Q .normal a w
  | n + 1, l, a, w => (Region.ready md ops l = [] → Q .normal a w) ∧
    ∀ i ∈ Region.ready md ops l, wpOp P ops Q i (fun a' w' => ((l.setIfInBounds i true).getD L true = false → S w') ∧ AnyT P md ops Q S L n (l.setIfInBounds i true) a' w') a w
theorem AnyT.any : ∀ (n : Nat) (l : Array Bool) (a : Act) (w : World), AnyT P md ops Q S L n l a w → wpAny P md ops Q n l a w
  | 0, _, _, _, h => h
  | n + 1, _, _, _, h => ⟨h.1, fun i hi => wpOp_mono (fun a' w' q => AnyT.any n _ a' w' q.2) (h.2 i hi)⟩
theorem not_listed {l : Array Bool} {x : Nat} (h : l.getD x true = false) (h2 : l.getD x false = true) : False := by
  rcases Nat.lt_or_ge x l.size with q | q
  · simp [q] at h h2; rw [h] at h2; cases h2
  · simp [Array.getElem?_eq_none q] at h
/-- Who waits for one that has not come up has not either. -/
theorem waits_not {j : Nat} {l : Array Bool} (hj : j ∈ Region.ready md ops l) : ∀ (c : List Nat) (x : Nat), waits md ops x c = true → (∀ y ∈ x :: c, l.getD y true = false) → j ∉ c
  | [], _, _, _ => by simp
  | y :: c, x, h, hl => by
    simp only [waits, Bool.and_eq_true] at h
    have ih := waits_not hj c y h.2 (fun z hz => hl z (List.mem_cons_of_mem _ hz))
    intro hm
    rcases List.mem_cons.1 hm with rfl | hm
    · obtain ⟨_, o, ho, hall⟩ := mem_ready.1 hj
      have h1 := h.1
      rw [ho] at h1
      obtain ⟨e, he, hb⟩ := Array.any_eq_true'.1 h1
      rw [Bool.and_eq_true] at hb
      have hx : e.on = x := by simpa using hb.2
      have k1 := hall e he hb.1
      rw [hx] at k1
      exact not_listed (hl x (by simp)) k1
    · exact ih hm
theorem AnyT.first {i : Nat} {c : List Nat} {oi : Oper} {v : Value} (hi : ops[i]? = some oi) (hc : waits md ops i c = true) (hL : L ∈ c) (hsel : ∀ (j : Nat) (o : Oper) cs b, ops[j]? = some o → o.op ≠ .select cs b) (hQ : ∀ c a w, Q (.panic c) (a.put oi.dst v) w → Q (.panic c) a w) (n : Nat) :
    ∀ (l : Array Bool) (a : Act) (w : World), (∀ y ∈ i :: c, l.getD y true = false) → (∀ j oj, ops[j]? = some oj → j ≠ i → l.getD j true = false → (∀ e ∈ oj.after, Region.binds md e = true → e.on ≠ i) → oi.apart ops oj = true) →
      i ∈ Region.ready md ops l → YieldsIf P ops S oi v a → S w → AnyT P md ops Q S L n (l.setIfInBounds i true) (a.put oi.dst v) w → AnyT P md ops Q S L (n + 1) l a w := by
  induction n with
  | zero =>
    intro l a w hun hap hr hy hS H
    refine ⟨fun e => (by rw [e] at hr; cases hr), fun j hj => ?_⟩
    by_cases e : j = i
    · subst e; exact hy.wpOp hi hS ⟨fun _ => hS, H⟩
    · have hm := ready_mono hj e
      rw [H.1] at hm
      cases hm
  | succ n ih =>
    intro l a w hun hap hr hy hS H
    refine ⟨fun e => (by rw [e] at hr; cases hr), fun j hj => ?_⟩
    by_cases e : j = i
    · subst e; exact hy.wpOp hi hS ⟨fun _ => hS, H⟩
    · obtain ⟨huj, oj, hoj, hall⟩ := mem_ready.1 hj
      have hjc := waits_not hj c i hc hun
      have hfar : ∀ y ∈ i :: c, (l.setIfInBounds j true).getD y true = false := fun y hy => by
        have hne : j ≠ y := by
          rintro rfl
          rcases List.mem_cons.1 hy with q | q
          · exact e q
          · exact hjc q
        rw [getD_set_ne true hne]; exact hun y hy
      have hnot : ∀ x ∈ oj.after, Region.binds md x = true → x.on ≠ i := fun x hx hb hxi => by
        have k1 := hall x hx hb
        rw [hxi] at k1
        exact not_listed (hun i (by simp)) k1
      have hstep := wpOp_putIf hoj (hap j oj hoj e huj hnot) (fun cs b => hsel i oi cs b hi) (fun cs b => hsel j oj cs b hoj) hQ hy (H.2 j (ready_mono hj e))
      have hir := ready_mono hr (Ne.symm e)
      refine wpOp_mono (fun a' w' q => ?_) hstep
      obtain ⟨q1, q2, q3⟩ := q
      have hLi : i ≠ L := by
        rintro rfl
        exact absurd rfl (fun (_ : i = i) => by
          have := waits_not hr c i hc hun
          exact this hL)
      have hS2 : S w' := q2 (by
        have h1 := hfar L (List.mem_cons_of_mem _ hL)
        rw [Array.setIfInBounds_comm _ _ (Ne.symm e), getD_set_ne true hLi]; exact h1)
      refine ⟨fun _ => hS2, ih _ a' w' hfar (fun k ok hk hki hku hkn => hap k ok hk hki (by
        by_cases ejk : j = k
        · subst ejk; exact huj
        · rw [getD_set_ne true ejk] at hku; exact hku) hkn) hir q1 hS2 (by rw [Array.setIfInBounds_comm _ _ e]; exact q3)⟩
/-- Number i is taken first. -/
theorem AnyT.take {i : Nat} (c : List Nat) {oi : Oper} {v : Value} {n : Nat} {l : Array Bool} {a : Act} {w : World} (hi : ops[i]? = some oi) (hc : (waits md ops i c && c.contains L && (i :: c).all (fun y => !(l.getD y true))) = true)
    (hs : Region.noSelect ops = true) (hf : Region.free md ops l i = true) (hr : (Region.ready md ops l).contains i = true) (hQ : ∀ c a w, Q (.panic c) (a.put oi.dst v) w → Q (.panic c) a w) (hy : YieldsIf P ops S oi v a) (hS : S w)
    (h : AnyT P md ops Q S L n (l.setIfInBounds i true) (a.put oi.dst v) w) : AnyT P md ops Q S L (n + 1) l a w := by
  rw [Bool.and_eq_true, Bool.and_eq_true] at hc
  exact AnyT.first hi hc.1.1 (by simpa using hc.1.2) (Region.noSelect_spec hs) hQ n l a w (fun y hy => by have := List.all_eq_true.1 hc.2 y hy; simpa using this) (Region.free_spec hi hf) (by simpa using hr) hy hS h
/-- One alone may come up now. -/
theorem AnyT.one {i : Nat} {n : Nat} {o : Oper} {l : Array Bool} {a : Act} {w : World} (hr : Region.ready md ops l = [i]) (ho : ops[i]? = some o)
    (h : ∀ K : Act → World → Prop, Shut (∀ a w, ((l.setIfInBounds i true).getD L true = false → S w) → AnyT P md ops Q S L n (l.setIfInBounds i true) a w → K a w) → if Region.wanted o (yielded ops a.tmps) = true then Oper.wp P o a w K Q else K (a.put o.dst undef) w) :
    AnyT P md ops Q S L (n + 1) l a w := by
  refine ⟨fun e => (by rw [hr] at e; cases e), fun j hj => ?_⟩
  rw [hr] at hj
  obtain rfl : j = i := by simpa using hj
  exact wpOp_step ho (fun K hK => h K (fun a w hS hW => hK a w ⟨hS, hW⟩))
theorem AnyT.done {l : Array Bool} {a : Act} {w : World} (hr : Region.ready md ops l = []) (h : Q .normal a w) : ∀ n, AnyT P md ops Q S L n l a w
  | 0 => ⟨hr, h⟩
  | _ + 1 => ⟨fun _ => h, by rw [hr]; simp⟩
theorem wp_region_T {id : Nat} {a : Act} {w : World} (L : Nat) (S : World → Prop) (hm : P.follows .mixedOrders = true) (hS : S w.drew) (h : S w.drew → AnyT P .any ops Q S L ops.size (Array.replicate ops.size false) a w.drew) : (Code.region id ops true).wp P Q a w :=
  wp_region_any hm (AnyT.any _ _ _ _ (h hS))
end
end Go.Proofs.YtjfhncfbejephaaGreatDoor

/- The program's closures: made, and called. -/
namespace Go.Proofs.YtjfhncfbejephaaGreatDoor
open Go.RowKit Go.Shelf
open Ff
set_option linter.unusedVariables false
variable {X : Nat → Prop}
attribute [local irreducible] Calls

theorem storeFunc {P : Program} {w : World} {a : Addr} {m : Mode} (fn : Fn) (first cap : Array Value) : (store a (.func fn first cap) m).run P w = stored P w a (.func fn first cap) m := run_store P w a _ m rfl
attribute [local go_sem] storeFunc storeIF
/-- The bounds of the counts. -/
structure StB (s : St) : Prop where
  steps : s.steps ≤ 1500
  calls : s.calls ≤ s.steps
  clos : s.clos ≤ s.steps
  capt : s.capt ≤ 16 * s.steps
  deepest : s.deepest ≤ 50
  depth : s.depth ≤ 50
  called : s.called.length = s.calls
  froms : s.froms.length = s.calls
  encl : s.encl.length = s.clos
theorem StB.goes {s s' : St} (h : StB s) (g : Goes s s') : StB s' := by
  obtain ⟨h1, h2, h3, h4, h5, h6, h7, h8, h9⟩ := h
  obtain ⟨g1, g2, g3, g4, g5, g6, g7, g8, g9, g0⟩ := g
  exact ⟨g2 h1, by omega, by omega, by omega, g7 h5, by omega, by omega, by omega, by omega⟩
/-- What is evaluated comes to, in memory. -/
def EvPost (X : Nat → Prop) (r : Nat) (cv : Rw) (w : World) (s : St) (o : Ou) (e : Ending) (w' : World) : Prop := match o with
  | .ok v s' => ∃ x cv', e = .returned x ∧ RepV r (Safe X r cv' w') w' v x ∧ RunAt X r cv' w' s' ∧ Kep r cv w cv' w'
  | .fault => e = .panicked faultC ∧ ∃ cv' s', RunAt X r cv' w' s' ∧ Kep r cv w cv' w' ∧ s'.depth = s.depth
  | .long => e = .panicked longC ∧ ∃ cv' s', RunAt X r cv' w' s' ∧ Kep r cv w cv' w' ∧ s'.depth = s.depth
theorem Kep.cell {r : Nat} {c0 c1 : Rw} {w0 w1 : World} (h : Kep r c0 w0 c1 w1) {g k : Nat} {v : Value} (hs : Safe X r c0 w0 g) (hc : w0.cell? ⟨g, k, none⟩ = some v) : w1.cell? ⟨g, k, none⟩ = some v := cell_keep (S := Safe X r c0 w0) (S' := fun _ => True) (fun g hg => ⟨(h.safe hg).1, trivial⟩) hs hc
theorem Kep.frozen {r : Nat} {c0 c1 : Rw} {w0 w1 : World} (h : Kep r c0 w0 c1 w1) {g k : Nat} (hs : Safe X r c0 w0 g) (hc : w0.frozen? ⟨g, k, none⟩ = false) : w1.frozen? ⟨g, k, none⟩ = false := by
  unfold World.frozen? at hc ⊢
  simp only [(h.safe hs).1]
  exact hc
theorem Kep.rep {r : Nat} {c0 c1 : Rw} {w0 w1 : World} (h : Kep r c0 w0 c1 w1) {v : Vl} {x : Value} (hr : RepV r (Safe X r c0 w0) w0 v x) : RepV r (Safe X r c1 w1) w1 v x := RepV.keep (fun g hg => h.safe hg) hr
theorem Kep.env {r : Nat} {c0 c1 : Rw} {w0 w1 : World} (h : Kep r c0 w0 c1 w1) {v : En} {x : Value} (hr : RepE r (Safe X r c0 w0) w0 v x) : RepE r (Safe X r c1 w1) w1 v x := RepE.keep (fun g hg => h.safe hg) hr
theorem Kep.place {r : Nat} {c0 c1 : Rw} {w0 w1 : World} (h : Kep r c0 w0 c1 w1) {t : Tm} {i : Nat} {x : Value} (hr : PlaceR (Safe X r c0 w0) w0 t i x) : PlaceR (Safe X r c1 w1) w1 t i x := PlaceR.keep (fun g hg => h.safe hg) hr
theorem RunAt.safe {r : Nat} {cv : Rw} {w w' : World} {s : St} (h : RunAt X r cv w s) (hb : Below w.heap.size w w') {g : Nat} (h1 : w.heap.size ≤ g) (h2 : g < w'.heap.size) : Safe X r cv w' g :=
  ⟨h2, by have := h.lt; omega, fun e => by have := (h.owns g e).2; omega, fun e => by have := h.priv g e; omega⟩

theorem RunAt.new {r : Nat} {cv : Rw} {w W : World} {s : St} (h : RunAt X r cv w s) {g : Nat} (h1 : w.heap.size ≤ g) (h2 : g < W.heap.size) : Safe X r cv W g :=
  ⟨h2, by have := h.lt; omega, fun e => by have := (h.owns g e).2; omega, fun e => by have := h.priv g e; omega⟩
theorem row_far {w : World} {B sz g : Nat} {e : TypeId} {cv : Value} {n : Nat} {xs : List Value} (h : w.ownsRow B e sz cv n xs) (hg : cv.ownBlock ≠ some g) (k : Nat) (u : Value) : (w.setCell ⟨g, k, none⟩ u).ownsRow B e sz cv n xs := by
  obtain ⟨h3, h2 | ⟨g', cap, cur, hv, hb, hh, rest⟩⟩ := h
  · exact ⟨h3, .inl h2⟩
  · exact ⟨h3, .inr ⟨g', cap, cur, hv, hb, (Below.heap_setCell _ _ _ _ (by show g' ≠ g; rintro rfl; exact hg (by rw [hv]; rfl))).trans hh, rest⟩⟩
theorem RunAt.setFar {r : Nat} {cv : Rw} {W : World} {s : St} (hW : RunAt X r cv W s) {g : Nat} (h1 : g ≠ r) (h2 : ¬ cv.own g) (k : Nat) (u : Value) : RunAt X r cv (W.setCell ⟨g, k, none⟩ u) s :=
  ⟨hW.cells.imp fun z q => (Below.heap_setCell _ _ _ _ (by show r ≠ g; omega)).trans q, row_far hW.row (fun e => h2 (.inl e)) k u, row_far hW.rowD (fun e => h2 (.inr e)) k u, hW.len, hW.sep, fun g hg => by simpa using hW.priv g hg⟩
theorem RunAt.setNew {r : Nat} {cv : Rw} {w W : World} {s0 s : St} (h : RunAt X r cv w s0) (hW : RunAt X r cv W s) {g : Nat} (h1 : w.heap.size ≤ g) (k : Nat) (u : Value) : RunAt X r cv (W.setCell ⟨g, k, none⟩ u) s :=
  hW.setFar (by have := h.lt; omega) (fun e => by have := (h.owns g e).2; omega) k u
theorem RunAt.setSafe {r : Nat} {cv : Rw} {W : World} {s : St} (hW : RunAt X r cv W s) {g : Nat} (hs : Safe X r cv W g) (k : Nat) (u : Value) : RunAt X r cv (W.setCell ⟨g, k, none⟩ u) s := hW.setFar hs.2.1 hs.2.2.1 k u
theorem Safe.set {r : Nat} {cv : Rw} {W : World} {g : Nat} (hs : Safe X r cv W g) (a : Addr) (u : Value) : Safe X r cv (W.setCell a u) g := ⟨by simpa using hs.1, hs.2⟩
theorem Safe.alloc {r : Nat} {cv : Rw} {W : World} {g : Nat} (hs : Safe X r cv W g) (o : Obj) : Safe X r cv (W.alloc o) g := ⟨by have := hs.1; simp; omega, hs.2⟩
theorem Kep.setNew {r : Nat} {cv c1 : Rw} {w W : World} (h : Kep r cv w c1 W) {g : Nat} (h1 : w.heap.size ≤ g) (k : Nat) (u : Value) : Kep r cv w c1 (W.setCell ⟨g, k, none⟩ u) :=
  ⟨h.os, h.tape, h.output, by simpa using h.size, fun j hj hr hc => (Below.heap_setCell _ _ _ _ (by show j ≠ g; omega)).trans (h.block j hj hr hc), h.own⟩
theorem Kep.alloc {r : Nat} {cv c1 : Rw} {w W : World} (h : Kep r cv w c1 W) (o : Obj) : Kep r cv w c1 (W.alloc o) := h.trans (Kep.below ((Below.refl _ W).alloc (Nat.le_refl _) o))
theorem RunAt.alloc {r : Nat} {cv : Rw} {W : World} {s : St} (h : RunAt X r cv W s) (o : Obj) : RunAt X r cv (W.alloc o) s := h.below ((Below.refl _ W).alloc (Nat.le_refl _) o)
theorem set_two {w : World} {B : Nat} {z0 z1 u0 u1 : Value} (h0 : w.cell? ⟨B, 0, none⟩ = some z0) (h1 : w.cell? ⟨B, 1, none⟩ = some z1) : ((w.setCell ⟨B, 0, none⟩ u0).setCell ⟨B, 1, none⟩ u1).cell? ⟨B, 0, none⟩ = some u0 ∧ ((w.setCell ⟨B, 0, none⟩ u0).setCell ⟨B, 1, none⟩ u1).cell? ⟨B, 1, none⟩ = some u1 := by
  refine ⟨?_, ?_⟩ <;> simp [go_sem, h0, h1]
/-- A closure that has been made. -/
theorem clo_post {r : Nat} {cv c1' : Rw} {s s0 s' : St} {t : Tm} {i : Nat} {e : En} {w WF : World} {b b0 b1 b2 b3 : Nat} {pv ee e0 : Value} (hR : RunAt X r cv w s0) (hRF : RunAt X r c1' WF s') (K : Kep r cv w c1' WF) (hP : PlaceR (Safe X r cv w) w t i pv) (hE : RepE r (Safe X r cv w) w e e0)
    (hb : Safe X r c1' WF b) (h0 : Safe X r c1' WF b0) (h1 : Safe X r c1' WF b1) (h2 : Safe X r c1' WF b2) (h3 : Safe X r c1' WF b3)
    (c1 : WF.cell? ⟨b, 0, none⟩ = some (.func (.func 89) #[] #[ptr b0, ptr b2, ptr b3, ptr b1]))
    (cr : WF.cell? ⟨b0, 0, none⟩ = some (ptr r)) (cp : WF.cell? ⟨b2, 0, none⟩ = some pv) (ce : WF.cell? ⟨b3, 0, none⟩ = some ee) (cx : WF.cell? ⟨b1, 1, none⟩ = some (.int .u8 ((paramOf t).toNat : Int)))
    (hee : CloEnv (Safe X r c1' WF) WF t b ee e0) : EvPost X r cv w s (.ok (.clo i t e) s') (.returned (.agg #[.int .i64 0, .iface 180 (ptr b)])) WF :=
  ⟨_, c1', rfl, .clo i t e b b0 b2 b3 b1 pv ee e0 hb c1 h0 cr h2 cp (K.place hP) h3 ce h1 cx hee (K.env hE), hRF, K⟩
/-- The boxes with which a closure is made. -/
def encW (w : World) (r : Nat) (x0 x1 x2 : Value) (bp : Nat) (ep : Value) : World :=
  ((((w.alloc (.cells #[ptr r] 42)).alloc (.cells #[x0, x1, x2] 140)).alloc (.cells #[ptr bp] 108)).alloc (.cells #[ep] 100)).alloc (.cells #[.int .i64 0, .nilIface] 106)
theorem encW_facts (w : World) (r : Nat) (x0 x1 x2 : Value) (bp : Nat) (ep : Value) :
    (encW w r x0 x1 x2 bp ep).heap.size = w.heap.size + 5 ∧ Below w.heap.size w (encW w r x0 x1 x2 bp ep) ∧ (encW w r x0 x1 x2 bp ep).cell? ⟨w.heap.size, 0, none⟩ = some (ptr r) ∧
    (encW w r x0 x1 x2 bp ep).cell? ⟨w.heap.size + 1, 0, none⟩ = some x0 ∧ (encW w r x0 x1 x2 bp ep).cell? ⟨w.heap.size + 1, 1, none⟩ = some x1 ∧ (encW w r x0 x1 x2 bp ep).cell? ⟨w.heap.size + 1, 2, none⟩ = some x2 ∧
    (encW w r x0 x1 x2 bp ep).cell? ⟨w.heap.size + 1 + 1, 0, none⟩ = some (ptr bp) ∧ (encW w r x0 x1 x2 bp ep).cell? ⟨w.heap.size + 1 + 1 + 1, 0, none⟩ = some ep ∧ (encW w r x0 x1 x2 bp ep).frozen? ⟨w.heap.size + 1 + 1 + 1, 0, none⟩ = false ∧
    (encW w r x0 x1 x2 bp ep).cell? ⟨w.heap.size + 1 + 1 + 1 + 1, 0, none⟩ = some (.int .i64 0) ∧ (encW w r x0 x1 x2 bp ep).cell? ⟨w.heap.size + 1 + 1 + 1 + 1, 1, none⟩ = some (.nilIface) ∧ (encW w r x0 x1 x2 bp ep).frozen? ⟨w.heap.size + 1 + 1 + 1 + 1, 0, none⟩ = false ∧ (encW w r x0 x1 x2 bp ep).frozen? ⟨w.heap.size + 1 + 1 + 1 + 1, 1, none⟩ = false := by
  unfold encW
  refine ⟨by simp, ((((((Below.refl _ w).alloc (Nat.le_refl _) _).alloc (by simp) _).alloc (by simp; omega) _).alloc (by simp; omega) _).alloc (by simp; omega) _), ?_, ?_, ?_, ?_, ?_, ?_, ?_, ?_, ?_, ?_, ?_⟩ <;> simp [go_sem]
set_option maxRecDepth 100000 in
set_option maxHeartbeats 4000000 in
theorem enclose_fn (r : Nat) (cv : Rw) (s : St) (c : UInt8) (b : Tm) (i : Nat) (e : En) (pv ep : Value) (w : World) (hR : RunAt X r cv w s) (hB : StB s) (hP : PlaceR (Safe X r cv w) w (.fn c b) i pv) (hE : RepE r (Safe X r cv w) w e ep) :
    Calls Tryz.prog 58 #[ptr r, pl (.fn c b), pv, ep] w (EvPost X r cv w s (.ok (.clo i (.fn c b) e) (s.made i (sfree (.fn c b)).length))) := by
  obtain ⟨n1, v1, e1⟩ := enc_gen b
  obtain ⟨qe, rfl⟩ := hE.form
  have hlen := sfree_len (.fn c b)
  obtain ⟨h1, h2, h3, h4, h5, h6, h7, h8, h9⟩ := hB
  have hP0 := Lib.hid hP
  cases hP with
  | mk _ _ bp g cap kv pk hb c0 c1 c3 c4 hkv hc hk =>
    rw [if_pos (show isFun (.fn c b) = true from rfl)] at c4
    have hbl : bp < w.heap.size := hb.1
    show Calls Tryz.prog 58 #[ptr r, .agg #[.int .u8 0, .int .u8 (c.toNat : Int), enc b], ptr bp, .pointer qe] w _
    rw [e1]
    have HE := Lib.hid e1
    clear e1 c0 c3 hkv hc hk
    go_enter Tryz.func58, Tryz.ntmps58
    go_wp2_with fail
    obtain ⟨z, zb, z0, z1, z2, z3, z4, z5, z6, z7, z8, z9, z10⟩ := encW_facts w r (.int .u8 0) (.int .u8 (c.toNat : Int)) (.iface n1 v1) bp (.pointer qe)
    change Code.wp _ _ _ _ (encW w r (.int .u8 0) (.int .u8 (c.toNat : Int)) (.iface n1 v1) bp (.pointer qe))
    generalize encW w r (.int .u8 0) (.int .u8 (c.toNat : Int)) (.iface n1 v1) bp (.pointer qe) = W5 at z zb z0 z1 z2 z3 z4 z5 z6 z7 z8 z9 z10 ⊢
    have d1 := (zb.cell (p := ⟨bp, 1, none⟩) hbl).trans c1
    have d4 := (zb.cell (p := ⟨bp, 4, none⟩) hbl).trans c4
    have hR5 := (hR.below zb).drew
    have hS0 : Safe X r cv W5 w.heap.size := hR.safe zb (Nat.le_refl _) (by omega)
    have hS2 : Safe X r cv W5 (w.heap.size + 1 + 1) := hR.safe zb (by omega) (by omega)
    have hSb : Safe X r cv W5 bp := ((Kep.below zb).safe hb).2
    have C := addClosure_c r cv s (sfree (.fn c b)).length _ hR5 (by omega) (by omega) (by omega)
    have C2 : Calls Tryz.prog 88 #[ptr r, .int .i64 ((sfree (.fn c b)).length : Nat)] W5.drew fun e' w' => ∃ x, e' = .returned x ∧ x = .tuple #[] ∧ RunAt X r cv w' { s with clos := s.clos + 1, capt := s.capt + (sfree (.fn c b)).length } ∧ Kep r cv W5 cv w' ∧ w'.cell? ⟨w.heap.size, 0, none⟩ = some (ptr r) ∧ w'.cell? ⟨w.heap.size + 1 + 1, 0, none⟩ = some (ptr bp) ∧ w'.cell? ⟨bp, 4, none⟩ = some (.int .i64 ((sfree (.fn c b)).length : Nat)) := C.mono (by
      rintro e' w' ⟨rfl, q1, q2⟩
      have q3 := (Kep.below ((Below.refl _ W5).drew)).trans q2
      exact ⟨_, rfl, rfl, q1, q3, q3.cell hS0 z0, q3.cell hS2 z4, q3.cell hSb d4⟩)
    clear C
    go_region_held3 (fun w' => w'.cell? ⟨w.heap.size, 0, none⟩ = some (ptr r) ∧ w'.cell? ⟨w.heap.size + 1 + 1, 0, none⟩ = some (ptr bp) ∧ w'.cell? ⟨bp, 4, none⟩ = some (.int .i64 ((sfree (.fn c b)).length : Nat)))
      (first | go_keep | refine ⟨?_, ?_, ?_⟩ <;> assumption)
      (first | (refine C2.mono ?_; rintro e' w2 ⟨x, rfl, rfl, hR2, hK2, q0, q2, q4⟩))
    have hS1 : Safe X r cv W5 (w.heap.size + 1) := hR.safe zb (by omega) (by omega)
    have hS3 : Safe X r cv W5 (w.heap.size + 1 + 1 + 1) := hR.safe zb (by omega) (by omega)
    have hS4 : Safe X r cv W5 (w.heap.size + 1 + 1 + 1 + 1) := hR.safe zb (by omega) (by omega)
    have yb := hK2.cell hSb d1
    have hs2 := hK2.size
    have lr : r < w2.heap.size := hR2.lt
    have lb : bp < w2.heap.size := by omega
    have l0 : w.heap.size < w2.heap.size := by omega
    have l2 : w.heap.size + 1 + 1 < w2.heap.size := by omega
    have lrr : r + 1 ≤ ((w2.alloc (.cells #[.int .i64 (i : Int)] 3)).drew).heap.size := by simp; omega
    have hlen2 : s.encl.length ≤ 10000 := by omega
    have nB : some w.heap.size ≠ cv.d.ownBlock := fun e => hS0.2.2.1 (.inr e.symm)
    have nP : some (w.heap.size + 1 + 1) ≠ cv.d.ownBlock := fun e => hS2.2.2.1 (.inr e.symm)
    have nL : some bp ≠ cv.d.ownBlock := fun e => hSb.2.2.1 (.inr e.symm)
    obtain ⟨_, _, _, _, _, _, _, _, r8, _, rf⟩ := hR2.at
    clear C2 q4 h7 h8 h9
    go_wp2_with fail
    refine wp_region_T 13 (fun w' => w'.cell? ⟨w.heap.size, 0, none⟩ = some (ptr r) ∧ w'.cell? ⟨w.heap.size + 1 + 1, 0, none⟩ = some (ptr bp) ∧ w'.cell? ⟨bp, 1, none⟩ = some (.int .i64 (i : Int)) ∧ w'.cell? ⟨r, 8, none⟩ = some cv.d) (by kernel_rfl) ⟨q0, q2, yb, r8⟩ (fun hHeld => ?_)
    refine AnyT.take [11, 12, 13] (i := 0) (v := ?_) rfl (by kernel_rfl) (by kernel_rfl) (by kernel_rfl) (by kernel_rfl) (fun _ _ _ h => h) (Or.inl ⟨by rfl, ?_⟩) (by assumption) ?_
    rotate_left 1
    · intro w' hSw
      (try dsimp only at hSw)
      go_simp
      try with_reducible rfl
    (try simp only [Act.put]); (try simp only [List.setIfInBounds_toArray]); (try simp only [List.set_cons_zero]); (try simp only [List.set_cons_succ])
    refine AnyT.take [2, 3, 4, 10, 13] (i := 1) (v := ?_) rfl (by kernel_rfl) (by kernel_rfl) (by kernel_rfl) (by kernel_rfl) (fun _ _ _ h => h) (Or.inl ⟨by rfl, ?_⟩) (by assumption) ?_
    rotate_left 1
    · intro w' hSw
      (try dsimp only at hSw)
      go_simp
      try with_reducible rfl
    (try simp only [Act.put]); (try simp only [List.setIfInBounds_toArray]); (try simp only [List.set_cons_zero]); (try simp only [List.set_cons_succ])
    refine AnyT.take [3, 4, 10, 13] (i := 2) (v := ?_) rfl (by kernel_rfl) (by kernel_rfl) (by kernel_rfl) (by kernel_rfl) (fun _ _ _ h => h) (Or.inl ⟨by rfl, ?_⟩) (by assumption) ?_
    rotate_left 1
    · intro w' hSw
      (try dsimp only at hSw)
      go_simp
      try with_reducible rfl
    (try simp only [Act.put]); (try simp only [List.setIfInBounds_toArray]); (try simp only [List.set_cons_zero]); (try simp only [List.set_cons_succ])
    refine AnyT.take [4, 10, 13] (i := 3) (v := ?_) rfl (by kernel_rfl) (by kernel_rfl) (by kernel_rfl) (by kernel_rfl) (fun _ _ _ h => h) (Or.inl ⟨by rfl, ?_⟩) (by assumption) ?_
    rotate_left 1
    · intro w' hSw
      (try dsimp only at hSw)
      go_simp
      try with_reducible rfl
    (try simp only [Act.put]); (try simp only [List.setIfInBounds_toArray]); (try simp only [List.set_cons_zero]); (try simp only [List.set_cons_succ])
    refine AnyT.take [10, 13] (i := 4) (v := ?_) rfl (by kernel_rfl) (by kernel_rfl) (by kernel_rfl) (by kernel_rfl) (fun _ _ _ h => h) (Or.inl ⟨by rfl, ?_⟩) (by assumption) ?_
    rotate_left 1
    · intro w' hSw
      (try dsimp only at hSw)
      go_simp
      try with_reducible rfl
    (try simp only [Act.put]); (try simp only [List.setIfInBounds_toArray]); (try simp only [List.set_cons_zero]); (try simp only [List.set_cons_succ])
    refine AnyT.take [6, 7, 8, 9, 10, 13] (i := 5) (v := ?_) rfl (by kernel_rfl) (by kernel_rfl) (by kernel_rfl) (by kernel_rfl) (fun _ _ _ h => h) (Or.inl ⟨by rfl, ?_⟩) (by assumption) ?_
    rotate_left 1
    · intro w' hSw
      (try dsimp only at hSw)
      go_simp
      try with_reducible rfl
    (try simp only [Act.put]); (try simp only [List.setIfInBounds_toArray]); (try simp only [List.set_cons_zero]); (try simp only [List.set_cons_succ])
    refine AnyT.take [7, 8, 9, 10, 13] (i := 6) (v := ?_) rfl (by kernel_rfl) (by kernel_rfl) (by kernel_rfl) (by kernel_rfl) (fun _ _ _ h => h) (Or.inl ⟨by rfl, ?_⟩) (by assumption) ?_
    rotate_left 1
    · intro w' hSw
      (try dsimp only at hSw)
      go_simp
      try with_reducible rfl
    (try simp only [Act.put]); (try simp only [List.setIfInBounds_toArray]); (try simp only [List.set_cons_zero]); (try simp only [List.set_cons_succ])
    refine AnyT.take [8, 9, 10, 13] (i := 7) (v := ?_) rfl (by kernel_rfl) (by kernel_rfl) (by kernel_rfl) (by kernel_rfl) (fun _ _ _ h => h) (Or.inl ⟨by rfl, ?_⟩) (by assumption) ?_
    rotate_left 1
    · intro w' hSw
      (try dsimp only at hSw)
      go_simp
      try with_reducible rfl
    (try simp only [Act.put]); (try simp only [List.setIfInBounds_toArray]); (try simp only [List.set_cons_zero]); (try simp only [List.set_cons_succ])
    refine AnyT.take [9, 10, 13] (i := 8) (v := ?_) rfl (by kernel_rfl) (by kernel_rfl) (by kernel_rfl) (by kernel_rfl) (fun _ _ _ h => h) (Or.inl ⟨by rfl, ?_⟩) (by assumption) ?_
    rotate_left 1
    · intro w' hSw
      (try dsimp only at hSw)
      go_simp
      try with_reducible rfl
    (try simp only [Act.put]); (try simp only [List.setIfInBounds_toArray]); (try simp only [List.set_cons_zero]); (try simp only [List.set_cons_succ])
    refine AnyT.one (i := 9) (by kernel_rfl) rfl (fun K hK => ?_)
    go_simp
    refine hK.out _ _ (fun _ => ?_) ?_
    · exact ⟨alloc_far l0 q0, alloc_far l2 q2, alloc_far lb yb, alloc_far lr r8⟩
    clear hK K
    (try simp only [Act.put]); (try simp only [List.setIfInBounds_toArray]); (try simp only [List.set_cons_zero]); (try simp only [List.set_cons_succ])
    refine AnyT.one (i := 10) (by kernel_rfl) rfl (fun K hK => ?_)
    refine step_app_int _ (by rfl) _ _ (by rfl) (r + 1) cv.d s.encl.length (intsV s.encl) (by rfl) (row_up hR2.rowD _) ⟨w2.heap.size, 0, none⟩ [.int .i64 (i : Int)] (by rfl) rfl (nine_block (cs := [.int .i64 (i : Int)]) (alloc_at w2 _)) (by simp [Value.oneCell']) hlen2 lrr ?_
    intro gr cr w5 hrow5 hgr5 hwh5
    obtain ⟨c58, fz58⟩ := hR2.cellD hgr5
    have c50 := (World.cell?_of_block (a := ⟨w.heap.size, 0, none⟩) (grown_block hgr5 l0 nB)).trans q0
    have c51 := (World.cell?_of_block (a := ⟨w.heap.size + 1 + 1, 0, none⟩) (grown_block hgr5 l2 nP)).trans q2
    have c52 := (World.cell?_of_block (a := ⟨bp, 1, none⟩) (grown_block hgr5 lb nL)).trans yb
    have hHeld5 : w5.cell? ⟨w.heap.size, 0, none⟩ = some (ptr r) ∧ w5.cell? ⟨w.heap.size + 1 + 1, 0, none⟩ = some (ptr bp) ∧ w5.cell? ⟨bp, 1, none⟩ = some (.int .i64 (i : Int)) ∧ w5.cell? ⟨r, 8, none⟩ = some cv.d := ⟨c50, c51, c52, c58⟩
    refine hK.out _ _ (fun _ => hHeld5) ?_
    clear hK K
    (try simp only [Act.put]); (try simp only [List.setIfInBounds_toArray]); (try simp only [List.set_cons_zero]); (try simp only [List.set_cons_succ])
    refine AnyT.take [12, 13] (i := 11) (v := ?_) rfl (by kernel_rfl) (by kernel_rfl) (by kernel_rfl) (by kernel_rfl) (fun _ _ _ h => h) (Or.inl ⟨by rfl, ?_⟩) (by assumption) ?_
    rotate_left 1
    · intro w' hSw
      (try dsimp only at hSw)
      go_simp
      try with_reducible rfl
    (try simp only [Act.put]); (try simp only [List.setIfInBounds_toArray]); (try simp only [List.set_cons_zero]); (try simp only [List.set_cons_succ])
    refine AnyT.take [13] (i := 12) (v := ?_) rfl (by kernel_rfl) (by kernel_rfl) (by kernel_rfl) (by kernel_rfl) (fun _ _ _ h => h) (Or.inl ⟨by rfl, ?_⟩) (by assumption) ?_
    rotate_left 1
    · intro w' hSw
      (try dsimp only at hSw)
      go_simp
      try with_reducible rfl
    (try simp only [Act.put]); (try simp only [List.setIfInBounds_toArray]); (try simp only [List.set_cons_zero]); (try simp only [List.set_cons_succ])
    refine AnyT.one (i := 13) (by kernel_rfl) rfl (fun K hK => ?_)
    go_simp
    refine hK.out _ _ (fun h => absurd h (by simp)) ?_
    clear hK K
    (try simp only [Act.put]); (try simp only [List.setIfInBounds_toArray]); (try simp only [List.set_cons_zero]); (try simp only [List.set_cons_succ])
    refine AnyT.done (by kernel_rfl) ?_ _
    clear hHeld5 c50 c51 c52 c58 fz58 hHeld
    obtain ⟨hR3, K3⟩ := hR2.addEncl hrow5 hgr5 hwh5
    have K53 := hK2.trans K3
    have hs3 := K3.size
    generalize (w5.setCell ⟨r, 8, none⟩ (.slice (some ⟨gr, 0, none⟩) (s.encl.length + 1) cr)) = w3 at hR3 K3 K53 hs3 ⊢
    generalize (Value.slice (some ⟨gr, 0, none⟩) (s.encl.length + 1) cr) = d3 at hR3 K3 K53
    clear hrow5 hgr5 hwh5 r8 rf q0 q2 lrr hlen2 yb lr lb l0 l2 hK2 hR2 hs2
    have q0 := K53.cell hS0 z0
    have q2 := K53.cell hS2 z4
    have y1 := K53.cell hS1 z1
    have y2 := K53.cell hS1 z2
    have y5 := K53.cell hS3 z5
    have y6 := K53.frozen hS3 z6
    have y7 := K53.cell hS4 z7
    have y8 := K53.cell hS4 z8
    have y9 := K53.frozen hS4 z9
    have y10 := K53.frozen hS4 z10
    have hs2 := K53.size
    have l0 : w.heap.size < w3.heap.size := by omega
    have l1 : w.heap.size + 1 < w3.heap.size := by omega
    have l2 : w.heap.size + 1 + 1 < w3.heap.size := by omega
    have l3 : w.heap.size + 1 + 1 + 1 < w3.heap.size := by omega
    have l4 : w.heap.size + 1 + 1 + 1 + 1 < w3.heap.size := by omega
    have KF := (Kep.below zb).trans K53
    have e0 := (K53.safe hS0).2
    have e1 := (K53.safe hS1).2
    have e2 := (K53.safe hS2).2
    have e3 := (K53.safe hS3).2
    have e4 := (K53.safe hS4).2
    clear z0 z1 z2 z3 z4 z5 z6 z7 z8 z9 z10 d1 d4 hR5 hS0 hS1 hS2 hS3 hS4 hSb K3
    go_wp2_with fail
    obtain ⟨k0, k1⟩ := set_two (u0 := .int .i64 0) (u1 := .iface 180 (ptr w3.heap.size)) y7 y8
    have hA := ((Below.refl (w3.heap.size) ((w3.setCell ⟨w.heap.size + 1 + 1 + 1 + 1, 0, none⟩ (.int .i64 0)).setCell ⟨w.heap.size + 1 + 1 + 1 + 1, 1, none⟩ (.iface 180 (ptr w3.heap.size)))).alloc (by simp) (.cells #[.func (.func 89) #[] #[ptr w.heap.size, ptr (w.heap.size + 1 + 1), ptr (w.heap.size + 1 + 1 + 1), ptr (w.heap.size + 1)]] 183))
    have j0 := (hA.cell (p := ⟨w.heap.size + 1 + 1 + 1 + 1, 0, none⟩) l4).trans k0
    have j1 := (hA.cell (p := ⟨w.heap.size + 1 + 1 + 1 + 1, 1, none⟩) l4).trans k1
    refine bodyPost_ret (v := .agg #[.int .i64 0, .iface 180 (ptr w3.heap.size)]) (by simp [results, Tryz.results58, go_sem, j0, j1]) rfl ?_
    have sN := hR3.new (X := X) (W := ((w3.setCell ⟨w.heap.size + 1 + 1 + 1 + 1, 0, none⟩ (.int .i64 0)).setCell ⟨w.heap.size + 1 + 1 + 1 + 1, 1, none⟩ (.iface 180 (ptr w3.heap.size))).alloc (.cells #[.func (.func 89) #[] #[ptr w.heap.size, ptr (w.heap.size + 1 + 1), ptr (w.heap.size + 1 + 1 + 1), ptr (w.heap.size + 1)]] 183)) (g := w3.heap.size) (Nat.le_refl _) (by simp)
    refine clo_post (ee := .pointer qe) hR (((hR3.setSafe e4 _ _).setSafe (e4.set _ _) _ _).alloc _) (((KF.setNew (by omega) _ _).setNew (by omega) _ _).alloc _) hP0.out hE (b := w3.heap.size) (b0 := w.heap.size) (b1 := w.heap.size + 1) (b2 := w.heap.size + 1 + 1) (b3 := w.heap.size + 1 + 1 + 1) sN (((e0.set _ _).set _ _).alloc _) (((e1.set _ _).set _ _).alloc _) (((e2.set _ _).set _ _).alloc _) (((e3.set _ _).set _ _).alloc _) ?_ ?_ ?_ ?_ ?_ rfl
    all_goals simp [go_sem, q0, q2, y2, y5, l0, l1, l2, l3, paramOf]
def cloW (w2 : World) : World := w2.alloc (.cells #[.nilFunc] 183)
theorem cloW_facts (w2 : World) : (cloW w2).heap.size = w2.heap.size + 1 ∧ Below w2.heap.size w2 (cloW w2) ∧ (cloW w2).cell? ⟨w2.heap.size, 0, none⟩ = some .nilFunc ∧ (cloW w2).frozen? ⟨w2.heap.size, 0, none⟩ = false := by
  unfold cloW
  refine ⟨by simp, ((Below.refl _ w2).alloc (Nat.le_refl _) _), ?_, ?_⟩ <;> simp [go_sem]
set_option maxRecDepth 100000 in
set_option maxHeartbeats 4000000 in
theorem enclose_fix (r : Nat) (cv : Rw) (s : St) (f c : UInt8) (b : Tm) (i : Nat) (e : En) (pv ep : Value) (w : World) (hR : RunAt X r cv w s) (hB : StB s) (hf0 : f.toNat ≠ 0) (hP : PlaceR (Safe X r cv w) w (.fix f c b) i pv) (hE : RepE r (Safe X r cv w) w e ep) :
    Calls Tryz.prog 58 #[ptr r, pl (.fix f c b), pv, ep] w (EvPost X r cv w s (.ok (.clo i (.fix f c b) e) (s.made i (sfree (.fix f c b)).length))) := by
  obtain ⟨n1, v1, e1⟩ := enc_gen b
  obtain ⟨qe, rfl⟩ := hE.form
  have hlen := sfree_len (.fix f c b)
  obtain ⟨h1, h2, h3, h4, h5, h6, h7, h8, h9⟩ := hB
  have hP0 := Lib.hid hP
  cases hP with
  | mk _ _ bp g cap kv pk hb c0 c1 c3 c4 hkv hc hk =>
    rw [if_pos (show isFun (.fix f c b) = true from rfl)] at c4
    have hbl : bp < w.heap.size := hb.1
    show Calls Tryz.prog 58 #[ptr r, .agg #[.int .u8 (f.toNat : Int), .int .u8 (c.toNat : Int), enc b], ptr bp, .pointer qe] w _
    rw [e1]
    have HE := Lib.hid e1
    clear e1 c0 c3 hkv hc hk
    go_enter Tryz.func58, Tryz.ntmps58
    go_wp2_with fail
    obtain ⟨z, zb, z0, z1, z2, z3, z4, z5, z6, z7, z8, z9, z10⟩ := encW_facts w r (.int .u8 (f.toNat : Int)) (.int .u8 (c.toNat : Int)) (.iface n1 v1) bp (.pointer qe)
    change Code.wp _ _ _ _ (encW w r (.int .u8 (f.toNat : Int)) (.int .u8 (c.toNat : Int)) (.iface n1 v1) bp (.pointer qe))
    generalize encW w r (.int .u8 (f.toNat : Int)) (.int .u8 (c.toNat : Int)) (.iface n1 v1) bp (.pointer qe) = W5 at z zb z0 z1 z2 z3 z4 z5 z6 z7 z8 z9 z10 ⊢
    have d1 := (zb.cell (p := ⟨bp, 1, none⟩) hbl).trans c1
    have d4 := (zb.cell (p := ⟨bp, 4, none⟩) hbl).trans c4
    have hR5 := (hR.below zb).drew
    have hS0 : Safe X r cv W5 w.heap.size := hR.safe zb (Nat.le_refl _) (by omega)
    have hS2 : Safe X r cv W5 (w.heap.size + 1 + 1) := hR.safe zb (by omega) (by omega)
    have hSb : Safe X r cv W5 bp := ((Kep.below zb).safe hb).2
    have C := addClosure_c r cv s (sfree (.fix f c b)).length _ hR5 (by omega) (by omega) (by omega)
    have C2 : Calls Tryz.prog 88 #[ptr r, .int .i64 ((sfree (.fix f c b)).length : Nat)] W5.drew fun e' w' => ∃ x, e' = .returned x ∧ x = .tuple #[] ∧ RunAt X r cv w' { s with clos := s.clos + 1, capt := s.capt + (sfree (.fix f c b)).length } ∧ Kep r cv W5 cv w' ∧ w'.cell? ⟨w.heap.size, 0, none⟩ = some (ptr r) ∧ w'.cell? ⟨w.heap.size + 1 + 1, 0, none⟩ = some (ptr bp) ∧ w'.cell? ⟨bp, 4, none⟩ = some (.int .i64 ((sfree (.fix f c b)).length : Nat)) := C.mono (by
      rintro e' w' ⟨rfl, q1, q2⟩
      have q3 := (Kep.below ((Below.refl _ W5).drew)).trans q2
      exact ⟨_, rfl, rfl, q1, q3, q3.cell hS0 z0, q3.cell hS2 z4, q3.cell hSb d4⟩)
    clear C
    go_region_held3 (fun w' => w'.cell? ⟨w.heap.size, 0, none⟩ = some (ptr r) ∧ w'.cell? ⟨w.heap.size + 1 + 1, 0, none⟩ = some (ptr bp) ∧ w'.cell? ⟨bp, 4, none⟩ = some (.int .i64 ((sfree (.fix f c b)).length : Nat)))
      (first | go_keep | refine ⟨?_, ?_, ?_⟩ <;> assumption)
      (first | (refine C2.mono ?_; rintro e' w2 ⟨x, rfl, rfl, hR2, hK2, q0, q2, q4⟩))
    have hS1 : Safe X r cv W5 (w.heap.size + 1) := hR.safe zb (by omega) (by omega)
    have hS3 : Safe X r cv W5 (w.heap.size + 1 + 1 + 1) := hR.safe zb (by omega) (by omega)
    have hS4 : Safe X r cv W5 (w.heap.size + 1 + 1 + 1 + 1) := hR.safe zb (by omega) (by omega)
    have yb := hK2.cell hSb d1
    have hs2 := hK2.size
    have lr : r < w2.heap.size := hR2.lt
    have lb : bp < w2.heap.size := by omega
    have l0 : w.heap.size < w2.heap.size := by omega
    have l2 : w.heap.size + 1 + 1 < w2.heap.size := by omega
    have lrr : r + 1 ≤ ((w2.alloc (.cells #[.int .i64 (i : Int)] 3)).drew).heap.size := by simp; omega
    have hlen2 : s.encl.length ≤ 10000 := by omega
    have nB : some w.heap.size ≠ cv.d.ownBlock := fun e => hS0.2.2.1 (.inr e.symm)
    have nP : some (w.heap.size + 1 + 1) ≠ cv.d.ownBlock := fun e => hS2.2.2.1 (.inr e.symm)
    have nL : some bp ≠ cv.d.ownBlock := fun e => hSb.2.2.1 (.inr e.symm)
    obtain ⟨_, _, _, _, _, _, _, _, r8, _, rf⟩ := hR2.at
    clear C2 q4 h7 h8 h9
    go_wp2_with fail
    refine wp_region_T 13 (fun w' => w'.cell? ⟨w.heap.size, 0, none⟩ = some (ptr r) ∧ w'.cell? ⟨w.heap.size + 1 + 1, 0, none⟩ = some (ptr bp) ∧ w'.cell? ⟨bp, 1, none⟩ = some (.int .i64 (i : Int)) ∧ w'.cell? ⟨r, 8, none⟩ = some cv.d) (by kernel_rfl) ⟨q0, q2, yb, r8⟩ (fun hHeld => ?_)
    refine AnyT.take [11, 12, 13] (i := 0) (v := ?_) rfl (by kernel_rfl) (by kernel_rfl) (by kernel_rfl) (by kernel_rfl) (fun _ _ _ h => h) (Or.inl ⟨by rfl, ?_⟩) (by assumption) ?_
    rotate_left 1
    · intro w' hSw
      (try dsimp only at hSw)
      go_simp
      try with_reducible rfl
    (try simp only [Act.put]); (try simp only [List.setIfInBounds_toArray]); (try simp only [List.set_cons_zero]); (try simp only [List.set_cons_succ])
    refine AnyT.take [2, 3, 4, 10, 13] (i := 1) (v := ?_) rfl (by kernel_rfl) (by kernel_rfl) (by kernel_rfl) (by kernel_rfl) (fun _ _ _ h => h) (Or.inl ⟨by rfl, ?_⟩) (by assumption) ?_
    rotate_left 1
    · intro w' hSw
      (try dsimp only at hSw)
      go_simp
      try with_reducible rfl
    (try simp only [Act.put]); (try simp only [List.setIfInBounds_toArray]); (try simp only [List.set_cons_zero]); (try simp only [List.set_cons_succ])
    refine AnyT.take [3, 4, 10, 13] (i := 2) (v := ?_) rfl (by kernel_rfl) (by kernel_rfl) (by kernel_rfl) (by kernel_rfl) (fun _ _ _ h => h) (Or.inl ⟨by rfl, ?_⟩) (by assumption) ?_
    rotate_left 1
    · intro w' hSw
      (try dsimp only at hSw)
      go_simp
      try with_reducible rfl
    (try simp only [Act.put]); (try simp only [List.setIfInBounds_toArray]); (try simp only [List.set_cons_zero]); (try simp only [List.set_cons_succ])
    refine AnyT.take [4, 10, 13] (i := 3) (v := ?_) rfl (by kernel_rfl) (by kernel_rfl) (by kernel_rfl) (by kernel_rfl) (fun _ _ _ h => h) (Or.inl ⟨by rfl, ?_⟩) (by assumption) ?_
    rotate_left 1
    · intro w' hSw
      (try dsimp only at hSw)
      go_simp
      try with_reducible rfl
    (try simp only [Act.put]); (try simp only [List.setIfInBounds_toArray]); (try simp only [List.set_cons_zero]); (try simp only [List.set_cons_succ])
    refine AnyT.take [10, 13] (i := 4) (v := ?_) rfl (by kernel_rfl) (by kernel_rfl) (by kernel_rfl) (by kernel_rfl) (fun _ _ _ h => h) (Or.inl ⟨by rfl, ?_⟩) (by assumption) ?_
    rotate_left 1
    · intro w' hSw
      (try dsimp only at hSw)
      go_simp
      try with_reducible rfl
    (try simp only [Act.put]); (try simp only [List.setIfInBounds_toArray]); (try simp only [List.set_cons_zero]); (try simp only [List.set_cons_succ])
    refine AnyT.take [6, 7, 8, 9, 10, 13] (i := 5) (v := ?_) rfl (by kernel_rfl) (by kernel_rfl) (by kernel_rfl) (by kernel_rfl) (fun _ _ _ h => h) (Or.inl ⟨by rfl, ?_⟩) (by assumption) ?_
    rotate_left 1
    · intro w' hSw
      (try dsimp only at hSw)
      go_simp
      try with_reducible rfl
    (try simp only [Act.put]); (try simp only [List.setIfInBounds_toArray]); (try simp only [List.set_cons_zero]); (try simp only [List.set_cons_succ])
    refine AnyT.take [7, 8, 9, 10, 13] (i := 6) (v := ?_) rfl (by kernel_rfl) (by kernel_rfl) (by kernel_rfl) (by kernel_rfl) (fun _ _ _ h => h) (Or.inl ⟨by rfl, ?_⟩) (by assumption) ?_
    rotate_left 1
    · intro w' hSw
      (try dsimp only at hSw)
      go_simp
      try with_reducible rfl
    (try simp only [Act.put]); (try simp only [List.setIfInBounds_toArray]); (try simp only [List.set_cons_zero]); (try simp only [List.set_cons_succ])
    refine AnyT.take [8, 9, 10, 13] (i := 7) (v := ?_) rfl (by kernel_rfl) (by kernel_rfl) (by kernel_rfl) (by kernel_rfl) (fun _ _ _ h => h) (Or.inl ⟨by rfl, ?_⟩) (by assumption) ?_
    rotate_left 1
    · intro w' hSw
      (try dsimp only at hSw)
      go_simp
      try with_reducible rfl
    (try simp only [Act.put]); (try simp only [List.setIfInBounds_toArray]); (try simp only [List.set_cons_zero]); (try simp only [List.set_cons_succ])
    refine AnyT.take [9, 10, 13] (i := 8) (v := ?_) rfl (by kernel_rfl) (by kernel_rfl) (by kernel_rfl) (by kernel_rfl) (fun _ _ _ h => h) (Or.inl ⟨by rfl, ?_⟩) (by assumption) ?_
    rotate_left 1
    · intro w' hSw
      (try dsimp only at hSw)
      go_simp
      try with_reducible rfl
    (try simp only [Act.put]); (try simp only [List.setIfInBounds_toArray]); (try simp only [List.set_cons_zero]); (try simp only [List.set_cons_succ])
    refine AnyT.one (i := 9) (by kernel_rfl) rfl (fun K hK => ?_)
    go_simp
    refine hK.out _ _ (fun _ => ?_) ?_
    · exact ⟨alloc_far l0 q0, alloc_far l2 q2, alloc_far lb yb, alloc_far lr r8⟩
    clear hK K
    (try simp only [Act.put]); (try simp only [List.setIfInBounds_toArray]); (try simp only [List.set_cons_zero]); (try simp only [List.set_cons_succ])
    refine AnyT.one (i := 10) (by kernel_rfl) rfl (fun K hK => ?_)
    refine step_app_int _ (by rfl) _ _ (by rfl) (r + 1) cv.d s.encl.length (intsV s.encl) (by rfl) (row_up hR2.rowD _) ⟨w2.heap.size, 0, none⟩ [.int .i64 (i : Int)] (by rfl) rfl (nine_block (cs := [.int .i64 (i : Int)]) (alloc_at w2 _)) (by simp [Value.oneCell']) hlen2 lrr ?_
    intro gr cr w5 hrow5 hgr5 hwh5
    obtain ⟨c58, fz58⟩ := hR2.cellD hgr5
    have c50 := (World.cell?_of_block (a := ⟨w.heap.size, 0, none⟩) (grown_block hgr5 l0 nB)).trans q0
    have c51 := (World.cell?_of_block (a := ⟨w.heap.size + 1 + 1, 0, none⟩) (grown_block hgr5 l2 nP)).trans q2
    have c52 := (World.cell?_of_block (a := ⟨bp, 1, none⟩) (grown_block hgr5 lb nL)).trans yb
    have hHeld5 : w5.cell? ⟨w.heap.size, 0, none⟩ = some (ptr r) ∧ w5.cell? ⟨w.heap.size + 1 + 1, 0, none⟩ = some (ptr bp) ∧ w5.cell? ⟨bp, 1, none⟩ = some (.int .i64 (i : Int)) ∧ w5.cell? ⟨r, 8, none⟩ = some cv.d := ⟨c50, c51, c52, c58⟩
    refine hK.out _ _ (fun _ => hHeld5) ?_
    clear hK K
    (try simp only [Act.put]); (try simp only [List.setIfInBounds_toArray]); (try simp only [List.set_cons_zero]); (try simp only [List.set_cons_succ])
    refine AnyT.take [12, 13] (i := 11) (v := ?_) rfl (by kernel_rfl) (by kernel_rfl) (by kernel_rfl) (by kernel_rfl) (fun _ _ _ h => h) (Or.inl ⟨by rfl, ?_⟩) (by assumption) ?_
    rotate_left 1
    · intro w' hSw
      (try dsimp only at hSw)
      go_simp
      try with_reducible rfl
    (try simp only [Act.put]); (try simp only [List.setIfInBounds_toArray]); (try simp only [List.set_cons_zero]); (try simp only [List.set_cons_succ])
    refine AnyT.take [13] (i := 12) (v := ?_) rfl (by kernel_rfl) (by kernel_rfl) (by kernel_rfl) (by kernel_rfl) (fun _ _ _ h => h) (Or.inl ⟨by rfl, ?_⟩) (by assumption) ?_
    rotate_left 1
    · intro w' hSw
      (try dsimp only at hSw)
      go_simp
      try with_reducible rfl
    (try simp only [Act.put]); (try simp only [List.setIfInBounds_toArray]); (try simp only [List.set_cons_zero]); (try simp only [List.set_cons_succ])
    refine AnyT.one (i := 13) (by kernel_rfl) rfl (fun K hK => ?_)
    go_simp
    refine hK.out _ _ (fun h => absurd h (by simp)) ?_
    clear hK K
    (try simp only [Act.put]); (try simp only [List.setIfInBounds_toArray]); (try simp only [List.set_cons_zero]); (try simp only [List.set_cons_succ])
    refine AnyT.done (by kernel_rfl) ?_ _
    clear hHeld5 c50 c51 c52 c58 fz58 hHeld
    obtain ⟨hR3, K3⟩ := hR2.addEncl hrow5 hgr5 hwh5
    have K53 := hK2.trans K3
    have hs3 := K3.size
    generalize (w5.setCell ⟨r, 8, none⟩ (.slice (some ⟨gr, 0, none⟩) (s.encl.length + 1) cr)) = w3 at hR3 K3 K53 hs3 ⊢
    generalize (Value.slice (some ⟨gr, 0, none⟩) (s.encl.length + 1) cr) = d3 at hR3 K3 K53
    clear hrow5 hgr5 hwh5 r8 rf q0 q2 lrr hlen2 yb lr lb l0 l2 hK2 hR2 hs2
    have q0 := K53.cell hS0 z0
    have q2 := K53.cell hS2 z4
    have y1 := K53.cell hS1 z1
    have y2 := K53.cell hS1 z2
    have y5 := K53.cell hS3 z5
    have y6 := K53.frozen hS3 z6
    have y7 := K53.cell hS4 z7
    have y8 := K53.cell hS4 z8
    have y9 := K53.frozen hS4 z9
    have y10 := K53.frozen hS4 z10
    have hs2 := K53.size
    have l0 : w.heap.size < w3.heap.size := by omega
    have l1 : w.heap.size + 1 < w3.heap.size := by omega
    have l2 : w.heap.size + 1 + 1 < w3.heap.size := by omega
    have l3 : w.heap.size + 1 + 1 + 1 < w3.heap.size := by omega
    have l4 : w.heap.size + 1 + 1 + 1 + 1 < w3.heap.size := by omega
    have KF := (Kep.below zb).trans K53
    have e0 := (K53.safe hS0).2
    have e1 := (K53.safe hS1).2
    have e2 := (K53.safe hS2).2
    have e3 := (K53.safe hS3).2
    have e4 := (K53.safe hS4).2
    clear z0 z1 z2 z3 z4 z5 z6 z7 z8 z9 z10 d1 d4 hR5 hS0 hS1 hS2 hS3 hS4 hSb K3
    have hz : ((f.toNat : Int) == 0) = false := by rw [beq_eq_false_iff_ne]; omega
    have x4 := hE.top (B := w3.heap.size + 2) (fun g hg => by have := hg.1; omega)
    go_wp2_with fail
    obtain ⟨v, vb, v1', v2⟩ := cloW_facts w3
    change Calls _ _ _ (cloW w3) _
    generalize cloW w3 = W22 at v vb v1' v2 ⊢
    refine (with_c (.pointer qe) f (.int .i64 0) (.iface 180 (ptr w3.heap.size)) ⟨_, rfl⟩ ⟨some (_, _), rfl⟩ ⟨_, rfl⟩ W22).mono ?_
    rintro e' w4 ⟨bs, rfl, hb1, hb2, hb3, g0, g1, g2, g3⟩
    have hs4 := hb3.size
    have B4 := vb.trans (hb3.mono (by omega))
    have q0' := (B4.cell (p := ⟨w.heap.size, 0, none⟩) l0).trans q0
    have q2' := (B4.cell (p := ⟨w.heap.size + 1 + 1, 0, none⟩) l2).trans q2
    have y2' := (B4.cell (p := ⟨w.heap.size + 1, 1, none⟩) l1).trans y2
    have y5' := (B4.cell (p := ⟨w.heap.size + 1 + 1 + 1, 0, none⟩) l3).trans y5
    have y6' := (B4.frozen (p := ⟨w.heap.size + 1 + 1 + 1, 0, none⟩) l3).trans y6
    have y7' := (B4.cell (p := ⟨w.heap.size + 1 + 1 + 1 + 1, 0, none⟩) l4).trans y7
    have y8' := (B4.cell (p := ⟨w.heap.size + 1 + 1 + 1 + 1, 1, none⟩) l4).trans y8
    have y9' := (B4.frozen (p := ⟨w.heap.size + 1 + 1 + 1 + 1, 0, none⟩) l4).trans y9
    have y10' := (B4.frozen (p := ⟨w.heap.size + 1 + 1 + 1 + 1, 1, none⟩) l4).trans y10
    have v1'' := (hb3.cell (p := ⟨w3.heap.size, 0, none⟩) (by show w3.heap.size < _; omega)).trans v1'
    have v2' := (hb3.frozen (p := ⟨w3.heap.size, 0, none⟩) (by show w3.heap.size < _; omega)).trans v2
    have hR4 := hR3.below B4
    have K4 := KF.trans (Kep.below B4)
    have kb := Kep.below (r := r) (cv := ⟨cv.c, d3⟩) B4
    have f0' := (kb.safe e0).2
    have f1' := (kb.safe e1).2
    have f2' := (kb.safe e2).2
    have f3' := (kb.safe e3).2
    have f4' := (kb.safe e4).2
    have fN := hR3.new (X := X) (W := w4) (g := w3.heap.size) (Nat.le_refl _) (by omega)
    have fB := hR3.new (X := X) (W := w4) (g := bs) (by omega) hb2
    have n1 : w3.heap.size ≠ w.heap.size + 1 + 1 + 1 := by omega
    have n2 : w3.heap.size ≠ w.heap.size + 1 + 1 + 1 + 1 := by omega
    have n5 : w.heap.size + 1 + 1 + 1 ≠ w.heap.size + 1 + 1 + 1 + 1 := by omega
    clear q0 q2 y1 y2 y5 y6 y7 y8 y9 y10 v1' v2 hR3 kb
    go_wp2_with fail
    have m0 : bs ≠ w.heap.size + 1 + 1 + 1 := by omega
    have m1 : bs ≠ w3.heap.size := by omega
    have m2 : bs ≠ w.heap.size + 1 + 1 + 1 + 1 := by omega
    have m3 : w.heap.size ≠ w3.heap.size := by omega
    have m4 : w.heap.size + 1 ≠ w3.heap.size := by omega
    have m5 : w.heap.size + 1 + 1 ≠ w3.heap.size := by omega
    have p40 : w.heap.size + 1 + 1 + 1 + 1 ≠ w.heap.size := by omega
    have p41 : w.heap.size + 1 + 1 + 1 + 1 ≠ w.heap.size + 1 := by omega
    have p42 : w.heap.size + 1 + 1 + 1 + 1 ≠ w.heap.size + 1 + 1 := by omega
    have p30 : w.heap.size + 1 + 1 + 1 ≠ w.heap.size := by omega
    have p31 : w.heap.size + 1 + 1 + 1 ≠ w.heap.size + 1 := by omega
    have p32 : w.heap.size + 1 + 1 + 1 ≠ w.heap.size + 1 + 1 := by omega
    have f1 : ∀ (p a : Addr) (v : Value) (W : World), p.block ≠ a.block → (W.setCell p v).cell? a = W.cell? a := fun p a v W h => World.cell?_setCell_other W p a v (fun e => h (by rw [e]))
    have j7 : ((w4.setCell ⟨w.heap.size + 1 + 1 + 1, 0, none⟩ (ptr bs)).setCell ⟨w3.heap.size, 0, none⟩ (.func (.func 89) #[] #[ptr w.heap.size, ptr (w.heap.size + 1 + 1), ptr (w.heap.size + 1 + 1 + 1), ptr (w.heap.size + 1)])).cell? ⟨w.heap.size + 1 + 1 + 1 + 1, 0, none⟩ = some (.int .i64 0) := by rw [f1 _ _ _ _ n2, f1 _ _ _ _ n5]; exact y7'
    have j8 : ((w4.setCell ⟨w.heap.size + 1 + 1 + 1, 0, none⟩ (ptr bs)).setCell ⟨w3.heap.size, 0, none⟩ (.func (.func 89) #[] #[ptr w.heap.size, ptr (w.heap.size + 1 + 1), ptr (w.heap.size + 1 + 1 + 1), ptr (w.heap.size + 1)])).cell? ⟨w.heap.size + 1 + 1 + 1 + 1, 1, none⟩ = some .nilIface := by rw [f1 _ _ _ _ n2, f1 _ _ _ _ n5]; exact y8'
    obtain ⟨k0, k1⟩ := set_two (u0 := .int .i64 0) (u1 := (.iface 180 (ptr w3.heap.size))) j7 j8
    refine bodyPost_ret (v := .agg #[.int .i64 0, (.iface 180 (ptr w3.heap.size))]) (by simp [results, Tryz.results58, go_sem, k0, k1]) rfl ?_
    refine clo_post (ee := ptr bs) (e0 := .pointer qe) hR ((((hR4.setSafe f3' _ _).setSafe (fN.set _ _) _ _).setSafe ((f4'.set _ _).set _ _) _ _).setSafe (((f4'.set _ _).set _ _).set _ _) _ _) ((((K4.setNew (by omega) _ _).setNew (by omega) _ _).setNew (by omega) _ _).setNew (by omega) _ _) hP0.out hE (b := w3.heap.size) (b0 := w.heap.size) (b1 := w.heap.size + 1) (b2 := w.heap.size + 1 + 1) (b3 := w.heap.size + 1 + 1 + 1) ((((fN.set _ _).set _ _).set _ _).set _ _) ((((f0'.set _ _).set _ _).set _ _).set _ _) ((((f1'.set _ _).set _ _).set _ _).set _ _) ((((f2'.set _ _).set _ _).set _ _).set _ _) ((((f3'.set _ _).set _ _).set _ _).set _ _) ?_ ?_ ?_ ?_ ?_ ?_
    · rw [f1 _ _ _ _ n2.symm, f1 _ _ _ _ n2.symm]
      exact World.cell?_setCell_same _ _ _ (u := .nilFunc) (by rw [f1 _ _ _ _ n1.symm]; exact v1'')
    · rw [f1 _ _ _ _ p40, f1 _ _ _ _ p40, f1 _ _ _ _ m3.symm, f1 _ _ _ _ p30]; exact q0'
    · rw [f1 _ _ _ _ p42, f1 _ _ _ _ p42, f1 _ _ _ _ m5.symm, f1 _ _ _ _ p32]; exact q2'
    · rw [f1 _ _ _ _ n5.symm, f1 _ _ _ _ n5.symm, f1 _ _ _ _ n1]
      exact World.cell?_setCell_same _ _ _ (u := .pointer qe) y5'
    · rw [f1 _ _ _ _ p41, f1 _ _ _ _ p41, f1 _ _ _ _ m4.symm, f1 _ _ _ _ p31]; exact y2'
    · have f2 : ∀ k v, w4.cell? ⟨bs, k, none⟩ = some v → ((((w4.setCell ⟨w.heap.size + 1 + 1 + 1, 0, none⟩ (ptr bs)).setCell ⟨w3.heap.size, 0, none⟩ (.func (.func 89) #[] #[ptr w.heap.size, ptr (w.heap.size + 1 + 1), ptr (w.heap.size + 1 + 1 + 1), ptr (w.heap.size + 1)])).setCell ⟨w.heap.size + 1 + 1 + 1 + 1, 0, none⟩ (.int .i64 0)).setCell ⟨w.heap.size + 1 + 1 + 1 + 1, 1, none⟩ (.iface 180 (ptr w3.heap.size))).cell? ⟨bs, k, none⟩ = some v := fun k v hv => by
        rw [f1 _ _ _ _ m2.symm, f1 _ _ _ _ m2.symm, f1 _ _ _ _ m1.symm, f1 _ _ _ _ m0.symm]; exact hv
      exact ⟨bs, rfl, ((((fB.set _ _).set _ _).set _ _).set _ _), f2 _ _ g0, f2 _ _ g1, f2 _ _ g2, f2 _ _ g3, by have := hE.top (B := w.heap.size) (fun g hg => hg.1); omega⟩
end Go.Proofs.YtjfhncfbejephaaGreatDoor

/- The program's closures are called: their bodies. -/
namespace Go.Proofs.YtjfhncfbejephaaGreatDoor
open Go.RowKit Go.Shelf
open Ff
set_option linter.unusedVariables false
variable {X : Nat → Prop}
attribute [local irreducible] Calls

/-! A block that is one's own: what is evaluated in the meantime does not speak of it. -/
theorem RunAt.hide {r : Nat} {cv : Rw} {w : World} {s : St} (h : RunAt X r cv w s) {b : Nat} (hb : b < w.heap.size) : RunAt (AndX X b) r cv w s := ⟨h.cells, h.row, h.rowD, h.len, h.sep, fun g hg => hg.elim (h.priv g) (fun e => by omega)⟩
theorem RunAt.bare {r : Nat} {cv : Rw} {w : World} {s : St} {b : Nat} (h : RunAt (AndX X b) r cv w s) : RunAt X r cv w s := ⟨h.cells, h.row, h.rowD, h.len, h.sep, fun g hg => h.priv g (.inl hg)⟩
theorem Kep.hide {r : Nat} {c0 c1 : Rw} {w0 w1 : World} (h : Kep r c0 w0 c1 w1) {b : Nat} (hb : w0.heap.size ≤ b) (g : Nat) (hs : Safe X r c0 w0 g) : w1.heap[g]? = w0.heap[g]? ∧ Safe (AndX X b) r c1 w1 g :=
  have k := h.safe hs
  ⟨k.1, k.2.1, k.2.2.1, k.2.2.2.1, fun e => e.elim k.2.2.2.2 (fun e => by have := hs.1; omega)⟩
theorem set_hidden {r : Nat} {c1 : Rw} {w1 : World} {b k : Nat} {u : Value} (g : Nat) (hs : Safe (AndX X b) r c1 w1 g) : (w1.setCell ⟨b, k, none⟩ u).heap[g]? = w1.heap[g]? ∧ Safe (AndX X b) r c1 (w1.setCell ⟨b, k, none⟩ u) g :=
  ⟨Below.heap_setCell _ _ _ _ (fun e => hs.2.2.2 (.inr e)), by simpa using hs.1, hs.2.1, hs.2.2.1, hs.2.2.2⟩
theorem safe_bare {r : Nat} {c1 : Rw} {w1 : World} {b : Nat} (g : Nat) (hs : Safe (AndX X b) r c1 w1 g) : w1.heap[g]? = w1.heap[g]? ∧ Safe X r c1 w1 g := ⟨rfl, hs.1, hs.2.1, hs.2.2.1, fun e => hs.2.2.2 (.inl e)⟩
theorem set_far (W : World) (b k : Nat) (v : Value) (c j : Nat) (h : c ≠ b) : (W.setCell ⟨b, k, none⟩ v).cell? ⟨c, j, none⟩ = W.cell? ⟨c, j, none⟩ := World.cell?_setCell_other W _ _ v (fun e => h (by injection e with e; exact e.symm))
/-- What a run that panics leaves. -/
def PanP (X : Nat → Prop) (r : Nat) (cv : Rw) (w : World) (s : St) (c : List PanicEntry) (e : Ending) (w' : World) : Prop := e = .panicked c ∧ ∃ cv' s', RunAt X r cv' w' s' ∧ Kep r cv w cv' w' ∧ s'.depth = s.depth
def panC : Ou → List PanicEntry
  | .ok _ _ => []
  | .fault => faultC
  | .long => longC
def Ou.bad : Ou → Prop
  | .ok _ _ => False
  | _ => True
theorem Ou.cases (o : Ou) : (∃ v s, o = .ok v s) ∨ o.bad := by cases o; exact .inl ⟨_, _, rfl⟩; exact .inr trivial; exact .inr trivial
theorem evPost_bad {o : Ou} (h : o.bad) (r : Nat) (cv : Rw) (w : World) (s : St) (e : Ending) (w' : World) : EvPost X r cv w s o e w' ↔ PanP X r cv w s (panC o) e w' := by cases o; exact h.elim; exact Iff.rfl; exact Iff.rfl
theorem panC_cases {o : Ou} (h : o.bad) : panC o = faultC ∨ panC o = longC := by cases o; exact h.elim; exact .inl rfl; exact .inr rfl
theorem Ou.next_bad {o : Ou} (h : o.bad) (k : Vl → St → Ou) : o.next k = o := by cases o; exact h.elim; rfl; rfl
/-- The end of what evaluates: the value lies in the result's own block. -/
theorem ev_out0 {r b : Nat} {cv cv' : Rw} {a0 a1 : Value} {w w3 : World} {s0 s' : St} {v : Vl} (hR : RunAt X r cv w s0) (hb : w.heap.size ≤ b) (hv : RepV r (Safe (AndX X b) r cv' w3) w3 v (.agg #[a0, a1])) (hR3 : RunAt (AndX X b) r cv' w3 s') (K3 : Kep r cv w cv' w3) (hbl : b < w3.heap.size) (hbo : ¬ cv'.own b) :
    RepV r (Safe X r cv' ((w3.setCell ⟨b, 0, none⟩ a0).setCell ⟨b, 1, none⟩ a1)) ((w3.setCell ⟨b, 0, none⟩ a0).setCell ⟨b, 1, none⟩ a1) v (.agg #[a0, a1]) ∧ RunAt X r cv' ((w3.setCell ⟨b, 0, none⟩ a0).setCell ⟨b, 1, none⟩ a1) s' ∧ Kep r cv w cv' ((w3.setCell ⟨b, 0, none⟩ a0).setCell ⟨b, 1, none⟩ a1) := by
  have hr := hR.lt
  have st : ∀ (W : World) (k : Nat) (u : Value), RunAt X r cv' W s' → RunAt X r cv' (W.setCell ⟨b, k, none⟩ u) s' := fun W k u h => h.setFar (by omega) hbo k u
  exact ⟨((hv.keep set_hidden).keep set_hidden).keep safe_bare, st _ _ _ (st _ _ _ hR3.bare), (K3.setNew hb _ _).setNew hb _ _⟩
theorem ev_out {r b : Nat} {cv cv' : Rw} {a0 a1 : Value} {w w3 : World} {s s0 s' : St} {v : Vl} (hR : RunAt X r cv w s0) (hb : w.heap.size ≤ b) (hv : RepV r (Safe (AndX X b) r cv' w3) w3 v (.agg #[a0, a1])) (hR3 : RunAt (AndX X b) r cv' w3 s') (K3 : Kep r cv w cv' w3) (hbl : b < w3.heap.size) (hbo : ¬ cv'.own b) :
    EvPost X r cv w s (.ok v s') (.returned (.agg #[a0, a1])) ((w3.setCell ⟨b, 0, none⟩ a0).setCell ⟨b, 1, none⟩ a1) := ⟨_, cv', rfl, ev_out0 hR hb hv hR3 K3 hbl hbo⟩
theorem pan_out {r b : Nat} {cv cv1 : Rw} {w w2 w3 : World} {s s1 : St} {c : List PanicEntry} {e : Ending} (K : Kep r cv w cv1 w2) (hd : s1.depth = s.depth) (h : PanP (AndX X b) r cv1 w2 s1 c e w3) : PanP X r cv w s c e w3 := by
  obtain ⟨h1, cv', s', h2, h3, h4⟩ := h
  exact ⟨h1, cv', s', h2.bare, K.trans h3, h4.trans hd⟩
theorem evPost_kep {r : Nat} {cv : Rw} {w w' : World} {s : St} {o : Ou} {e : Ending} (h : EvPost X r cv w s o e w') : ∃ cv', Kep r cv w cv' w' := by
  cases o with
  | ok v s' => obtain ⟨x, cv', _, _, _, h⟩ := h; exact ⟨cv', h⟩
  | fault => obtain ⟨_, cv', _, _, h, _⟩ := h; exact ⟨cv', h⟩
  | long => obtain ⟨_, cv', _, _, h, _⟩ := h; exact ⟨cv', h⟩
/-- What evaluates, where no more than n steps are left. -/
def EvC (n : Nat) : Prop := ∀ (X : Nat → Prop) (t : Tm) (i : Nat) (e : En) (s : St) (r : Nat) (cv : Rw) (pv ep : Value) (w : World), 1501 ≤ s.steps + n → StB s → TmOk t i e → RunAt X r cv w s → PlaceR (Safe X r cv w) w t i pv → RepE r (Safe X r cv w) w e ep →
  Calls Tryz.prog 42 #[ptr r, pv, ep] w (EvPost X r cv w s (ev n t i e s))
/-- The names as they are within a closure's body. -/
theorem body_env {r b : Nat} {S : Nat → Prop} {w : World} {g : Tm} {j : Nat} {e : En} {y : Vl} {a0 a1 ee e0 : Value} {bs : Nat} (hg : isFun g = true) (hv : RepV r S w (.clo j g e) (.agg #[.int .i64 0, .iface 180 (ptr b)])) (hee : CloEnv S w g b ee e0) (he : RepE r S w e e0) (hy : RepV r S w y (.agg #[a0, a1]))
    (hb : S bs) (c0 : w.cell? ⟨bs, 0, none⟩ = some (.int .u8 ((paramOf g).toNat : Int))) (c1 : w.cell? ⟨bs, 1, none⟩ = some a0) (c2 : w.cell? ⟨bs, 2, none⟩ = some a1) (c3 : w.cell? ⟨bs, 3, none⟩ = some ee) (ho : ptrN ee ≤ bs) : RepE r S w (bodyEn g j e y) (ptr bs) := by
  cases g with
  | fn c t => cases hee; exact .cons _ _ _ _ _ _ _ hb c0 c1 c2 c3 ho hy he
  | fix f c t =>
    obtain ⟨bs', rfl, h2, h3, h4, h5, h6, h7⟩ := hee
    exact .cons _ _ _ _ _ _ _ hb c0 c1 c2 c3 ho hy (.cons _ _ _ _ _ _ _ h2 h3 h4 h5 h6 h7 hv he)
  | _ => cases hg
theorem cloEnv_form {r b : Nat} {S : Nat → Prop} {w : World} {g : Tm} {e : En} {ee e0 : Value} (hee : CloEnv S w g b ee e0) (he : RepE r S w e e0) : (∃ p, ee = .pointer p) ∧ ∀ B, (∀ g, S g → g < B) → ptrN ee ≤ B := by
  cases g with
  | fix f c t => obtain ⟨bs, rfl, h2, _⟩ := hee; exact ⟨⟨_, rfl⟩, fun B h => h bs h2⟩
  | _ => cases hee; exact ⟨he.form, fun B h => he.top h⟩
/-- The first kid's place. -/
theorem kid_place {S : Nat → Prop} {w : World} {t s : Tm} {i k : Nat} {v : Value} (h : PlaceR S w t i v) (hs : t.kids[k]? = some s) : ∃ b g cap pk, v = ptr b ∧ S b ∧ S g ∧ w.cell? ⟨b, 3, none⟩ = some (.slice (some ⟨g, 0, none⟩) t.kids.length cap) ∧ w.cell? ⟨g, k, none⟩ = some pk ∧ PlaceR S w s (i + (before t k).length) pk := by
  cases h with
  | mk _ _ b g cap kv pk hb c0 c1 c3 c4 hkv hc hk =>
    obtain ⟨rfl, hg⟩ := hkv (fun e => by rw [e] at hs; simp at hs)
    exact ⟨b, g, cap, pk k, rfl, hb, hg, c3, hc k s hs, hk k s hs⟩
theorem place_idx {S : Nat → Prop} {w : World} {t : Tm} {i b : Nat} (h : PlaceR S w t i (ptr b)) : w.cell? ⟨b, 1, none⟩ = some (.int .i64 (i : Int)) := by
  cases h; assumption
theorem PlaceR.form {S : Nat → Prop} {w : World} {t : Tm} {i : Nat} {v : Value} (h : PlaceR S w t i v) : ∃ b, v = ptr b := by cases h; exact ⟨_, rfl⟩
theorem fun_kid {g : Tm} (h : isFun g = true) : g.kids[0]? = some (bodyOf g) ∧ g.kids.length = 1 ∧ (before g 0).length = 1 := by cases g <;> first | exact ⟨rfl, rfl, rfl⟩ | cases h
/-- The result's block, first. -/
theorem res_block (w : World) : ∃ z0 z1, (w.alloc (.cells #[.int .i64 0, .nilIface] 106)).heap[w.heap.size]? = some (.cells #[z0, z1] 106 (0, 0)) := ⟨_, _, World.alloc_heap_new w _⟩
end Go.Proofs.YtjfhncfbejephaaGreatDoor
