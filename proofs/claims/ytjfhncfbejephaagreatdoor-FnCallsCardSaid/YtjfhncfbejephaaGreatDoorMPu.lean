import Derived.Test.YtjfhncfbejephaaGreatDoorPuA
import Derived.Test.YtjfhncfbejephaaGreatDoorMSp
import Derived.Lib.AppendIntMem
/- The program's remade: a part with other names and kids. Written by genPu.py. -/
namespace Go.Proofs.YtjfhncfbejephaaGreatDoor
open Go.RowKit
open Ff
set_option linter.unusedVariables false
attribute [local go_sem] Oper.semAt_some

def isApp : Tm → Bool
  | .app _ _ => true | _ => false
def isOp : Tm → Bool
  | .op _ _ _ => true | _ => false
def isSel : Tm → Bool
  | .sel _ _ _ => true | _ => false
def appV : Tm → Value
  | .app f a => pl (.app f a) | _ => .agg #[.nilIface, .nilIface]
def opVal : Tm → Value
  | .op o l r => pl (.op o l r) | _ => .agg #[.int .u8 0, .nilIface, .nilIface]
def selV : Tm → Value
  | .sel x y z => pl (.sel x y z) | _ => .agg #[.nilIface, .nilIface, .nilIface]
theorem ta_app (t : Tm) (w : World) : (Instr.typeAssert (.iface (ty t) (pl t)) 63 143 true).run Tryz.prog w = .ok (.tuple #[appV t, .bool (isApp t)]) w := by
  cases t <;> kernel_rfl
theorem ta_op (t : Tm) (w : World) : (Instr.typeAssert (.iface (ty t) (pl t)) 63 149 true).run Tryz.prog w = .ok (.tuple #[opVal t, .bool (isOp t)]) w := by
  cases t <;> kernel_rfl
theorem ta_sel (t : Tm) (w : World) : (Instr.typeAssert (.iface (ty t) (pl t)) 63 153 true).run Tryz.prog w = .ok (.tuple #[selV t, .bool (isSel t)]) w := by
  cases t <;> kernel_rfl
end Go.Proofs.YtjfhncfbejephaaGreatDoor

/- Rows that the program has made and stores into. -/
namespace Go.Proofs.YtjfhncfbejephaaGreatDoor
open Go.RowKit
open Ff
set_option linter.unusedVariables false

theorem row_setI {W : World} {base : Nat} {e : TypeId} {n g cap : Nat} {xs : List Value} (h : W.ownsRow base e 1 (.slice (some ⟨g, 0, none⟩) n cap) n xs) (j : Nat) (u : Value) : (W.setCell ⟨g, j, none⟩ u).ownsRow base e 1 (.slice (some ⟨g, 0, none⟩) n cap) n (xs.set j u) := by
  obtain ⟨h1, h2⟩ := h
  refine ⟨by simpa using h1, ?_⟩
  rcases h2 with ⟨h2, _⟩ | ⟨g', cap', cur, hv, hb, hh, hn, hm, hc, ht⟩
  · cases h2
  · injection hv with hv1 hv2 hv3
    injection hv1 with hv1
    injection hv1 with hv1
    subst hv1 hv3
    refine .inr ⟨g, cap, cur.setIfInBounds j u, rfl, hb, ?_, hn, hm, by simpa using hc, ?_⟩
    · obtain ⟨hlt, hk⟩ := Array.getElem?_eq_some_iff.1 hh
      show (W.heap.modify g _)[g]? = _
      rw [Array.getElem?_eq_getElem (by rw [Array.size_modify]; exact hlt), Array.getElem_modify_self, hk]
      rfl
    · rw [Nat.mul_one] at ht ⊢
      rw [Array.toList_setIfInBounds, List.take_set, ht]
theorem Ints.frozen {W : World} {base : Nat} {e : TypeId} {n g cap size : Nat} {xs : List Value} (h : W.ownsRow base e size (.slice (some ⟨g, 0, none⟩) n cap) n xs) (j : Nat) : W.frozen? ⟨g, j, none⟩ = false := by
  rcases h.2 with ⟨h2, _⟩ | ⟨g', cap', cur, hv, hb, hh, hn, hm, hc, ht⟩
  · cases h2
  · injection hv with hv1
    injection hv1 with hv1
    injection hv1 with hv1
    subst hv1
    simp [World.frozen?, hh]
end Go.Proofs.YtjfhncfbejephaaGreatDoor

/- The program's visitKids: what visitors make of the kids of a part. -/
namespace Go.Proofs.YtjfhncfbejephaaGreatDoor
open Go.RowKit
open Ff
set_option linter.unusedVariables false
attribute [local go_sem] Oper.semAt_some

theorem Tryz.infoTm : (Tryz.prog.info? 63).map (fun i => (i.zero, i.size, i.bytes)) = some (some .nilIface, 1, 16) := by kernel_rfl
theorem ownsRow_keep {W W' : World} {base : Nat} {e : TypeId} {size n : Nat} {v : Value} {xs : List Value} (h : W.ownsRow base e size v n xs) (hb : Below W.heap.size W W') : W'.ownsRow base e size v n xs :=
  World.ownsRow.kept (row := none) h (below_grown hb) (by rcases ho : Value.ownBlock v with _ | j; exact .inl rfl; exact .inr (by simp))
theorem last_eq {k n : Nat} (h : k + 1 = n) : ((k : Int) == (n : Int) - 1) = true := by subst h; simp
theorem last_ne {k n : Nat} (h : k + 1 ≠ n) : ((k : Int) == (n : Int) - 1) = false := by rw [beq_eq_false_iff_ne]; omega

end Go.Proofs.YtjfhncfbejephaaGreatDoor

/- The program's putting: a new one; a name that is not taken; the names that are. -/
namespace Go.Proofs.YtjfhncfbejephaaGreatDoor
open Go.RowKit
open Ff
set_option linter.unusedVariables false
attribute [local go_sem] Oper.semAt_some

/-- A putting as the program holds it. -/
abbrev putV (x : UInt8) (u : Tm) (b : Nat) : Value := .agg #[bv x, enc u, .map (some b)]
theorem three_ofP {w : World} {b : Nat} {z0 z1 z2 : Value} {t : TypeId} (h : w.heap[b]? = some (.cells #[z0, z1, z2] t (0, 0))) : w.cell? ⟨b, 0, none⟩ = some z0 ∧ w.cell? ⟨b, 1, none⟩ = some z1 ∧ w.cell? ⟨b, 2, none⟩ = some z2 ∧ ∀ k, w.frozen? ⟨b, k, none⟩ = false := by
  refine ⟨?_, ?_, ?_, fun k => ?_⟩ <;> simp [World.cell?, World.frozen?, h]
/-- How often a name stands free in a part's body and in what is put. -/
def baseM (u t : Tm) : UInt8 → Nat := fun c => cntF (lastK t) c + cntF u c
/-- How often a name is taken for a part. -/
def takeM (x : UInt8) (u t : Tm) (k : Nat) : UInt8 → Nat := fun c => cntF (lastK t) c + cntF u c + (if c = x then 1 else 0) + ((bindsOf t).take k).count c
theorem take_zero (x : UInt8) (u t : Tm) (c : UInt8) : upd (baseM u t) x (baseM u t x + 1) c = takeM x u t 0 c := by
  unfold upd takeM baseM
  by_cases e : c = x
  · subst e; simp
  · simp [e]
theorem take_succ (x : UInt8) (u t : Tm) (k : Nat) (c : UInt8) (hc : (bindsOf t)[k]? = some c) (y : UInt8) : upd (takeM x u t k) c (takeM x u t k c + 1) y = takeM x u t (k + 1) y := by
  unfold upd takeM
  rw [List.take_add_one, hc]
  simp only [Option.toList_some, List.count_append, List.count_singleton]
  by_cases e : y = c
  · subst e; simp; omega
  · have e2 : ¬ c = y := fun h => e h.symm
    simp [e, e2]
theorem take_le (x : UInt8) (u t : Tm) (c : UInt8) (k : Nat) (hu : (parts u).length ≤ 4000) (hp : (parts (lastK t)).length ≤ 4000) : takeM x u t k c ≤ 9000 := by
  have h1 := cnt_le (lastK t) c
  have h2 := cnt_le u c
  have h3 : ((bindsOf t).take k).count c ≤ 2 := Nat.le_trans List.count_le_length (Nat.le_trans (by rw [List.length_take]; omega) (binds_len t))
  unfold takeM
  split <;> omega
/-- The first name that is not taken. -/
theorem take_new (x : UInt8) (u t : Tm) (hu : u.good) (ht : (lastK t).good) : (butTo (takeM x u t (bindsOf t).length) 16).head? = newO (sfree u ++ sfree (lastK t) ++ bindsOf t ++ [x]) := by
  have h0 : ∀ (p q : UInt8 → Bool) (l : Text), (∀ c, p c = q c) → (l.filter p).head? = l.find? q := by
    intro p q l h
    induction l with
    | nil => rfl
    | cons c l ih => simp only [List.filter_cons, List.find?_cons, ← h c]; cases p c <;> simp [ih]
  unfold newO butTo
  rw [show letters.take 16 = letters from rfl]
  refine h0 _ _ _ fun c => ?_
  have h1 := mem_free hu c
  have h2 := mem_free ht c
  rw [decide_eq_decide]
  simp only [takeM, List.take_length, List.mem_append, List.mem_singleton, h1, h2]
  by_cases e : c = x
  · simp [e]
  · simp only [e, if_false]
    have h3 : (bindsOf t).count c = 0 ↔ c ∉ bindsOf t := List.count_eq_zero
    constructor
    · intro h
      have := h3.1 (by omega)
      simp [this]; omega
    · intro h
      simp only [not_or, Classical.not_not, or_false] at h
      have := h3.2 h.2
      omega
end Go.Proofs.YtjfhncfbejephaaGreatDoor

/- The program's putting: a binder gets another name. -/
namespace Go.Proofs.YtjfhncfbejephaaGreatDoor
open Go.RowKit
open Ff
set_option linter.unusedVariables false
attribute [local go_sem] Oper.semAt_some

theorem bound_own_of (w : World) (o : Obj) (l : List Value) (t : TypeId) (hl : l ≠ []) :
    ∃ g, Value.slice (some ⟨w.heap.size + 1, 0, none⟩) l.length l.length = .slice (some ⟨g, 0, none⟩) l.length l.length ∧ w.heap.size ≤ g ∧ g < ((w.alloc o).alloc (.cells l.toArray t)).heap.size ∧ (∀ i v, l[i]? = some v → ((w.alloc o).alloc (.cells l.toArray t)).cell? ⟨g, i, none⟩ = some v) ∧
      (∀ k, ((w.alloc o).alloc (.cells l.toArray t)).frozen? ⟨g, k, none⟩ = false) ∧ Below w.heap.size w ((w.alloc o).alloc (.cells l.toArray t)) := by
  refine ⟨w.heap.size + 1, rfl, by omega, by simp, fun i v hv => ?_, fun k => ?_, below_two w _ _⟩
  · rcases slice_new w o l t hl with ⟨h, _⟩ | ⟨_, g, h1, h2, h3, h4⟩
    · exact absurd h hl
    · injection h1 with h1
      injection h1 with h1
      injection h1 with h1
      rw [h1]
      exact h4 i v hv
  · have h := World.alloc_heap_new (w.alloc o) (.cells l.toArray t)
    rw [World.size_alloc] at h
    simp only [World.frozen?, h]
    simp
/-- The names that a binder binds, in a row of the caller's own. -/
theorem boundBy_own (t : Tm) (hgd : t.good) (hb : bindsOf t ≠ []) (w : World) :
    Calls Tryz.prog 53 #[enc t] w fun e w' => ∃ g, e = .returned (.slice (some ⟨g, 0, none⟩) (bindsOf t).length (bindsOf t).length) ∧ w.heap.size ≤ g ∧ g < w'.heap.size ∧ (∀ i c, (bindsOf t)[i]? = some c → w'.cell? ⟨g, i, none⟩ = some (bv c)) ∧
      (∀ k, w'.frozen? ⟨g, k, none⟩ = false) ∧ Below w.heap.size w w' := by
  have go : ∀ (e : Ending) (w' : World) (o : Obj) (l : Text), l ≠ [] → e = .returned (.slice (some ⟨w.heap.size + 1, 0, none⟩) l.length l.length) → w' = (w.alloc o).alloc (.cells (l.map bv).toArray 5) →
      ∃ g, e = .returned (.slice (some ⟨g, 0, none⟩) l.length l.length) ∧ w.heap.size ≤ g ∧ g < w'.heap.size ∧ (∀ i c, l[i]? = some c → w'.cell? ⟨g, i, none⟩ = some (bv c)) ∧ (∀ k, w'.frozen? ⟨g, k, none⟩ = false) ∧ Below w.heap.size w w' := by
    rintro e w' o l hl rfl rfl
    obtain ⟨g, h1, h2, h3, h4, h5, h6⟩ := bound_own_of w o (l.map bv) 5 (by simpa using hl)
    simp only [List.length_map] at h1
    exact ⟨g, by rw [h1], h2, h3, fun i c hc => h4 i _ (by simp [hc]), h5, h6⟩
  cases t with
  | fn c b => exact (boundBy_fn c b w).mono (by rintro e w' ⟨o, rfl, rfl⟩; exact go _ _ o [c] (by simp) rfl rfl)
  | fix f c b =>
    have hf : f.toNat ≠ 0 := by
      have := hgd.1
      simp only [isNam, Bool.and_eq_true, decide_eq_true_eq] at this
      omega
    exact (boundBy_fix f c b hf w).mono (by rintro e w' ⟨o, rfl, rfl⟩; exact go _ _ o [f, c] (by simp) rfl rfl)
  | bind c x b => exact (boundBy_bind c x b w).mono (by rintro e w' ⟨o, rfl, rfl⟩; exact go _ _ o [c] (by simp) rfl rfl)
  | num _ => exact absurd rfl hb
  | var _ => exact absurd rfl hb
  | app _ _ => exact absurd rfl hb
  | op _ _ _ => exact absurd rfl hb
  | sel _ _ _ => exact absurd rfl hb
/-- A binder with other names and another body. -/
def withNB : Tm → Text → Tm → Tm
  | .fn _ _, ns, b => .fn (ns.headD 0) b
  | .fix _ _ _, ns, b => .fix (ns.headD 0) ((ns.drop 1).headD 0) b
  | .bind _ v _, ns, b => .bind (ns.headD 0) v b
  | t, _, _ => t
/-- What the kids become where the last alone turns. -/
def rsLast (t : Tm) (r : Tm × Bool) : List (Tm × Bool) := t.kids.dropLast.map (fun s => (s, true)) ++ [r]
theorem binder_kids {t : Tm} (h : bindsOf t ≠ []) : t.kids ≠ [] := by cases t <;> simp [bindsOf] at h <;> simp [Tm.kids]
theorem rsLast_len {t : Tm} (h : t.kids ≠ []) (r : Tm × Bool) : (rsLast t r).length = t.kids.length := by
  have := List.length_pos_iff.2 h
  simp [rsLast]; omega
theorem rsLast_re {t : Tm} (h : bindsOf t ≠ []) (ns : Text) (r : Tm × Bool) : reTm t ns ((rsLast t r).map (·.1)) = withNB t ns r.1 := by
  cases t <;> simp [bindsOf] at h <;> simp [rsLast, Tm.kids, reTm, withNB]
theorem rsLast_all (t : Tm) (r : Tm × Bool) : (rsLast t r).all (·.2) = r.2 := by
  unfold rsLast
  rw [List.all_append]
  have : (t.kids.dropLast.map (fun s => (s, true))).all (·.2) = true := by
    rw [List.all_map]
    exact List.all_eq_true.2 fun _ _ => rfl
  rw [this]
  simp
theorem rsLast_at {t : Tm} (h : t.kids ≠ []) (r : Tm × Bool) {k : Nat} {s : Tm} {q : Tm × Bool} (hs : t.kids[k]? = some s) (hq : (rsLast t r)[k]? = some q) : (k + 1 = t.kids.length ∧ s = lastK t ∧ q = r) ∨ (k + 1 ≠ t.kids.length ∧ q = (s, true)) := by
  have hl := List.length_pos_iff.2 h
  have hk := (List.getElem?_eq_some_iff.1 hs).1
  unfold rsLast at hq
  by_cases e : k + 1 = t.kids.length
  · refine .inl ⟨e, ?_, ?_⟩
    · unfold lastK
      rw [List.getLast?_eq_getElem?, show t.kids.length - 1 = k by omega, hs]; rfl
    · rw [List.getElem?_append_right (by simp; omega)] at hq
      simp only [List.length_map, List.length_dropLast, show k - (t.kids.length - 1) = 0 by omega, List.getElem?_cons_zero, Option.some.injEq] at hq
      exact hq.symm
  · refine .inr ⟨e, ?_⟩
    rw [List.getElem?_append_left (by simp; omega)] at hq
    simp only [List.getElem?_map, List.getElem?_dropLast] at hq
    rw [if_pos (by omega), hs] at hq
    simpa using hq.symm
theorem lastK_mem {t : Tm} (hk : t.kids ≠ []) : lastK t ∈ t.kids := by
  unfold lastK
  rcases h : t.kids.getLast? with _ | y
  · rw [List.getLast?_eq_none_iff] at h; exact absurd h hk
  · exact List.mem_of_getLast? h
end Go.Proofs.YtjfhncfbejephaaGreatDoor
