import Derived.Test.YtojbffiffcfblaaPuD
/- The program's putting: a binder gets another name. -/
namespace Go.Proofs.Ytojbffiffcfblaa
open Go.RowKit
open Ff
set_option linter.unusedVariables false
attribute [local go_sem] Oper.semAt_some

theorem bound_own_of (w : World) (o : Obj) (l : List Value) (t : TypeId) (hl : l ≠ []) :
    ∃ g, Value.slice (some ⟨w.heap.size + 1, 0, none⟩) l.length l.length = .slice (some ⟨g, 0, none⟩) l.length l.length ∧ w.heap.size ≤ g ∧ g < ((w.alloc o).alloc (.cells l.toArray t)).heap.size ∧ (∀ i v, l[i]? = some v → ((w.alloc o).alloc (.cells l.toArray t)).cell? ⟨g, i, none⟩ = some v) ∧
      (∀ k, ((w.alloc o).alloc (.cells l.toArray t)).frozen? ⟨g, k, none⟩ = false) ∧ Below w.heap.size w ((w.alloc o).alloc (.cells l.toArray t)) := by
  refine ⟨w.heap.size + 1, rfl, by omega, by simp, fun i v hv => ?_, fun k => ?_, below_two w _ _⟩
  · rcases slice_new w o l t hl with ⟨h, _⟩ | ⟨_, g, h1, h2, h3, h4⟩
    · exact absurd h hl
    · injection h1 with h1
      injection h1 with h1
      injection h1 with h1
      rw [h1]
      exact h4 i v hv
  · have h := World.alloc_heap_new (w.alloc o) (.cells l.toArray t)
    rw [World.size_alloc] at h
    simp only [World.frozen?, h]
    simp
/-- The names that a binder binds, in a row of the caller's own. -/
theorem boundBy_own (t : Tm) (hgd : t.good) (hb : bindsOf t ≠ []) (w : World) :
    Calls Try.prog 37 #[enc t] w fun e w' => ∃ g, e = .returned (.slice (some ⟨g, 0, none⟩) (bindsOf t).length (bindsOf t).length) ∧ w.heap.size ≤ g ∧ g < w'.heap.size ∧ (∀ i c, (bindsOf t)[i]? = some c → w'.cell? ⟨g, i, none⟩ = some (bv c)) ∧
      (∀ k, w'.frozen? ⟨g, k, none⟩ = false) ∧ Below w.heap.size w w' := by
  have go : ∀ (e : Ending) (w' : World) (o : Obj) (l : Text), l ≠ [] → e = .returned (.slice (some ⟨w.heap.size + 1, 0, none⟩) l.length l.length) → w' = (w.alloc o).alloc (.cells (l.map bv).toArray 5) →
      ∃ g, e = .returned (.slice (some ⟨g, 0, none⟩) l.length l.length) ∧ w.heap.size ≤ g ∧ g < w'.heap.size ∧ (∀ i c, l[i]? = some c → w'.cell? ⟨g, i, none⟩ = some (bv c)) ∧ (∀ k, w'.frozen? ⟨g, k, none⟩ = false) ∧ Below w.heap.size w w' := by
    rintro e w' o l hl rfl rfl
    obtain ⟨g, h1, h2, h3, h4, h5, h6⟩ := bound_own_of w o (l.map bv) 5 (by simpa using hl)
    simp only [List.length_map] at h1
    exact ⟨g, by rw [h1], h2, h3, fun i c hc => h4 i _ (by simp [hc]), h5, h6⟩
  cases t with
  | fn c b => exact (boundBy_fn c b w).mono (by rintro e w' ⟨o, rfl, rfl⟩; exact go _ _ o [c] (by simp) rfl rfl)
  | fix f c b =>
    have hf : f.toNat ≠ 0 := by
      have := hgd.1
      simp only [isNam, Bool.and_eq_true, decide_eq_true_eq] at this
      omega
    exact (boundBy_fix f c b hf w).mono (by rintro e w' ⟨o, rfl, rfl⟩; exact go _ _ o [f, c] (by simp) rfl rfl)
  | bind c x b => exact (boundBy_bind c x b w).mono (by rintro e w' ⟨o, rfl, rfl⟩; exact go _ _ o [c] (by simp) rfl rfl)
  | num _ => exact absurd rfl hb
  | var _ => exact absurd rfl hb
  | app _ _ => exact absurd rfl hb
  | op _ _ _ => exact absurd rfl hb
  | sel _ _ _ => exact absurd rfl hb
/-- A binder with other names and another body. -/
def withNB : Tm → Text → Tm → Tm
  | .fn _ _, ns, b => .fn (ns.headD 0) b
  | .fix _ _ _, ns, b => .fix (ns.headD 0) ((ns.drop 1).headD 0) b
  | .bind _ v _, ns, b => .bind (ns.headD 0) v b
  | t, _, _ => t
/-- What the kids become where the last alone turns. -/
def rsLast (t : Tm) (r : Tm × Bool) : List (Tm × Bool) := t.kids.dropLast.map (fun s => (s, true)) ++ [r]
theorem binder_kids {t : Tm} (h : bindsOf t ≠ []) : t.kids ≠ [] := by cases t <;> simp [bindsOf] at h <;> simp [Tm.kids]
theorem rsLast_len {t : Tm} (h : t.kids ≠ []) (r : Tm × Bool) : (rsLast t r).length = t.kids.length := by
  have := List.length_pos_iff.2 h
  simp [rsLast]; omega
theorem rsLast_re {t : Tm} (h : bindsOf t ≠ []) (ns : Text) (r : Tm × Bool) : reTm t ns ((rsLast t r).map (·.1)) = withNB t ns r.1 := by
  cases t <;> simp [bindsOf] at h <;> simp [rsLast, Tm.kids, reTm, withNB]
theorem rsLast_all (t : Tm) (r : Tm × Bool) : (rsLast t r).all (·.2) = r.2 := by
  unfold rsLast
  rw [List.all_append]
  have : (t.kids.dropLast.map (fun s => (s, true))).all (·.2) = true := by
    rw [List.all_map]
    exact List.all_eq_true.2 fun _ _ => rfl
  rw [this]
  simp
theorem rsLast_at {t : Tm} (h : t.kids ≠ []) (r : Tm × Bool) {k : Nat} {s : Tm} {q : Tm × Bool} (hs : t.kids[k]? = some s) (hq : (rsLast t r)[k]? = some q) : (k + 1 = t.kids.length ∧ s = lastK t ∧ q = r) ∨ (k + 1 ≠ t.kids.length ∧ q = (s, true)) := by
  have hl := List.length_pos_iff.2 h
  have hk := (List.getElem?_eq_some_iff.1 hs).1
  unfold rsLast at hq
  by_cases e : k + 1 = t.kids.length
  · refine .inl ⟨e, ?_, ?_⟩
    · unfold lastK
      rw [List.getLast?_eq_getElem?, show t.kids.length - 1 = k by omega, hs]; rfl
    · rw [List.getElem?_append_right (by simp; omega)] at hq
      simp only [List.length_map, List.length_dropLast, show k - (t.kids.length - 1) = 0 by omega, List.getElem?_cons_zero, Option.some.injEq] at hq
      exact hq.symm
  · refine .inr ⟨e, ?_⟩
    rw [List.getElem?_append_left (by simp; omega)] at hq
    simp only [List.getElem?_map, List.getElem?_dropLast] at hq
    rw [if_pos (by omega), hs] at hq
    simpa using hq.symm
theorem lastK_mem {t : Tm} (hk : t.kids ≠ []) : lastK t ∈ t.kids := by
  unfold lastK
  rcases h : t.kids.getLast? with _ | y
  · rw [List.getLast?_eq_none_iff] at h; exact absurd h hk
  · exact List.mem_of_getLast? h
end Go.Proofs.Ytojbffiffcfblaa
