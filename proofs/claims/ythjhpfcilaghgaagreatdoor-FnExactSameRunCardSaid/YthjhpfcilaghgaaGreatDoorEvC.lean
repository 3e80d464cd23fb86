import Derived.Test.YthjhpfcilaghgaaGreatDoorEvB
/- The program's meter. -/
namespace Go.Proofs.YthjhpfcilaghgaaGreatDoor
open Go.RowKit Go.Shelf
open Ff
set_option linter.unusedVariables false
variable {X : Nat → Prop}

theorem row_set_r {w : World} {r sz : Nat} {e : TypeId} {cv : Value} {n : Nat} {xs : List Value} (h : w.ownsRow (r + 1) e sz cv n xs) (k : Nat) (u : Value) : (w.setCell ⟨r, k, none⟩ u).ownsRow (r + 1) e sz cv n xs := by
  obtain ⟨h1, h2 | ⟨g, cap, cur, hv, hb, hh, rest⟩⟩ := h
  · exact ⟨h1, .inl h2⟩
  · exact ⟨h1, .inr ⟨g, cap, cur, hv, hb, by rw [Below.heap_setCell _ _ _ _ (by show g ≠ r; omega)]; exact hh, rest⟩⟩
theorem kep_set {r : Nat} {cv c0 : Rw} {w0 w : World} (h : Kep r c0 w0 cv w) (k : Nat) (u : Value) : Kep r c0 w0 cv (w.setCell ⟨r, k, none⟩ u) := by
  refine h.trans ⟨rfl, rfl, rfl, by simp, fun j _ hr _ => Below.heap_setCell _ _ _ _ hr, fun j h => .inl h⟩
theorem RunAt.at {r : Nat} {cv : Rw} {w : World} {s : St} (h : RunAt X r cv w s) : w.cell? ⟨r, 0, none⟩ = some (.int .i64 (s.steps : Int)) ∧ w.cell? ⟨r, 1, none⟩ = some (.int .i64 (s.calls : Int)) ∧ w.cell? ⟨r, 2, none⟩ = some (.int .i64 (s.clos : Int)) ∧ w.cell? ⟨r, 3, none⟩ = some (.int .i64 (s.capt : Int)) ∧ w.cell? ⟨r, 4, none⟩ = some (.int .i64 (s.deepest : Int)) ∧ w.cell? ⟨r, 5, none⟩ = some (.int .i64 1500) ∧ w.cell? ⟨r, 6, none⟩ = some (.int .i64 (s.depth : Int)) ∧ w.cell? ⟨r, 7, none⟩ = some cv.c ∧ w.cell? ⟨r, 8, none⟩ = some cv.d ∧ (∃ z : Int, w.cell? ⟨r, 9, none⟩ = some (.int .i64 z)) ∧ ∀ k, w.frozen? ⟨r, k, none⟩ = false := by
  obtain ⟨z, q⟩ := h.cells
  refine ⟨?_, ?_, ?_, ?_, ?_, ?_, ?_, ?_, ?_, ⟨z, ?_⟩, fun k => ?_⟩ <;> simp [World.cell?, World.frozen?, q]
theorem RunAt.set {r : Nat} {cv : Rw} {w : World} {s s' : St} (h : RunAt X r cv w s) (k : Nat) (u : Value) (hk : ∀ z, ∃ z', (runC s cv z).setIfInBounds k u = runC s' cv z') (hc : s'.called = s.called ∧ s'.froms = s.froms ∧ s'.encl = s.encl) : RunAt X r cv (w.setCell ⟨r, k, none⟩ u) s' := by
  obtain ⟨z, q⟩ := h.cells
  obtain ⟨z', hz⟩ := hk z
  obtain ⟨h1, h2, h3⟩ := hc
  exact ⟨⟨z', by rw [heap_setCell_same _ _ _ _ _ _ q, hz]⟩, by rw [h1, h2]; exact row_set_r h.row k u, by rw [h3]; exact row_set_r h.rowD k u, by rw [h1, h2]; exact h.len, h.sep, fun g hg => by simpa using h.priv g hg⟩
theorem RunAt.drew {r : Nat} {cv : Rw} {w : World} {s : St} (h : RunAt X r cv w s) : RunAt X r cv w.drew s := ⟨h.cells, h.row, h.rowD, h.len, h.sep, h.priv⟩
theorem kep_drew {r : Nat} {cv c0 : Rw} {w0 w : World} (h : Kep r c0 w0 cv w) : Kep r c0 w0 cv w.drew := h.trans (Kep.below ((Below.refl _ w).drew))
def faultC : List PanicEntry := [{ v := .iface 183 (.agg #[]), recovered := false }]
def longC : List PanicEntry := [{ v := .iface 137 (.agg #[]), recovered := false }]
set_option maxHeartbeats 1000000 in
theorem step_c (r : Nat) (cv : Rw) (s : St) (w : World) (h : RunAt X r cv w s) (hs : s.steps ≤ 1500) :
    Calls Tryz.prog 70 #[ptr r] w fun e w' => (1500 ≤ s.steps ∧ e = .panicked longC ∧ RunAt X r cv w' s ∧ Kep r cv w cv w') ∨ (s.steps < 1500 ∧ e = .returned (.tuple #[]) ∧ RunAt X r cv w' s.step ∧ Kep r cv w cv w') := by
  obtain ⟨c0, _, _, _, _, c5, _, _, _, _, cf⟩ := h.at
  by_cases hlt : s.steps < 1500
  · have hb : ((s.steps : Int) == 1500) = false := by rw [beq_eq_false_iff_ne]; omega
    have e1 : IntKind.i64.wrap ((s.steps : Int) + 1) = (s.steps : Int) + 1 := by rw [IntKind.wrap_i64]; omega
    go_enter Tryz.func70, Tryz.ntmps70
    go_wp2_with fail
    go_region
    all_goals go_wp2_with fail
    all_goals refine bodyPost_end (results_none rfl _ _ _) rfl ?_
    all_goals refine .inr ⟨hlt, rfl, h.drew.set 0 _ (fun z => ⟨z, ?_⟩) ⟨rfl, rfl, rfl⟩, kep_set (kep_drew (Kep.refl _ _ _)) _ _⟩
    all_goals simp [runC, St.step]
  · have he : s.steps = 1500 := by omega
    have hb : ((s.steps : Int) == 1500) = true := by rw [he]; rfl
    go_enter Tryz.func70, Tryz.ntmps70
    go_wp2_with fail
    go_region
    all_goals go_wp2_with fail
    all_goals exact ⟨rfl, .inl ⟨by omega, rfl, h.drew, kep_drew (Kep.refl _ _ _)⟩⟩
set_option maxHeartbeats 1000000 in
theorem addClosure_c (r : Nat) (cv : Rw) (s : St) (n : Nat) (w : World) (h : RunAt X r cv w s) (h1 : s.clos ≤ 100000) (h2 : s.capt ≤ 100000) (h3 : n ≤ 16) :
    Calls Tryz.prog 94 #[ptr r, .int .i64 (n : Int)] w fun e w' => e = .returned (.tuple #[]) ∧ RunAt X r cv w' { s with clos := s.clos + 1, capt := s.capt + n } ∧ Kep r cv w cv w' := by
  obtain ⟨_, _, c2, c3, _, _, _, _, _, _, cf⟩ := h.at
  have e1 : IntKind.i64.wrap ((s.clos : Int) + 1) = (s.clos : Int) + 1 := by rw [IntKind.wrap_i64]; omega
  have e2 : IntKind.i64.wrap ((s.capt : Int) + (n : Int)) = (s.capt : Int) + (n : Int) := by rw [IntKind.wrap_i64]; omega
  go_enter Tryz.func94, Tryz.ntmps94
  go_wp2_with fail
  refine bodyPost_end (results_none rfl _ _ _) rfl ?_
  refine ⟨rfl, RunAt.set (s := { s with clos := s.clos + 1 }) (h.set 2 _ (fun z => ⟨z, ?_⟩) ⟨rfl, rfl, rfl⟩) 3 _ (fun z => ⟨z, ?_⟩) ⟨rfl, rfl, rfl⟩, kep_set (kep_set (Kep.refl _ _ _) _ _) _ _⟩
  · simp [runC]
  · simp [runC]
set_option maxHeartbeats 1000000 in
theorem enterCall_c (r : Nat) (cv : Rw) (s : St) (w : World) (hR : RunAt X r cv w s) (h1 : s.calls ≤ 100000) (h2 : s.depth ≤ 50) :
    Calls Tryz.prog 105 #[ptr r] w fun e w' => (50 ≤ s.depth ∧ e = .panicked longC ∧ w' = w) ∨ (s.depth < 50 ∧ e = .returned (.tuple #[]) ∧ RunAt X r cv w' { s with calls := s.calls + 1, depth := s.depth + 1, deepest := max s.deepest (s.depth + 1) } ∧ Kep r cv w cv w') := by
  obtain ⟨_, c1, _, _, c4, _, c5, _, _, _, cf⟩ := hR.at
  by_cases hlt : s.depth < 50
  · have hb : ((s.depth : Int) == 50) = false := by rw [beq_eq_false_iff_ne]; omega
    have e1 : IntKind.i64.wrap ((s.depth : Int) + 1) = (s.depth : Int) + 1 := by rw [IntKind.wrap_i64]; omega
    have e2 : IntKind.i64.wrap ((s.calls : Int) + 1) = (s.calls : Int) + 1 := by rw [IntKind.wrap_i64]; omega
    go_enter Tryz.func105, Tryz.ntmps105
    go_wp2_with fail
    go_region
    all_goals go_wp2_with fail
    all_goals refine bodyPost_end (results_none rfl _ _ _) rfl ?_
    · refine .inr ⟨rfl, RunAt.drew (RunAt.set (s := { s with depth := s.depth + 1, calls := s.calls + 1 }) (RunAt.set (s := { s with depth := s.depth + 1 }) (hR.set 6 _ (fun z => ⟨z, ?_⟩) ⟨rfl, rfl, rfl⟩) 1 _ (fun z => ⟨z, ?_⟩) ⟨rfl, rfl, rfl⟩) 4 _ (fun z => ⟨z, ?_⟩) ⟨rfl, rfl, rfl⟩), kep_drew (kep_set (kep_set (kep_set (Kep.refl _ _ _) _ _) _ _) _ _)⟩
      · simp [runC]
      · simp [runC]
      · have e : max s.deepest (s.depth + 1) = s.depth + 1 := by omega
        simp [runC, e]
    · refine .inr ⟨rfl, RunAt.drew (RunAt.set (s := { s with depth := s.depth + 1, calls := s.calls + 1 }) (RunAt.set (s := { s with depth := s.depth + 1 }) (hR.set 6 _ (fun z => ⟨z, ?_⟩) ⟨rfl, rfl, rfl⟩) 1 _ (fun z => ⟨z, ?_⟩) ⟨rfl, rfl, rfl⟩) 4 _ (fun z => ⟨z, ?_⟩) ⟨rfl, rfl, rfl⟩), kep_drew (kep_set (kep_set (kep_set (Kep.refl _ _ _) _ _) _ _) _ _)⟩
      · simp [runC]
      · simp [runC]
      · have e : max s.deepest (s.depth + 1) = s.deepest := by omega
        simp [runC, e]
  · have he : s.depth = 50 := by omega
    have hb : ((s.depth : Int) == 50) = true := by rw [he]; rfl
    go_enter Tryz.func105, Tryz.ntmps105
    go_wp2_with fail
    exact ⟨rfl, .inl ⟨by omega, rfl, rfl⟩⟩
set_option maxHeartbeats 1000000 in
theorem leaveCall_c (r : Nat) (cv : Rw) (s : St) (w : World) (h : RunAt X r cv w s) (h2 : 1 ≤ s.depth) (h3 : s.depth ≤ 4000) (u : FrameMode) :
    CallsD Tryz.prog 106 #[ptr r] u w fun e u' w' => u' = u ∧ e = .returned (.tuple #[]) ∧ RunAt X r cv w' s.leave ∧ Kep r cv w cv w' := by
  obtain ⟨_, c1, _, _, c4, _, c5, _, _, _, cf⟩ := h.at
  have e1 : IntKind.i64.wrap ((s.depth : Int) - 1) = ((s.depth - 1 : Nat) : Int) := by rw [IntKind.wrap_i64]; omega
  refine callsD_of_wp Tryz.func106 rfl ?_
  simp only [Tryz.ntmps106, List.size_toArray, List.length_cons, List.length_nil, Nat.reduceAdd, Nat.reduceSub, Array.replicate_succ, Array.replicate_zero, List.push_toArray, List.append_toArray, List.nil_append, List.cons_append]
  go_wp2_with fail
  refine bodyPost_end (results_none rfl _ _ _) rfl ?_
  refine ⟨rfl, h.set 6 _ (fun z => ⟨z, ?_⟩) ⟨rfl, rfl, rfl⟩, kep_set (Kep.refl _ _ _) _ _⟩
  simp [runC, St.leave]
end Go.Proofs.YthjhpfcilaghgaaGreatDoor
