import Derived.Test.YtefmmgccdpfnaaaGreatDoorMSz
import Derived.Test.YtefmmgccdpfnaaaGreatDoorMSf
import Derived.Test.YtefmmgccdpfnaaaGreatDoorStV
/- The program's step. -/
namespace Go.Proofs.YtefmmgccdpfnaaaGreatDoor
open Go.RowKit Go.Shelf
open Ff
set_option linter.unusedVariables false

/-- What a step comes to. -/
def stepV : Option (Tm × Text) → Value
  | some r => .tuple #[.agg #[enc r.1], .string ⟨r.2.toArray⟩, .bool true]
  | none => .tuple #[.agg #[.nilIface], .string ⟨#[]⟩, .bool false]
theorem rule_good {q : Tm} (hg : q.good) {r : Tm × Text} (h : ruleT q = some r) : r.1.good := by
  have K := fun s (hs : s ∈ q.kids) => Tm.kid_good hg hs
  cases q with
  | bind c v b =>
    simp only [ruleT, Option.some.injEq] at h
    subst h
    exact (subS_grown (K v (by simp [Tm.kids])) _ _ _).good (K b (by simp [Tm.kids]))
  | app f a =>
    have ga := K a (by simp [Tm.kids])
    have gf := K f (by simp [Tm.kids])
    cases f with
    | fn c b =>
      simp only [ruleT, Option.some.injEq] at h
      subst h
      exact (subS_grown ga _ _ _).good gf.2
    | fix f c b =>
      simp only [ruleT, Option.some.injEq] at h
      subst h
      exact (subS_grown ga _ _ _).good ((subS_grown gf _ _ _).good gf.2.2.2)
    | _ => simp [ruleT] at h
  | sel a y z =>
    cases a with
    | num k =>
      simp only [ruleT] at h
      split at h
      · injection h with h; subst h; exact K y (by simp [Tm.kids])
      · injection h with h; subst h; exact K z (by simp [Tm.kids])
    | _ => simp [ruleT] at h
  | op o l r =>
    cases l with
    | num a =>
      cases r with
      | num b =>
        simp only [ruleT, Option.some.injEq] at h
        subst h
        have := calN_le o a b
        simp only [Tm.good]
        omega
      | _ => simp [ruleT] at h
    | _ => simp [ruleT] at h
  | _ => simp [ruleT] at h
/-- The boxes of a step: the state, the result. -/
theorem step_box {w w2 : World} {n : TypeId} {v : Value} {A : TypeId} (h : Below ((w.alloc (.cells #[.iface n v] A)).alloc (.cells #[.nilIface] A)).heap.size ((w.alloc (.cells #[.iface n v] A)).alloc (.cells #[.nilIface] A)) w2) :
    (w2.cell? ⟨w.heap.size + 1, 0, none⟩ = some .nilIface ∧ w2.frozen? ⟨w.heap.size + 1, 0, none⟩ = false) ∧ Below w.heap.size w w2 ∧ w.heap.size + 2 ≤ w2.heap.size := by
  have c := cell_new_v (w.alloc (.cells #[.iface n v] A)) .nilIface A
  rw [World.size_alloc] at c
  have hb := h.size
  simp only [World.size_alloc] at hb
  have h2 : w.heap.size + 1 < ((w.alloc (.cells #[.iface n v] A)).alloc (.cells #[.nilIface] A)).heap.size := by simp
  exact ⟨⟨(h.cell (p := ⟨w.heap.size + 1, 0, none⟩) h2).trans c.1, (World.frozen?_of_block (h.block _ h2)).trans c.2⟩, (below_two w _ _).trans (h.mono (by simp; omega)), by omega⟩
theorem keep_box {w2 w3 : World} {b : Nat} {u : Value} (hb : Below w2.heap.size w2 w3) (hz : b < w2.heap.size) (h : w2.cell? ⟨b, 0, none⟩ = some u ∧ w2.frozen? ⟨b, 0, none⟩ = false) : w3.cell? ⟨b, 0, none⟩ = some u ∧ w3.frozen? ⟨b, 0, none⟩ = false :=
  ⟨(hb.cell (p := ⟨b, 0, none⟩) hz).trans h.1, (World.frozen?_of_block (hb.block _ hz)).trans h.2⟩
/-- The box of what is next. -/
theorem redex_box {w w3 : World} {u v : Value} {A : TypeId} (h : Below (w.alloc (.cells #[u, v] A)).heap.size (w.alloc (.cells #[u, v] A)) w3) : w3.cell? ⟨w.heap.size, 1, none⟩ = some v ∧ Below w.heap.size w w3 ∧ w.heap.size + 1 ≤ w3.heap.size := by
  have c : (w.alloc (.cells #[u, v] A)).cell? ⟨w.heap.size, 1, none⟩ = some v := by
    simp only [World.cell?, World.alloc_heap_new]
    rfl
  have hb := h.size
  rw [World.size_alloc] at hb
  exact ⟨(h.cell (p := ⟨w.heap.size, 1, none⟩) (by simp)).trans c, ((Below.refl _ w).alloc (Nat.le_refl _) _).trans (h.mono (by simp)), hb⟩
set_option maxRecDepth 100000 in
set_option maxHeartbeats 4000000 in
theorem iStep_c (t : Tm) (w : World) (hg : t.good) (hd : t.depth ≤ 1500) (hp : (parts t).length ≤ 1500) (hc : Closed t) :
    Calls Tryz.prog 34 #[.agg #[enc t]] w fun e w' => e = .returned (stepV (stepT t)) ∧ Below w.heap.size w w' := by
  have KN := fun W => pnext_c _ fill_ok t.depth t W (Nat.le_refl _) (by omega) hg
  obtain ⟨pg, pd, pp⟩ := part_at_facts t (redexP t) (redexP_ok t)
  unfold stepT
  cases hv : t.isVal
  · have hN := next_ok t.depth t (Nat.le_refl _) hv hc
    have KN2 : ∀ W, Calls Tryz.prog 38 #[.agg #[enc t]] W fun e w' => ∃ f cap, e = .returned (.tuple #[.agg #[enc (partAt t (redexP t)), .func (.func f) #[] cap], .bool true]) ∧ Below W.heap.size W w' ∧
        (∀ (W : World) (v : Value), (callFunc f (#[v] ++ cap)).run Tryz.prog W = .ok (.enter f (#[v] ++ cap)) W) ∧
        ∀ (x : Tm) (W2 : World), Below w'.heap.size w' W2 → Calls Tryz.prog f (#[enc x] ++ cap) W2 fun e W3 => e = .returned (enc (withAt t (redexP t) x)) ∧ Below W2.heap.size W2 W3 := fun W => (KN W).mono fun e w' h => by
      obtain ⟨h1, ⟨h2, _⟩ | ⟨_, fn, first, cap, h3, hF⟩⟩ := h
      · rw [hv] at h2; cases h2
      · obtain ⟨f, cap', e1, e2, e3⟩ := fill_call (redexP t) t _ _ _ hF hg
        injection e1 with e11 e12 e13
        subst e11 e12 e13
        exact ⟨f, cap, h3, h1, e2, fun x W2 hb => e3 x W2 (KeepsB.of_below hb)⟩
    have KR := fun W => reduced_c (partAt t (redexP t)) W (pg hg) (by omega) (by omega) hN
    have hrg := fun r h => rule_good (pg hg) (r := r) h
    have hW := fun x => with_ok (redexP t) t x (redexP_ok t)
    clear pg pd pp KN hN hv
    generalize partAt t (redexP t) = q at *
    generalize redexP t = pa at *
    obtain ⟨qn, qv, hqv⟩ := enc_gen q
    simp only [hqv] at KR KN2
    simp only [Bool.false_eq_true, if_false]
    unfold RedP at KR
    clear hqv
    rcases hr : ruleT q with _ | ⟨r, nm⟩
    · rw [hr] at KR
      simp only at KR
      simp only [Option.bind_none, stepV]
      obtain ⟨tn, tv, htv⟩ := enc_gen t
      simp only [htv] at KN2
      rw [htv]
      clear hr hrg hW hg hd hp hc htv
      go_enter Tryz.func34, Tryz.ntmps34
      go_wp2_with (first
        | (go_at_call 38; refine (KN2 _).mono ?_; clear KN2; rintro e w2 ⟨f, cap, rfl, hb2, hcf, hK⟩; (obtain ⟨b2, hB2, hz2⟩ := step_box hb2); (obtain ⟨c2, f2⟩ := b2); clear hb2)
        | (go_at_call 58; refine (KR _).mono ?_; clear KR; rintro e w3 ⟨rfl, hb3⟩; (obtain ⟨x3, hB3, hz3⟩ := redex_box hb3); (obtain ⟨c3, f3⟩ := keep_box hB3 (by omega) ⟨c2, f2⟩); clear hb3))
      refine bodyPost_ret (v := .tuple #[.agg #[.nilIface], .string ⟨#[]⟩, .bool false]) (by simp [results, Tryz.results34, go_sem, c3]) rfl ?_
      exact ⟨rfl, (hB2.trans (hB3.mono (by omega))).setCell (p := ⟨w.heap.size + 1, 0, none⟩) (by simp) _⟩
    · rw [hr] at KR
      simp only at KR
      have hRg := (hW r).good hg (hrg _ hr)
      simp only [Option.bind_some]
      have KF := fun (W W2 : World) (f : FuncId) (cap : Array Value) (h : ∀ (x : Tm) (W2 : World), Below W.heap.size W W2 → Calls Tryz.prog f (#[enc x] ++ cap) W2 fun e W3 => e = .returned (enc (withAt t pa x)) ∧ Below W2.heap.size W2 W3) (hb : Below W.heap.size W W2) => h r W2 hb
      have KT := fun W => isTooLong_c (withAt t pa r) hRg W
      generalize withAt t pa r = R at *
      obtain ⟨rn, rv, hrv⟩ := enc_gen r
      obtain ⟨mn, mv, hmv⟩ := enc_gen R
      obtain ⟨tn, tv, htv⟩ := enc_gen t
      simp only [hrv] at KR
      simp only [htv] at KN2
      simp only [hmv, hrv] at KF KT
      rw [htv]
      clear hr hrg hW hg hd hp hc hRg htv hrv
      by_cases hl : (textN R).length ≤ 1500
      · have hdl : decide (1500 < (textN R).length) = false := by rw [decide_eq_false_iff_not]; omega
        rw [hdl] at KT
        rw [if_pos hl]
        simp only [stepV, hmv]
        clear hl hdl hmv
        go_enter Tryz.func34, Tryz.ntmps34
        go_wp2_with (first
          | (go_at_call 38; refine (KN2 _).mono ?_; clear KN2; rintro e w2 ⟨f, cap, rfl, hb2, hcf, hK⟩; (obtain ⟨b2, hB2, hz2⟩ := step_box hb2); (obtain ⟨c2, f2⟩ := b2); (have KG := fun W2 hb => KF w2 W2 f cap hK hb); clear hK KF; clear hb2)
          | (go_at_call 58; refine (KR _).mono ?_; clear KR; rintro e w3 ⟨rfl, hb3⟩; (obtain ⟨x3, hB3, hz3⟩ := redex_box hb3); (obtain ⟨c3, f3⟩ := keep_box hB3 (by omega) ⟨c2, f2⟩); clear hb3)
          | (go_at_call 59; refine (KT _).mono ?_; clear KT; rintro e w5 ⟨rfl, hb5⟩; (have hz5 : w4.heap.size ≤ w5.heap.size := hb5.size); (obtain ⟨c5, f5⟩ := keep_box (w2 := w4) hb5 (by omega) ⟨c4, f4⟩))
          | ((refine (KG _ ?_).mono ?_; first | exact hB3 | exact hB3.drew); clear KG; rintro e w4 ⟨rfl, hb4⟩; (have hz4 : w3.heap.size ≤ w4.heap.size := hb4.size); (obtain ⟨c4, f4⟩ := keep_box (w2 := w3) hb4 (by omega) ⟨c3, f3⟩)))
        refine bodyPost_ret (v := .tuple #[.agg #[.iface mn mv], .string ⟨nm.toArray⟩, .bool true]) (by simp [results, Tryz.results34, go_sem, c5]) rfl ?_
        exact ⟨rfl, (((hB2.trans (hB3.mono (by omega))).trans (hb4.mono (by show _ ≤ w3.heap.size; omega))).trans (hb5.mono (by show _ ≤ w4.heap.size; omega))).setCell (p := ⟨w.heap.size + 1, 0, none⟩) (by simp) _⟩
      · have hdl : decide (1500 < (textN R).length) = true := by rw [decide_eq_true_iff]; omega
        rw [hdl] at KT
        rw [if_neg hl]
        simp only [stepV]
        clear hl hdl hmv
        go_enter Tryz.func34, Tryz.ntmps34
        go_wp2_with (first
          | (go_at_call 38; refine (KN2 _).mono ?_; clear KN2; rintro e w2 ⟨f, cap, rfl, hb2, hcf, hK⟩; (obtain ⟨b2, hB2, hz2⟩ := step_box hb2); (obtain ⟨c2, f2⟩ := b2); (have KG := fun W2 hb => KF w2 W2 f cap hK hb); clear hK KF; clear hb2)
          | (go_at_call 58; refine (KR _).mono ?_; clear KR; rintro e w3 ⟨rfl, hb3⟩; (obtain ⟨x3, hB3, hz3⟩ := redex_box hb3); (obtain ⟨c3, f3⟩ := keep_box hB3 (by omega) ⟨c2, f2⟩); clear hb3)
          | (go_at_call 59; refine (KT _).mono ?_; clear KT; rintro e w5 ⟨rfl, hb5⟩; (have hz5 : w4.heap.size ≤ w5.heap.size := hb5.size); (obtain ⟨c5, f5⟩ := keep_box (w2 := w4) hb5 (by omega) ⟨c4, f4⟩))
          | ((refine (KG _ ?_).mono ?_; first | exact hB3 | exact hB3.drew); clear KG; rintro e w4 ⟨rfl, hb4⟩; (have hz4 : w3.heap.size ≤ w4.heap.size := hb4.size); (obtain ⟨c4, f4⟩ := keep_box (w2 := w3) hb4 (by omega) ⟨c3, f3⟩)))
        refine bodyPost_ret (v := .tuple #[.agg #[.nilIface], .string ⟨#[]⟩, .bool false]) (by simp [results, Tryz.results34, go_sem, c5]) rfl ?_
        exact ⟨rfl, (((hB2.trans (hB3.mono (by omega))).trans (hb4.mono (by show _ ≤ w3.heap.size; omega))).trans (hb5.mono (by show _ ≤ w4.heap.size; omega))).setCell (p := ⟨w.heap.size + 1, 0, none⟩) (by simp) _⟩
  · have KN2 : ∀ W, Calls Tryz.prog 38 #[.agg #[enc t]] W fun e w' => e = .returned (.tuple #[.agg #[.nilIface, .nilFunc], .bool false]) ∧ Below W.heap.size W w' := fun W => (KN W).mono fun e w' h => by
      obtain ⟨h1, ⟨_, h2⟩ | ⟨h2, _⟩⟩ := h
      · exact ⟨h2, h1⟩
      · rw [hv] at h2; cases h2
    clear hv pg pd pp KN
    obtain ⟨tn, tv, htv⟩ := enc_gen t
    rw [htv]
    simp only [htv] at KN2
    simp only [if_true, stepV]
    clear htv
    go_enter Tryz.func34, Tryz.ntmps34
    go_wp2_with (go_at_call 38; refine (KN2 _).mono ?_; clear KN2; rintro e w2 ⟨rfl, hb2⟩; (obtain ⟨b2, hB2, hz2⟩ := step_box hb2); (obtain ⟨c2, f2⟩ := b2); (obtain ⟨c3, f3⟩ := keep_box (((Below.refl _ w2).alloc (Nat.le_refl _) (.cells #[.nilIface, .nilFunc] 62))) (by omega) ⟨c2, f2⟩); clear hb2)
    refine bodyPost_ret (v := .tuple #[.agg #[.nilIface], .string ⟨#[]⟩, .bool false]) (by simp [results, Tryz.results34, go_sem, c3]) rfl ?_
    exact ⟨rfl, (hB2.alloc hB2.size _).setCell (p := ⟨w.heap.size + 1, 0, none⟩) (by simp) _⟩
end Go.Proofs.YtefmmgccdpfnaaaGreatDoor
