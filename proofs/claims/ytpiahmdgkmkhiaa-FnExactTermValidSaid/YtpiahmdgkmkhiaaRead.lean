/- The program's readTerm: what a text is as a term, or none. -/
import Derived.Test.YtpiahmdgkmkhiaaRdC
import Derived.Test.YtpiahmdgkmkhiaaDpB
import Derived.Recover
import Derived.Outline
namespace Go.Proofs.Ytpiahmdgkmkhiaa
open Go.RowKit
open Ff

theorem catch_panicking (p q : Addr) (x y : Value) (u : TypeId) (pv : Value) (older : List PanicEntry) (w : World) (hne : p ≠ q) (hp : w.cell? p = some x) (hpz : w.frozen? p = false) (hq : w.cell? q = some y) (hqz : w.frozen? q = false) :
    CallsD Try.prog 56 #[.pointer (some p), .pointer (some q)] (.panicking ({ v := .iface u pv, recovered := false } :: older)) w fun e u' w' =>
      e = .returned (.tuple #[]) ∧ u' = .panicking ({ v := .iface u pv, recovered := true } :: older) ∧ w' = (w.setCell p .nilIface).setCell q (.bool false) := by
  refine callsD_of_wpS Try.func56 rfl fun c₀ cs hu => ?_
  apply wpS_seq
  apply wpS_region
  simp [wpOpsS, go_sem, recoverD, hu, Try.ntmps56, Exit.thenS]
  refine wpS_cond (t := true) (by simp [Act.eval, Array.replicate]) ?_
  simp only [if_true]
  apply wpS_region
  have h2 : (w.setCell p .nilIface).cell? q = some y := by rw [World.cell?_setCell_other _ _ _ _ hne]; exact hq
  simp [wpOpsS, go_sem, hp, hpz, h2, hqz, bodyPostS, results, Try.results56]

theorem catch_idle (p q : Addr) (w : World) :
    CallsD Try.prog 56 #[.pointer (some p), .pointer (some q)] .returning w fun e u' w' => e = .returned (.tuple #[]) ∧ u' = .returning ∧ w' = w := by
  refine callsD_of_wpS Try.func56 rfl fun c₀ cs hu => ?_
  apply wpS_seq
  apply wpS_region
  simp [wpOpsS, go_sem, recoverD, hu, Try.ntmps56, Exit.thenS]
  refine wpS_cond (t := false) (by simp [Act.eval, Array.replicate]) ?_
  simp only [Bool.false_eq_true, if_false]
  refine wpS_of_wp (wp_skip ?_)
  cases c₀
  simp_all [bodyPostS, results, Try.results56]

set_option maxHeartbeats 1000000 in
theorem read_long (s : Text) (w : World) (h : 120 < s.length) (hl : s.length ≤ 9223372036854775807) :
    Calls Try.prog 37 #[.string ⟨s.toArray⟩] w fun e w' => e = .returned (.tuple #[.nilIface, .bool false]) ∧ Below w.heap.size w w' := by
  have hmf : ∀ (fn : Fn) (first cap : Array Value) (w : World), (Instr.makeFunc fn first cap).run Try.prog w = .ok (.func fn first cap) w := fun _ _ _ _ => rfl
  go_enter_defers Try.func37, Try.ntmps37
  go_wp2_with fail
  exact ⟨.tuple #[.nilIface, .bool false], by simp [results, Try.results37, go_sem], rfl, below_two _ _ _⟩

theorem below_of_grown {a b : World} {g B : Nat} (h : a.grownBy b (some g)) (hB : B ≤ g) (hs : B ≤ a.heap.size) : Below B a b :=
  ⟨h.os, h.tape, h.output, h.size, fun k hk => h.block k (by omega) (fun e => by injection e; omega)⟩
theorem two_cells {w W : World} (h : Below (w.heap.size + 1 + 1) ((w.alloc (.cells #[.nilIface] 39)).alloc (.cells #[.bool false] 4)) W) :
    W.cell? ⟨w.heap.size, 0, none⟩ = some .nilIface ∧ W.frozen? ⟨w.heap.size, 0, none⟩ = false ∧ W.cell? ⟨w.heap.size + 1, 0, none⟩ = some (.bool false) ∧ W.frozen? ⟨w.heap.size + 1, 0, none⟩ = false := by
  refine ⟨(h.cell (by show w.heap.size < _; omega)).trans ?_, (h.frozen (by show w.heap.size < _; omega)).trans ?_, (h.cell (by simp)).trans ?_, (h.frozen (by simp)).trans ?_⟩ <;> simp [go_sem]
/-- The world in which the reader begins. -/
def W3 (w : World) (s : Text) : World := ((w.alloc (.cells #[.nilIface] 39)).alloc (.cells #[.bool false] 4)).alloc (.cells #[.string ⟨s.toArray⟩] 59)
theorem W3_rd (w : World) (s : Text) : Rd0 (w.heap.size + 1 + 1) s (W3 w s) := ⟨by simp [W3, go_sem], by simp [W3, go_sem]⟩
theorem W3_after {w W : World} {s r : Text} (h : Rd (w.heap.size + 1 + 1) r (W3 w s) W) : Below (w.heap.size + 1 + 1) ((w.alloc (.cells #[.nilIface] 39)).alloc (.cells #[.bool false] 4)) W :=
  ((Below.refl _ _).alloc (by simp) _).trans (below_of_grown h.rest (Nat.le_refl _) (by simp))
theorem W3_below {w W : World} {s r : Text} (h : Rd (w.heap.size + 1 + 1) r (W3 w s) W) : Below w.heap.size w W :=
  (below_two w _ _).trans ((W3_after h).mono (by omega))

set_option maxHeartbeats 1000000 in
theorem read_none (s : Text) (w : World) (h : s.length ≤ 120) (hp : parse (s.length + 1) s = none) :
    Calls Try.prog 37 #[.string ⟨s.toArray⟩] w fun e w' => e = .returned (.tuple #[.nilIface, .bool false]) ∧ Below w.heap.size w w' := by
  have hmf : ∀ (fn : Fn) (first cap : Array Value) (w : World), (Instr.makeFunc fn first cap).run Try.prog w = .ok (.func fn first cap) w := fun _ _ _ _ => rfl
  have C := term_c (s.length + 1) _ s _ (W3_rd w s) (by omega) (by omega)
  rw [hp] at C
  clear hp
  go_enter_defers Try.func37, Try.ntmps37
  go_wp2_with fail
  refine term_use C (fun x2 r2 w2 n2 v2 o2 h2 E2 => by simp at o2) (fun r1 w1 _ h1 => ?_)
  obtain ⟨c1, f1, c2, f2⟩ := two_cells (W3_after h1)
  refine leaves_cons (f := 56) (args := #[.pointer (some ⟨w.heap.size, 0, none⟩), .pointer (some ⟨w.heap.size + 1, 0, none⟩)]) (by simp) (by simp [go_sem]) ?_
  refine (catch_panicking ⟨w.heap.size, 0, none⟩ ⟨w.heap.size + 1, 0, none⟩ _ _ 86 _ [] _ (by simp) c1 f1 c2 f2).mono ?_
  rintro e u' w'' ⟨rfl, rfl, rfl⟩
  have hb := ((W3_below h1).setCell (p := ⟨w.heap.size, 0, none⟩) (Nat.le_refl _) .nilIface).setCell (p := ⟨w.heap.size + 1, 0, none⟩) (by simp) (.bool false)
  refine ⟨.tuple #[.nilIface, .bool false], ?_, rfl, hb⟩
  simp [results, Try.results37, go_sem, c1, c2]

set_option maxHeartbeats 1000000 in
theorem read_rest (s : Text) (w : World) (h : s.length ≤ 120) (t : Tm) (c : UInt8) (r : Text) (hp : parse (s.length + 1) s = some (t, c :: r)) :
    Calls Try.prog 37 #[.string ⟨s.toArray⟩] w fun e w' => e = .returned (.tuple #[.nilIface, .bool false]) ∧ Below w.heap.size w w' := by
  have hmf : ∀ (fn : Fn) (first cap : Array Value) (w : World), (Instr.makeFunc fn first cap).run Try.prog w = .ok (.func fn first cap) w := fun _ _ _ _ => rfl
  have C := term_c (s.length + 1) _ s _ (W3_rd w s) (by omega) (by omega)
  rw [hp] at C
  clear hp
  go_enter_defers Try.func37, Try.ntmps37
  go_wp2_with fail
  refine term_use C (fun x2 r2 w1 n2 v2 o2 h1 E2 => ?_) (fun r1 w1 o1 h1 => by simp at o1)
  simp only [Option.some.injEq, Prod.mk.injEq] at o2
  obtain ⟨rfl, rfl⟩ := o2
  obtain ⟨c1, f1, c2, f2⟩ := two_cells (W3_after h1)
  have c3 := h1.cell
  have hb := W3_below h1
  clear C
  go_wp2_with fail
  refine leaves_cons (f := 56) (args := #[.pointer (some ⟨w.heap.size, 0, none⟩), .pointer (some ⟨w.heap.size + 1, 0, none⟩)]) (by simp) (by simp [go_sem]) ?_
  refine (catch_idle ⟨w.heap.size, 0, none⟩ ⟨w.heap.size + 1, 0, none⟩ _).mono ?_
  rintro e u' w'' ⟨rfl, rfl, rfl⟩
  refine ⟨.tuple #[.nilIface, .bool false], ?_, rfl, ((hb.setCell (p := ⟨w.heap.size, 0, none⟩) (Nat.le_refl _) _).setCell (p := ⟨w.heap.size, 0, none⟩) (Nat.le_refl _) _).setCell (p := ⟨w.heap.size + 1, 0, none⟩) (by simp) _⟩
  simp [results, Try.results37, go_sem, c1, c2]

theorem after_depth {w w1 w2 : World} {n : TypeId} {v : Value} (c1 : w1.cell? ⟨w.heap.size, 0, none⟩ = some .nilIface) (f1 : w1.frozen? ⟨w.heap.size, 0, none⟩ = false) (c2 : w1.cell? ⟨w.heap.size + 1, 0, none⟩ = some (.bool false)) (f2 : w1.frozen? ⟨w.heap.size + 1, 0, none⟩ = false)
    (hlt : w.heap.size + 1 + 1 ≤ w1.heap.size) (hb : Below w.heap.size w w1) (hb2 : Below (w1.setCell ⟨w.heap.size, 0, none⟩ (.iface n v)).heap.size (w1.setCell ⟨w.heap.size, 0, none⟩ (.iface n v)) w2) :
    w2.cell? ⟨w.heap.size, 0, none⟩ = some (.iface n v) ∧ w2.frozen? ⟨w.heap.size, 0, none⟩ = false ∧ w2.cell? ⟨w.heap.size + 1, 0, none⟩ = some (.bool false) ∧ w2.frozen? ⟨w.heap.size + 1, 0, none⟩ = false ∧ Below w.heap.size w w2 := by
  have hz : (w1.setCell ⟨w.heap.size, 0, none⟩ (.iface n v)).heap.size = w1.heap.size := by simp [World.setCell]
  rw [hz] at hb2
  refine ⟨(hb2.cell (by show w.heap.size < _; omega)).trans (World.cell?_setCell_same _ _ _ c1), (hb2.frozen (by show w.heap.size < _; omega)).trans ?_, (hb2.cell (by show w.heap.size + 1 < _; omega)).trans ?_, (hb2.frozen (by show w.heap.size + 1 < _; omega)).trans ?_, ?_⟩
  · rw [World.frozen?_setCell]; exact f1
  · rw [World.cell?_setCell_other _ _ _ _ (by simp)]; exact c2
  · rw [World.frozen?_setCell]; exact f2
  · exact (hb.setCell (p := ⟨w.heap.size, 0, none⟩) (Nat.le_refl _) _).trans (hb2.mono (by omega))

set_option maxHeartbeats 2000000 in
theorem read_deep (s : Text) (w : World) (h : s.length ≤ 120) (t : Tm) (hd : 24 < t.depth) (hd2 : t.depth ≤ 1000) (hp : parse (s.length + 1) s = some (t, [])) :
    Calls Try.prog 37 #[.string ⟨s.toArray⟩] w fun e w' => e = .returned (.tuple #[.nilIface, .bool false]) ∧ Below w.heap.size w w' := by
  have hmf : ∀ (fn : Fn) (first cap : Array Value) (w : World), (Instr.makeFunc fn first cap).run Try.prog w = .ok (.func fn first cap) w := fun _ _ _ _ => rfl
  have C := term_c (s.length + 1) _ s _ (W3_rd w s) (by omega) (by omega)
  rw [hp] at C
  clear hp
  go_enter_defers Try.func37, Try.ntmps37
  go_wp2_with fail
  refine term_use C (fun x2 r2 w1 n2 v2 o2 h1 E2 => ?_) (fun r1 w1 o1 h1 => by simp at o1)
  simp only [Option.some.injEq, Prod.mk.injEq] at o2
  obtain ⟨rfl, rfl⟩ := o2
  obtain ⟨c1, f1, c2, f2⟩ := two_cells (W3_after h1)
  have c3 := h1.cell
  have hb := W3_below h1
  have hlt := (W3_after h1).size
  simp at hlt
  clear C
  have D := depth_c 1000 t hd2 (Nat.le_refl _) (w1.setCell ⟨w.heap.size, 0, none⟩ (.iface n2 v2))
  rw [E2.out] at D
  go_wp2_with (go_at_call 41; refine D.mono ?_; rintro e w2 ⟨rfl, hb2⟩; obtain ⟨d1, e1, d2, e2, hb3⟩ := after_depth c1 f1 c2 f2 hlt hb hb2; clear hb2 hb c1 f1 c2 f2 c3)
  refine leaves_cons (f := 56) (args := #[.pointer (some ⟨w.heap.size, 0, none⟩), .pointer (some ⟨w.heap.size + 1, 0, none⟩)]) (by simp) (by simp [go_sem]) ?_
  refine (catch_idle ⟨w.heap.size, 0, none⟩ ⟨w.heap.size + 1, 0, none⟩ _).mono ?_
  rintro e u' w'' ⟨rfl, rfl, rfl⟩
  refine ⟨.tuple #[.nilIface, .bool false], ?_, rfl, (hb3.setCell (p := ⟨w.heap.size, 0, none⟩) (Nat.le_refl _) _).setCell (p := ⟨w.heap.size + 1, 0, none⟩) (by simp) _⟩
  simp [results, Try.results37, go_sem, d1, d2]

set_option maxHeartbeats 2000000 in
theorem read_ok (s : Text) (w : World) (h : s.length ≤ 120) (t : Tm) (hd : t.depth ≤ 24) (hp : parse (s.length + 1) s = some (t, [])) :
    Calls Try.prog 37 #[.string ⟨s.toArray⟩] w fun e w' => e = .returned (.tuple #[enc t, .bool true]) ∧ Below w.heap.size w w' := by
  have hmf : ∀ (fn : Fn) (first cap : Array Value) (w : World), (Instr.makeFunc fn first cap).run Try.prog w = .ok (.func fn first cap) w := fun _ _ _ _ => rfl
  have C := term_c (s.length + 1) _ s _ (W3_rd w s) (by omega) (by omega)
  rw [hp] at C
  clear hp
  go_enter_defers Try.func37, Try.ntmps37
  go_wp2_with fail
  refine term_use C (fun x2 r2 w1 n2 v2 o2 h1 E2 => ?_) (fun r1 w1 o1 h1 => by simp at o1)
  simp only [Option.some.injEq, Prod.mk.injEq] at o2
  obtain ⟨rfl, rfl⟩ := o2
  obtain ⟨c1, f1, c2, f2⟩ := two_cells (W3_after h1)
  have c3 := h1.cell
  have hb := W3_below h1
  have hlt := (W3_after h1).size
  simp at hlt
  clear C
  have D := depth_c 1000 t (by omega) (Nat.le_refl _) (w1.setCell ⟨w.heap.size, 0, none⟩ (.iface n2 v2))
  rw [E2.out] at D
  go_wp2_with (go_at_call 41; refine D.mono ?_; rintro e w2 ⟨rfl, hb2⟩; obtain ⟨d1, e1, d2, e2, hb3⟩ := after_depth c1 f1 c2 f2 hlt hb hb2; clear hb2 hb c1 f1 c2 f2 c3)
  refine leaves_cons (f := 56) (args := #[.pointer (some ⟨w.heap.size, 0, none⟩), .pointer (some ⟨w.heap.size + 1, 0, none⟩)]) (by simp) (by simp [go_sem]) ?_
  refine (catch_idle ⟨w.heap.size, 0, none⟩ ⟨w.heap.size + 1, 0, none⟩ _).mono ?_
  rintro e u' w'' ⟨rfl, rfl, rfl⟩
  refine ⟨.tuple #[.iface n2 v2, .bool true], ?_, by rw [E2.out], (hb3.setCell (p := ⟨w.heap.size, 0, none⟩) (Nat.le_refl _) _).setCell (p := ⟨w.heap.size + 1, 0, none⟩) (by simp) _⟩
  simp [results, Try.results37, go_sem, d1, d2]

/-- What a text is as a term. -/
def readT (s : Text) : Option Tm := if s.length ≤ 120 then (parse (s.length + 1) s).bind fun x => if x.2 = [] ∧ x.1.depth ≤ 24 then some x.1 else none else none
def ReadPost (w : World) : Option Tm → Ending → World → Prop
  | some t, e, w' => e = .returned (.tuple #[enc t, .bool true]) ∧ Below w.heap.size w w'
  | none, e, w' => e = .returned (.tuple #[.nilIface, .bool false]) ∧ Below w.heap.size w w'
theorem parse_depth : ∀ (k : Nat) (s r : Text) (t : Tm), parse k s = some (t, r) → t.depth ≤ k := by
  intro k
  induction k with
  | zero => intro s r t h; simp [parse] at h
  | succ k ih =>
    intro s r t h
    simp only [parse, Option.bind_eq_some_iff, Prod.exists] at h
    obtain ⟨c, s1, h1, h⟩ := h
    unfold pBehind at h
    split at h
    · simp only [pLong, Option.bind_eq_some_iff, Prod.exists] at h
      obtain ⟨a, r1, ha, b, r2, hb, h⟩ := h
      split at h
      · simp only [Option.some.injEq, Prod.mk.injEq] at h; rw [← h.1]; simp [Tm.depth]
      · simp at h
    split at h
    · simp only [pFn, Option.bind_eq_some_iff, Prod.exists, Option.some.injEq, Prod.mk.injEq] at h
      obtain ⟨a, r1, ha, b, r2, hb, rfl, _⟩ := h
      have := ih _ _ _ hb; simp only [Tm.depth]; omega
    split at h
    · simp only [pFix, Option.bind_eq_some_iff, Prod.exists] at h
      obtain ⟨a, r1, ha, b, r2, hb, h⟩ := h
      split at h
      · simp at h
      · simp only [Option.bind_eq_some_iff, Prod.exists, Option.some.injEq, Prod.mk.injEq] at h
        obtain ⟨c, r3, hc, rfl, _⟩ := h
        have := ih _ _ _ hc; simp only [Tm.depth]; omega
    split at h
    · simp only [pApp, Option.bind_eq_some_iff, Prod.exists] at h
      obtain ⟨a, r1, ha, b, r2, hb, z, r3, hz, h⟩ := h
      have := ih _ _ _ ha; have := ih _ _ _ hb
      split at h
      · simp only [Option.some.injEq, Prod.mk.injEq] at h; rw [← h.1]; simp only [Tm.depth]; omega
      · simp at h
    split at h
    · simp only [pBind, Option.bind_eq_some_iff, Prod.exists, Option.some.injEq, Prod.mk.injEq] at h
      obtain ⟨a, r1, ha, b, r2, hb, c, r3, hc, rfl, _⟩ := h
      have := ih _ _ _ hb; have := ih _ _ _ hc; simp only [Tm.depth]; omega
    split at h
    · simp only [pOp, Option.bind_eq_some_iff, Prod.exists, Option.some.injEq, Prod.mk.injEq] at h
      obtain ⟨a, r1, ha, b, r2, hb, rfl, _⟩ := h
      have := ih _ _ _ ha; have := ih _ _ _ hb; simp only [Tm.depth]; omega
    split at h
    · simp only [pSel, Option.bind_eq_some_iff, Prod.exists, Option.some.injEq, Prod.mk.injEq] at h
      obtain ⟨a, r1, ha, b, r2, hb, c, r3, hc, rfl, _⟩ := h
      have := ih _ _ _ ha; have := ih _ _ _ hb; have := ih _ _ _ hc; simp only [Tm.depth]; omega
    split at h
    · simp only [Option.some.injEq, Prod.mk.injEq] at h; rw [← h.1]; simp [Tm.depth]
    split at h
    · simp only [Option.some.injEq, Prod.mk.injEq] at h; rw [← h.1]; simp [Tm.depth]
    · simp at h

theorem read_c (s : Text) (w : World) (hl : s.length ≤ 9223372036854775807) : Calls Try.prog 37 #[.string ⟨s.toArray⟩] w (ReadPost w (readT s)) := by
  by_cases h : s.length ≤ 120
  · rcases hp : parse (s.length + 1) s with _ | ⟨t, r⟩
    · have e : readT s = none := by simp only [readT, if_pos h, hp, Option.bind_none]
      rw [e]
      exact read_none s w h hp
    · have hdd := parse_depth _ _ _ _ hp
      cases r with
      | cons c r =>
        have e : readT s = none := by simp [readT, hp]
        rw [e]
        exact read_rest s w h t c r hp
      | nil =>
        by_cases hd : t.depth ≤ 24
        · have e : readT s = some t := by simp [readT, hp, h, hd]
          rw [e]
          exact read_ok s w h t hd hp
        · have e : readT s = none := by simp [readT, hp, hd]
          rw [e]
          exact read_deep s w h t (by omega) (by omega) hp
  · have e : readT s = none := by simp only [readT, if_neg h]
    rw [e]
    exact read_long s w (by omega) hl
end Go.Proofs.Ytpiahmdgkmkhiaa
