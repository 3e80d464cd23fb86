import Derived.Test.YtefmmgccdpfnaaaGreatDoorSuC
import Derived.Test.YtefmmgccdpfnaaaGreatDoorMPy
import Derived.Test.YtefmmgccdpfnaaaGreatDoorCl
/- The specification's l4Rule, at every part that is next. -/
namespace Go.Proofs.YtefmmgccdpfnaaaGreatDoor
open Go.RowKit
open Ff
set_option linter.unusedVariables false
attribute [local irreducible] Calls

/-- What a rule comes to, of what lies above a bound. -/
def RuleM (S : Nat → Prop) (lo : Nat) (o : Option (Tm × Text)) (nm : Text) (v : Value) (W : World) : Prop := match o with
  | some r => nm = r.2 ∧ Rep (fun g => S g ∨ (lo ≤ g ∧ g < W.heap.size)) W r.1 v
  | none => nm = []
theorem ruleP_of {S : Nat → Prop} {w : World} {q : Tm} {e : Ending} {w' : World} (h : ∃ (z0 z1 : Int) (z2 : ByteArray) (z3 : Option Addr) (z4 z5 : Nat) (nm : Text), e = .returned (.tuple #[.agg #[.int .u8 z0, .int .i64 z1, .string z2, .slice z3 z4 z5], .string ⟨nm.toArray⟩]) ∧ Below w.heap.size w w' ∧ RuleM S w.heap.size (ruleT q) nm (.agg #[.int .u8 z0, .int .i64 z1, .string z2, .slice z3 z4 z5]) w') : RuleP S w q e w' := by
  obtain ⟨z0, z1, z2, z3, z4, z5, nm, h1, h2, hm⟩ := h
  refine ⟨z0, z1, z2, z3, z4, z5, nm, h1, h2, ?_⟩
  generalize ruleT q = o at *
  cases o with
  | none => exact hm
  | some r => exact hm
theorem ruleM_end {S : Nat → Prop} {w W0 w5 : World} {o : Option (Tm × Text)} {nm : Text} {z0 z1 : Int} {z2 : ByteArray} {z3 : Option Addr} {z4 z5 : Nat} (hS : ∀ g, S g → g < w.heap.size) (bw : w.heap.size ≤ W0.heap.size) (hz0 : W0.heap.size = w.heap.size + 1 + 1 + 1) (z : W0.heap.size ≤ w5.heap.size) (h : RuleM S W0.heap.size o nm (.agg #[.int .u8 z0, .int .i64 z1, .string z2, .slice z3 z4 z5]) w5) :
    RuleM S w.heap.size o nm (.agg #[.int .u8 z0, .int .i64 z1, .string z2, .slice z3 z4 z5]) (set4 w5 (w.heap.size + 1) (.int .u8 z0) (.int .i64 z1) (.string z2) (.slice z3 z4 z5)) := by
  cases o with
  | none => exact h
  | some r => exact ⟨h.1, h.2.keep (fun g hg => set4_far _ _ _ _ _ _ g (by rcases hg with h | h; have := hS g h; omega; omega)) (fun g hg => hg.imp id (fun h => ⟨by omega, by rw [set4_size]; omega⟩))⟩
set_option maxRecDepth 100000 in
set_option maxHeartbeats 4000000 in
theorem rule_app (S : Nat → Prop) (a y : Tm) (v : Value) (w : World) (KC : ∀ (S2 : Nat → Prop) (va vy : Value) (W : World), (∀ g, S2 g → g < W.heap.size) → Rep S2 W a va → Rep S2 W y vy → Calls Tryz.prog 88 #[va, vy] W (RuleP S2 W (.app a y))) (hS : ∀ g, S g → g < w.heap.size) (hr : Rep S w (.app a y) v) :
    Calls Tryz.prog 62 #[v] w (RuleP S w (.app a y)) := by
  cases hr with
  | mk _ g cap c hgS hc hkr hcap =>
    have hgw := hS g hgS
    have r0 := hkr 0 a rfl
    have r1 := hkr 1 y rfl
    obtain ⟨a0, a1, a2, a3, a4, a5, ea⟩ := r0.junk
    obtain ⟨y0, y1, y2, y3, y4, y5, ey⟩ := r1.junk
    rw [ea] at r0
    rw [ey] at r1
    unfold four at ea ey
    simp only [Value.agg.injEq, Array.mk.injEq, List.cons.injEq, and_true] at ea ey
    obtain ⟨e00, e01, e02, e03⟩ := ea
    obtain ⟨e10, e11, e12, e13⟩ := ey
    have m0 : w.cell? ⟨g, 0, none⟩ = some (.int .u8 a0) := (hc 0 (by simp [Tm.kids])).trans (congrArg some e00)
    have m1 : w.cell? ⟨g, 1, none⟩ = some (.int .i64 a1) := (hc 1 (by simp [Tm.kids])).trans (congrArg some e01)
    have m2 : w.cell? ⟨g, 2, none⟩ = some (.string a2) := (hc 2 (by simp [Tm.kids])).trans (congrArg some e02)
    have m3 : w.cell? ⟨g, 3, none⟩ = some (.slice a3 a4 a5) := (hc 3 (by simp [Tm.kids])).trans (congrArg some e03)
    have m4 : w.cell? ⟨g, 4, none⟩ = some (.int .u8 y0) := (hc 4 (by simp [Tm.kids])).trans (congrArg some e10)
    have m5 : w.cell? ⟨g, 5, none⟩ = some (.int .i64 y1) := (hc 5 (by simp [Tm.kids])).trans (congrArg some e11)
    have m6 : w.cell? ⟨g, 6, none⟩ = some (.string y2) := (hc 6 (by simp [Tm.kids])).trans (congrArg some e12)
    have m7 : w.cell? ⟨g, 7, none⟩ = some (.slice y3 y4 y5) := (hc 7 (by simp [Tm.kids])).trans (congrArg some e13)
    have hc3 : 2 ≤ cap := hcap
    have KS : ∀ W, Below w.heap.size w W → Calls Tryz.prog 88 #[.agg #[.int .u8 a0, .int .i64 a1, .string a2, .slice a3 a4 a5], .agg #[.int .u8 y0, .int .i64 y1, .string y2, .slice y3 y4 y5]] W (RuleP S W (.app a y)) := fun W hW =>
      KC S _ _ W (fun g hg => by have := hS g hg; have := hW.size; omega) (r0.keep (fun g hg => hW.block g (hS g hg)) (fun g hg => hg)) (r1.keep (fun g hg => hW.block g (hS g hg)) (fun g hg => hg))
    clear hc hkr r0 r1 e00 e01 e02 e03 e10 e11 e12 e13 hcap KC
    show Calls Tryz.prog 62 #[.agg #[.int .u8 40, .int .i64 0, .string ⟨#[]⟩, .slice (some ⟨g, 0, none⟩) 2 cap]] w _
    unfold RuleP at KS
    refine Calls.mono ?_ (fun e w' h => ruleP_of h)
    generalize ruleT (.app a y) = o at *
    go_enter Tryz.func62, Tryz.ntmps62
    go_wp2_with fail
    obtain ⟨W0, hW0⟩ : ∃ W0, ((w.alloc (tmO 40 0 ⟨#[]⟩ (some ⟨g, 0, none⟩) 2 cap)).alloc (tmO 0 0 ⟨#[]⟩ none 0 0)).alloc (tmO a0 a1 a2 a3 a4 a5) = W0 := ⟨_, rfl⟩
    rw [hW0]
    have B0 : Below w.heap.size w W0 := by rw [← hW0]; exact below_three w _ _ _
    have hz0 : W0.heap.size = w.heap.size + 1 + 1 + 1 := by rw [← hW0]; simp
    have p0 : W0.heap[w.heap.size]? = some (tmO 40 0 ⟨#[]⟩ (some ⟨g, 0, none⟩) 2 cap) := by rw [← hW0, alloc_far _ _ (by simp; omega), alloc_far _ _ (by simp)]; exact alloc_here _ _
    have p1 : W0.heap[w.heap.size + 1]? = some (tmO 0 0 ⟨#[]⟩ none 0 0) := by
      rw [← hW0, alloc_far _ _ (by simp)]
      have h := alloc_here (w.alloc (tmO 40 0 ⟨#[]⟩ (some ⟨g, 0, none⟩) 2 cap)) (tmO 0 0 ⟨#[]⟩ none 0 0)
      rwa [World.size_alloc] at h
    have p2 : W0.heap[w.heap.size + 1 + 1]? = some (tmO a0 a1 a2 a3 a4 a5) := by
      rw [← hW0]
      have h := alloc_here ((w.alloc (tmO 40 0 ⟨#[]⟩ (some ⟨g, 0, none⟩) 2 cap)).alloc (tmO 0 0 ⟨#[]⟩ none 0 0)) (tmO a0 a1 a2 a3 a4 a5)
      rwa [World.size_alloc, World.size_alloc] at h
    clear hW0
    obtain ⟨_, _, _, q03, _⟩ := cells4 p0
    obtain ⟨q20, q21, q22, q23, _⟩ := cells4 p2
    have LB : ∀ W, Below W0.heap.size W0 W → W.cell? ⟨g, 4, none⟩ = some (.int .u8 y0) ∧ W.cell? ⟨g, 5, none⟩ = some (.int .i64 y1) ∧ W.cell? ⟨g, 6, none⟩ = some (.string y2) ∧ W.cell? ⟨g, 7, none⟩ = some (.slice y3 y4 y5) ∧ W.cell? ⟨w.heap.size, 3, none⟩ = some (.slice (some ⟨g, 0, none⟩) 2 cap) ∧ W.cell? ⟨w.heap.size + 1 + 1, 0, none⟩ = some (.int .u8 a0) ∧ W.cell? ⟨w.heap.size + 1 + 1, 1, none⟩ = some (.int .i64 a1) ∧ W.cell? ⟨w.heap.size + 1 + 1, 2, none⟩ = some (.string a2) ∧ W.cell? ⟨w.heap.size + 1 + 1, 3, none⟩ = some (.slice a3 a4 a5) := fun W hW => ⟨((B0.trans (hW.mono B0.size)).cell (p := ⟨g, 4, none⟩) hgw).trans m4, ((B0.trans (hW.mono B0.size)).cell (p := ⟨g, 5, none⟩) hgw).trans m5, ((B0.trans (hW.mono B0.size)).cell (p := ⟨g, 6, none⟩) hgw).trans m6, ((B0.trans (hW.mono B0.size)).cell (p := ⟨g, 7, none⟩) hgw).trans m7, (hW.cell (p := ⟨w.heap.size, 3, none⟩) (by show w.heap.size < _; omega)).trans q03, (hW.cell (p := ⟨w.heap.size + 1 + 1, 0, none⟩) (by show w.heap.size + 1 + 1 < _; omega)).trans q20, (hW.cell (p := ⟨w.heap.size + 1 + 1, 1, none⟩) (by show w.heap.size + 1 + 1 < _; omega)).trans q21, (hW.cell (p := ⟨w.heap.size + 1 + 1, 2, none⟩) (by show w.heap.size + 1 + 1 < _; omega)).trans q22, (hW.cell (p := ⟨w.heap.size + 1 + 1, 3, none⟩) (by show w.heap.size + 1 + 1 < _; omega)).trans q23⟩
    have KS2 : ∀ W, Below W0.heap.size W0 W → Calls Tryz.prog 88 #[.agg #[.int .u8 a0, .int .i64 a1, .string a2, .slice a3 a4 a5], .agg #[.int .u8 y0, .int .i64 y1, .string y2, .slice y3 y4 y5]] W fun e W' =>
        ∃ (z0 z1 : Int) (z2 : ByteArray) (z3 : Option Addr) (z4 z5 : Nat) (nm : Text), e = .returned (.tuple #[.agg #[.int .u8 z0, .int .i64 z1, .string z2, .slice z3 z4 z5], .string ⟨nm.toArray⟩]) ∧ Below W0.heap.size W0 W' ∧ RuleM S W0.heap.size o nm (.agg #[.int .u8 z0, .int .i64 z1, .string z2, .slice z3 z4 z5]) W' := fun W hW =>
      (KS W (B0.trans (hW.mono B0.size))).mono fun e W' ⟨z0, z1, z2, z3, z4, z5, nm, h1, h2, h3⟩ => ⟨z0, z1, z2, z3, z4, z5, nm, h1, hW.trans (h2.mono hW.size), by
        cases o with
        | none => exact h3
        | some r => exact ⟨h3.1, h3.2.keep (fun _ _ => rfl) (fun g hg => hg.imp id (fun h => ⟨by have := h.1; have := hW.size; omega, h.2⟩))⟩⟩
    have HP1 := Lib.hid p1
    have HZ0 := Lib.hid hz0
    clear hz0
    clear m0 m1 m2 m3 m4 m5 m6 m7 q03 q20 q21 q22 q23 p0 p1 p2 KS
    go_region_held3 (fun W => W.cell? ⟨g, 4, none⟩ = some (.int .u8 y0) ∧ W.cell? ⟨g, 5, none⟩ = some (.int .i64 y1) ∧ W.cell? ⟨g, 6, none⟩ = some (.string y2) ∧ W.cell? ⟨g, 7, none⟩ = some (.slice y3 y4 y5) ∧ W.cell? ⟨w.heap.size, 3, none⟩ = some (.slice (some ⟨g, 0, none⟩) 2 cap) ∧ W.cell? ⟨w.heap.size + 1 + 1, 0, none⟩ = some (.int .u8 a0) ∧ W.cell? ⟨w.heap.size + 1 + 1, 1, none⟩ = some (.int .i64 a1) ∧ W.cell? ⟨w.heap.size + 1 + 1, 2, none⟩ = some (.string a2) ∧ W.cell? ⟨w.heap.size + 1 + 1, 3, none⟩ = some (.slice a3 a4 a5)) (first | (refine LB _ ?_; solve | (repeat' (first | assumption | exact Below.refl _ _ | refine Below.drew ?_ | exact Nat.le_refl _ | (show _ ≤ _; omega) | omega))) | (refine ⟨?_, ?_, ?_, ?_, ?_, ?_, ?_, ?_, ?_⟩ <;> (refine cl4_far _ _ _ ?_ ?_ <;> first | with_reducible assumption | omega))) (first | (go_at_call 88; refine (KS2 _ ?_).mono ?_; (solve | (repeat' (first | assumption | exact Below.refl _ _ | refine Below.drew ?_ | exact Nat.le_refl _ | omega))); rintro e w5 ⟨z0, z1, z2, z3, z4, z5, nm, rfl, hB5, hm5⟩; (have hx := (hB5.block (w.heap.size + 1) (by have := HZ0.out; omega)).trans HP1.out); obtain ⟨d0, d1, d2, d3, f0, f1, f2, f3⟩ := cells4 hx; clear hx; obtain ⟨j1, j2, j3, j4, j5, j6, j7, j8, j9⟩ := LB _ hB5))
    all_goals try go_wp2_with fail
    all_goals
      refine bodyPost_ret (v := .tuple #[.agg #[.int .u8 z0, .int .i64 z1, .string z2, .slice z3 z4 z5], .string ⟨nm.toArray⟩]) (by simp [results, Tryz.results62, go_sem, d0, d1, d2, d3]) rfl ?_
      have BW := B0.size
      have z5' := hB5.size
      refine ⟨_, _, _, _, _, _, nm, rfl, set4_below (B0.trans (hB5.mono B0.size)) (by omega) _ _ _ _, ?_⟩
      exact ruleM_end hS BW HZ0.out z5' hm5
theorem rule_c (S : Nat → Prop) (q : Tm) (v : Value) (w : World) (hg : q.good) (hN : NextOk q) (hp : (parts q).length ≤ 1500) (hS : ∀ g, S g → g < w.heap.size) (hr : Rep S w q v) : Calls Tryz.prog 62 #[v] w (RuleP S w q) := by
  obtain ⟨hv, hc, hk⟩ := hN
  have kd := fun (s : Tm) => depth_le s
  have kp := fun (s : Tm) (hs : s ∈ q.kids) => parts_kid_le hs
  have kg := fun (s : Tm) (hs : s ∈ q.kids) => Tm.kid_good hg hs
  cases q with
  | num k => cases hv
  | fn c b => cases hv
  | fix f c b => cases hv
  | var c => exact absurd (hc c) (by simp [cntF])
  | bind x u t =>
    have p1 := kp u (by simp [Tm.kids])
    have p2 := kp t (by simp [Tm.kids])
    have d1 := kd u
    have d2 := kd t
    have cu : Closed u := evalK_closed (k := 0) (t := .bind x u t) rfl hc
    exact rule_bind S x u t v w hg (by omega) (by omega) (by omega) ((free_nil (kg u (by simp [Tm.kids]))).2 cu) hg.1 hS hr
  | sel a y z => exact rule_sel S a y z v w (kg a (by simp [Tm.kids])) hS hr
  | op o a y => exact rule_op S o a y v w hg hS hr
  | app a y =>
    have p1 := kp a (by simp [Tm.kids])
    have p2 := kp y (by simp [Tm.kids])
    have p3 : (parts a).length ≤ 1500 := by omega
    have d2 := kd y
    have ga := kg a (by simp [Tm.kids])
    have gy := kg y (by simp [Tm.kids])
    have ca : Closed a := evalK_closed (k := 0) (t := .app a y) rfl hc
    have cy : Closed y := evalK_closed (k := 1) (t := .app a y) rfl hc
    have hva := hk 0 a rfl
    refine rule_app S a y v w (fun S2 va vy W hS2 h1 h2 => ?_) hS hr
    cases a with
    | num k => exact call_num S2 k y va vy W h1 h2
    | fn x b =>
      have d1 := kd b
      simp only [parts, List.length_cons] at p3
      exact call_fn S2 x b y va vy W ga.2 gy (by omega) (by omega) (by omega) ((free_nil gy).2 cy) ga.1 hS2 h1 h2
    | fix f x b =>
      have d1 := kd b
      simp only [parts, List.length_cons] at p3
      exact call_fix S2 f x b y va vy W ga gy (by omega) (by omega) (by omega) ((free_nil ga).2 ca) ((free_nil gy).2 cy) hS2 h1 h2
    | _ => cases hva
end Go.Proofs.YtefmmgccdpfnaaaGreatDoor

/- The specification's l4Step. -/
namespace Go.Proofs.YtefmmgccdpfnaaaGreatDoor
open Go.RowKit
open Ff
set_option linter.unusedVariables false
attribute [local irreducible] Calls

theorem AtW.keep {w W W' : World} {y0 y1 : Int} {y2 : ByteArray} {y3 : Option Addr} {y4 y5 : Nat} (h : AtW w y0 y1 y2 y3 y4 y5 W) (hb : Below W.heap.size W W') : AtW w y0 y1 y2 y3 y4 y5 W' :=
  ⟨(hb.block _ (Array.getElem?_eq_some_iff.1 h.box).1).trans h.box, (hb.block _ (Array.getElem?_eq_some_iff.1 h.res).1).trans h.res, h.below.trans (hb.mono h.below.size)⟩
theorem AtW.alloc {w W : World} {y0 y1 : Int} {y2 : ByteArray} {y3 : Option Addr} {y4 y5 : Nat} (h : AtW w y0 y1 y2 y3 y4 y5 W) (o : Obj) : AtW w y0 y1 y2 y3 y4 y5 (W.alloc o) := h.keep ((Below.refl _ W).alloc (Nat.le_refl _) o)
theorem AtW.done {w W : World} {y0 y1 : Int} {y2 : ByteArray} {y3 : Option Addr} {y4 y5 : Nat} (h : AtW w y0 y1 y2 y3 y4 y5 W) (z0 z1 z2 z3 : Value) : Below w.heap.size w (set4 W (w.heap.size + 1) z0 z1 z2 z3) := set4_below h.below (by omega) _ _ _ _
theorem AtW.room {w W : World} {y0 y1 : Int} {y2 : ByteArray} {y3 : Option Addr} {y4 y5 : Nat} (h : AtW w y0 y1 y2 y3 y4 y5 W) : w.heap.size + 2 ≤ W.heap.size := (Array.getElem?_eq_some_iff.1 h.res).1
theorem path_keep {W W' : World} {g cap : Nat} {p : List Nat} (h : PathC cap W g p) (hb : Below W.heap.size W W') : PathC cap W' g p :=
  ⟨⟨by have := h.1.1; have := hb.size; omega, fun j u hj => (hb.cell (p := ⟨g, j, none⟩) h.1.1).trans (h.1.2 j u hj)⟩, h.2⟩
/-- Above the two boxes. -/
def Up (w W : World) (g : Nat) : Prop := w.heap.size + 2 ≤ g ∧ g < W.heap.size
theorem rep_new {S : Nat → Prop} {w w4 w5 : World} {T : Tm} {v : Value} (hS : ∀ g, S g → g < w.heap.size) (room : w.heap.size + 2 ≤ w4.heap.size) (hb : Below w4.heap.size w4 w5) (hr : Rep (fun g => S g ∨ New w4 w5 g) w5 T v) (o : Obj) : Rep (fun g => S g ∨ Up w (w5.alloc o) g) (w5.alloc o) T v := by
  have z := hb.size
  have zs : (w5.alloc o).heap.size = w5.heap.size + 1 := by simp
  refine hr.keep (fun g hg => alloc_far _ _ ?_) (fun g hg => ?_)
  · rcases hg with h | h
    · have := hS g h; omega
    · exact h.2
  · rcases hg with h | h
    · exact .inl h
    · exact .inr ⟨by have := h.1; omega, by have := h.2; omega⟩
theorem rep_alloc {S : Nat → Prop} {w W : World} {T : Tm} {v : Value} (hS : ∀ g, S g → g < w.heap.size) (room : w.heap.size + 2 ≤ W.heap.size) (hr : Rep (fun g => S g ∨ Up w W g) W T v) (o : Obj) : Rep (fun g => S g ∨ Up w W g) (W.alloc o) T v :=
  hr.keep (fun g hg => alloc_far _ _ (by rcases hg with h | h; have := hS g h; omega; exact h.2)) (fun g hg => hg)
theorem rep_low8 {S : Nat → Prop} {w W : World} {T : Tm} {v : Value} {o : Obj} (hS : ∀ g, S g → g < w.heap.size) (room : w.heap.size + 2 ≤ W.heap.size) (hr : Rep (fun g => S g ∨ Up w W g) (W.alloc o) T v) : Rep (fun g => g < (W.alloc o).heap.size) (W.alloc o) T v := by
  have zs : (W.alloc o).heap.size = W.heap.size + 1 := by simp
  exact hr.keep (fun _ _ => rfl) (fun g hg => by rcases hg with h | h; have := hS g h; omega; have := h.2; omega)
theorem rep_keep9 {S : Nat → Prop} {w W w9 : World} {T : Tm} {v : Value} {o : Obj} (hS : ∀ g, S g → g < w.heap.size) (room : w.heap.size + 2 ≤ W.heap.size) (hr : Rep (fun g => S g ∨ Up w W g) (W.alloc o) T v) (hb : Below (W.alloc o).heap.size (W.alloc o) w9) : Rep (fun g => S g ∨ Up w w9 g) w9 T v := by
  have zs : (W.alloc o).heap.size = W.heap.size + 1 := by simp
  have z := hb.size
  refine hr.keep (fun g hg => hb.block g ?_) (fun g hg => hg.imp id (fun h => ⟨h.1, by have := h.2; omega⟩))
  rcases hg with h | h
  · have := hS g h; omega
  · have := h.2; omega
theorem rep_end {S : Nat → Prop} {w w9 : World} {T : Tm} {v : Value} (hS : ∀ g, S g → g < w.heap.size) (hr : Rep (fun g => S g ∨ Up w w9 g) w9 T v) (z0 z1 z2 z3 : Value) : Rep (fun g => S g ∨ New w (set4 w9 (w.heap.size + 1) z0 z1 z2 z3) g) (set4 w9 (w.heap.size + 1) z0 z1 z2 z3) T v :=
  hr.keep (fun g hg => set4_far _ _ _ _ _ _ g (by rcases hg with h | h; have := hS g h; omega; have := h.1; omega)) (fun g hg => hg.imp id (fun h => ⟨by have := h.1; omega, by rw [set4_size]; exact h.2⟩))
theorem rule_name {q : Tm} {r : Tm × Text} (h : ruleT q = some r) : r.2 ≠ [] := by
  cases q with
  | bind c v b => simp only [ruleT, Option.some.injEq] at h; subst h; simp
  | app f a => cases f <;> simp only [ruleT, Option.some.injEq, reduceCtorEq] at h <;> subst h <;> simp
  | sel a y z =>
    cases a with
    | num k => simp only [ruleT] at h; split at h <;> (injection h with h; subst h; simp)
    | _ => cases h
  | op o l r2 =>
    cases l with
    | num a => cases r2 with
      | num b => simp only [ruleT, Option.some.injEq] at h; subst h; simp
      | _ => cases h
    | _ => cases h
  | _ => cases h
/-- What the specification's step comes to. -/
def StepSP (S : Nat → Prop) (w : World) (o : Option (Tm × Text)) (e : Ending) (w' : World) : Prop := ∃ (z0 z1 : Int) (z2 : ByteArray) (z3 : Option Addr) (z4 z5 : Nat) (nm : Text), e = .returned (.tuple #[.agg #[.int .u8 z0, .int .i64 z1, .string z2, .slice z3 z4 z5], .string ⟨nm.toArray⟩]) ∧ Below w.heap.size w w' ∧
  (match o with
  | some r => nm = r.2 ∧ nm ≠ [] ∧ Rep (fun g => S g ∨ New w w' g) w' r.1 (.agg #[.int .u8 z0, .int .i64 z1, .string z2, .slice z3 z4 z5])
  | none => nm = [])
theorem nonempty_text {nm : Text} (h : nm ≠ []) : nm.isEmpty = false := by simp [h]
set_option maxRecDepth 100000 in
set_option maxHeartbeats 4000000 in
theorem step_val (S : Nat → Prop) (t : Tm) (x0 x1 : Int) (x2 : ByteArray) (x3 : Option Addr) (x4 x5 : Nat) (w : World) (hv : t.isVal = true)
    (KN : ∀ W, Below w.heap.size w W → Calls Tryz.prog 55 #[.agg #[.int .u8 x0, .int .i64 x1, .string x2, .slice x3 x4 x5]] W fun e w' => ∃ g cap, e = .returned (.tuple #[.slice (some ⟨g, 0, none⟩) (redexP t).length cap, .bool (!t.isVal)]) ∧ PathC cap w' g (redexP t) ∧ Below W.heap.size W w') :
    Calls Tryz.prog 36 #[.agg #[.int .u8 x0, .int .i64 x1, .string x2, .slice x3 x4 x5]] w (StepSP S w (stepT t)) := by
  have es : stepT t = none := by unfold stepT; rw [if_pos hv]
  unfold StepSP
  rw [es]
  simp only [hv, Bool.not_true] at KN
  have A0 := AtW.new w x0 x1 x2 x3 x4 x5
  generalize (redexP t).length = L at *
  clear es hv
  go_enter Tryz.func36, Tryz.ntmps36
  go_wp2_with (go_at_call 55; refine (KN _ A0.below).mono ?_; clear KN; rintro e w3 ⟨g, cap, rfl, hpa, hb3⟩; (have A3 := A0.keep hb3); obtain ⟨a0, a1, a2, a3, _⟩ := cells4 A3.box; obtain ⟨d0, d1, d2, d3, f0, f1, f2, f3⟩ := cells4 A3.res; clear A0 hpa hb3)
  refine bodyPost_ret (v := .tuple #[.agg #[.int .u8 x0, .int .i64 x1, .string x2, .slice x3 x4 x5], .string ⟨#[]⟩]) (by simp [results, Tryz.results36, go_sem, d0, d1, d2, d3]) rfl ?_
  exact ⟨_, _, _, _, _, _, [], rfl, A3.done _ _ _ _, rfl⟩
set_option maxRecDepth 100000 in
set_option maxHeartbeats 4000000 in
theorem step_none (S : Nat → Prop) (t : Tm) (x0 x1 : Int) (x2 : ByteArray) (x3 : Option Addr) (x4 x5 : Nat) (w : World) (hv : t.isVal = false) (hq : ruleT (partAt t (redexP t)) = none)
    (KN : ∀ W, Below w.heap.size w W → Calls Tryz.prog 55 #[.agg #[.int .u8 x0, .int .i64 x1, .string x2, .slice x3 x4 x5]] W fun e w' => ∃ g cap, e = .returned (.tuple #[.slice (some ⟨g, 0, none⟩) (redexP t).length cap, .bool (!t.isVal)]) ∧ PathC cap w' g (redexP t) ∧ Below W.heap.size W w')
    (KA : ∀ W g cap, Below w.heap.size w W → PathC cap W g (redexP t) → Calls Tryz.prog 56 #[.agg #[.int .u8 x0, .int .i64 x1, .string x2, .slice x3 x4 x5], .slice (some ⟨g, 0, none⟩) (redexP t).length cap] W fun e w' => ∃ q0 q1 q2 q3 q4 q5, e = .returned (.agg #[.int .u8 q0, .int .i64 q1, .string q2, .slice q3 q4 q5]) ∧ Rep S w' (partAt t (redexP t)) (.agg #[.int .u8 q0, .int .i64 q1, .string q2, .slice q3 q4 q5]) ∧ Below W.heap.size W w')
    (KR : ∀ W v, Below w.heap.size w W → Rep S W (partAt t (redexP t)) v → Calls Tryz.prog 62 #[v] W (RuleP S W (partAt t (redexP t)))) :
    Calls Tryz.prog 36 #[.agg #[.int .u8 x0, .int .i64 x1, .string x2, .slice x3 x4 x5]] w (StepSP S w (stepT t)) := by
  have es : stepT t = none := by unfold stepT; rw [if_neg (by rw [hv]; simp), hq]; rfl
  unfold StepSP
  rw [es]
  simp only [hv, Bool.not_false] at KN
  unfold RuleP at KR
  rw [hq] at KR
  have A0 := AtW.new w x0 x1 x2 x3 x4 x5
  generalize redexP t = p at *
  generalize partAt t p = q at *
  clear es hv hq
  go_enter Tryz.func36, Tryz.ntmps36
  go_wp2_with (first
    | (go_at_call 55; refine (KN _ A0.below).mono ?_; clear KN; rintro e w3 ⟨g, cap, rfl, hpa, hb3⟩; (have A3 := A0.keep hb3); obtain ⟨a0, a1, a2, a3, _⟩ := cells4 A3.box; clear A0 hb3)
    | (go_at_call 56; refine (KA _ _ _ A3.below hpa).mono ?_; clear KA; rintro e w4 ⟨q0, q1, q2, q3, q4, q5, rfl, hr4, hb4⟩; (have A4 := A3.keep hb4); clear hb4)
    | (go_at_call 62; refine (KR _ _ A4.below hr4).mono ?_; clear KR; rintro e w5 ⟨z0, z1, z2, z3, z4, z5, nm, rfl, hb5, rfl⟩; (have A5 := (A4.keep hb5).alloc (tmO z0 z1 z2 z3 z4 z5)); obtain ⟨b0, b1, b2, b3, _⟩ := cells4 A5.box; obtain ⟨d0, d1, d2, d3, f0, f1, f2, f3⟩ := cells4 A5.res; clear hb5))
  refine bodyPost_ret (v := .tuple #[.agg #[.int .u8 x0, .int .i64 x1, .string x2, .slice x3 x4 x5], .string ⟨#[]⟩]) (by simp [results, Tryz.results36, go_sem, d0, d1, d2, d3]) rfl ?_
  exact ⟨_, _, _, _, _, _, [], rfl, A5.done _ _ _ _, rfl⟩
set_option maxRecDepth 100000 in
set_option maxHeartbeats 8000000 in
theorem step_some (S : Nat → Prop) (t : Tm) (r : Tm × Text) (x0 x1 : Int) (x2 : ByteArray) (x3 : Option Addr) (x4 x5 : Nat) (w : World) (h : StateOk t) (hv : t.isVal = false) (hq : ruleT (partAt t (redexP t)) = some r) (hS : ∀ g, S g → g < w.heap.size) (hr : Rep S w t (.agg #[.int .u8 x0, .int .i64 x1, .string x2, .slice x3 x4 x5]))
    (KN : ∀ W, Below w.heap.size w W → Calls Tryz.prog 55 #[.agg #[.int .u8 x0, .int .i64 x1, .string x2, .slice x3 x4 x5]] W fun e w' => ∃ g cap, e = .returned (.tuple #[.slice (some ⟨g, 0, none⟩) (redexP t).length cap, .bool (!t.isVal)]) ∧ PathC cap w' g (redexP t) ∧ Below W.heap.size W w')
    (KA : ∀ W g cap, Below w.heap.size w W → PathC cap W g (redexP t) → Calls Tryz.prog 56 #[.agg #[.int .u8 x0, .int .i64 x1, .string x2, .slice x3 x4 x5], .slice (some ⟨g, 0, none⟩) (redexP t).length cap] W fun e w' => ∃ q0 q1 q2 q3 q4 q5, e = .returned (.agg #[.int .u8 q0, .int .i64 q1, .string q2, .slice q3 q4 q5]) ∧ Rep S w' (partAt t (redexP t)) (.agg #[.int .u8 q0, .int .i64 q1, .string q2, .slice q3 q4 q5]) ∧ Below W.heap.size W w')
    (KR : ∀ W v, Below w.heap.size w W → Rep S W (partAt t (redexP t)) v → Calls Tryz.prog 62 #[v] W (RuleP S W (partAt t (redexP t)))) :
    Calls Tryz.prog 36 #[.agg #[.int .u8 x0, .int .i64 x1, .string x2, .slice x3 x4 x5]] w (StepSP S w (stepT t)) := by
  have M := made_ok h.good h.many h.closed hv hq
  have hne := rule_name hq
  have es : stepT t = if (textN (withAt t (redexP t) r.1)).length ≤ 1500 then some (withAt t (redexP t) r.1, r.2) else none := by unfold stepT; rw [if_neg (by rw [hv]; simp), hq]; rfl
  have hpl := redexP_len t
  have htd := h.deep
  have KW : ∀ (W : World) g cap z0 z1 z2 z3 z4 z5, w.heap.size + 2 ≤ W.heap.size → Below w.heap.size w W → PathC cap W g (redexP t) → Rep (fun g => S g ∨ Up w W g) W r.1 (.agg #[.int .u8 z0, .int .i64 z1, .string z2, .slice z3 z4 z5]) → Calls Tryz.prog 63 #[.agg #[.int .u8 x0, .int .i64 x1, .string x2, .slice x3 x4 x5], .slice (some ⟨g, 0, none⟩) (redexP t).length cap, .agg #[.int .u8 z0, .int .i64 z1, .string z2, .slice z3 z4 z5]] W fun e w' =>
      ∃ r0 r1 r2 r3 r4 r5, e = .returned (.agg #[.int .u8 r0, .int .i64 r1, .string r2, .slice r3 r4 r5]) ∧ Below W.heap.size W w' ∧ Rep (fun g => S g ∨ Up w w' g) w' (withAt t (redexP t) r.1) (.agg #[.int .u8 r0, .int .i64 r1, .string r2, .slice r3 r4 r5]) := fun W g cap z0 z1 z2 z3 z4 z5 room hW hp hz =>
    (withAt_c (redexP t) (fun g => S g ∨ Up w W g) t r.1 _ _ (some ⟨g, 0, none⟩) cap W (redexP_ok t) (fun g hg => by rcases hg with h | h; have := hS g h; have := hW.size; omega; exact h.2) (hr.keep (fun g hg => hW.block g (hS g hg)) (fun g hg => .inl hg)) hz
      (fun j u hj => ⟨g, 0, rfl, hp.1.1, by have := hp.1.2 j (iV u) (by rw [List.getElem?_map, hj]; rfl); rw [Nat.zero_add]; exact this⟩) hp.2 (by omega)).mono fun e w' ⟨v, h1, h2, h3⟩ => by
        obtain ⟨r0, r1, r2, r3, r4, r5, rfl⟩ := h3.junk
        exact ⟨r0, r1, r2, r3, r4, r5, h1, h2, h3.keep (fun _ _ => rfl) (fun g hg => by
          rcases hg with (h | h) | h
          · exact .inl h
          · exact .inr ⟨h.1, by have := h.2; have := h2.size; omega⟩
          · exact .inr ⟨by have := h.1; omega, h.2⟩)⟩
  have KT : ∀ (W : World) r0 r1 r2 r3 r4 r5, Rep (fun g => g < W.heap.size) W (withAt t (redexP t) r.1) (.agg #[.int .u8 r0, .int .i64 r1, .string r2, .slice r3 r4 r5]) → Calls Tryz.prog 37 #[.agg #[.int .u8 r0, .int .i64 r1, .string r2, .slice r3 r4 r5]] W fun e w' => e = .returned (.string ⟨(textN (withAt t (redexP t) r.1)).toArray⟩) ∧ Below W.heap.size W w' := fun W r0 r1 r2 r3 r4 r5 hz =>
    stext_c 4000 _ W.heap.size _ W (by have := M.deep; omega) (Nat.le_refl _) (by have := M.many; omega) hz (Nat.le_refl _) M.good
  unfold StepSP
  rw [es]
  simp only [hv, Bool.not_false] at KN
  unfold RuleP at KR
  rw [hq] at KR
  have A0 := AtW.new w x0 x1 x2 x3 x4 x5
  obtain ⟨R, nm⟩ := r
  simp only at KR KW KT hne ⊢
  have HNE := Lib.hid hne
  have hnb := nonempty_text hne
  have HS := Lib.hid hS
  generalize withAt t (redexP t) R = T at *
  generalize redexP t = p at *
  generalize partAt t p = q at *
  have hpl' : (textN T).length ≤ 100000000 := by have := text_len T; have := M.many; omega
  clear es hv hq M hr htd hpl h hne hS
  by_cases hl : (textN T).length ≤ 1500
  · rw [if_pos hl]
    have hl2 : ¬ (1500 : Int) < ((textN T).length : Int) := by omega
    clear hl
    generalize textN T = TT at *
    go_enter Tryz.func36, Tryz.ntmps36
    go_wp2_with (first
      | (go_at_call 55; refine (KN _ A0.below).mono ?_; clear KN; rintro e w3 ⟨g, cap, rfl, hpa, hb3⟩; (have A3 := A0.keep hb3); obtain ⟨a0, a1, a2, a3, _⟩ := cells4 A3.box; clear A0 hb3)
      | (go_at_call 56; refine (KA _ _ _ A3.below hpa).mono ?_; clear KA; rintro e w4 ⟨q0, q1, q2, q3, q4, q5, rfl, hr4, hb4⟩; (have A4 := A3.keep hb4); (have hpa4 := path_keep hpa hb4); clear hb4)
      | (go_at_call 62; refine (KR _ _ A4.below hr4).mono ?_; clear KR; rintro e w5 ⟨z0, z1, z2, z3, z4, z5, nm', rfl, hb5, hnm, hr5⟩; subst nm'; (have A5 := (A4.keep hb5).alloc (tmO z0 z1 z2 z3 z4 z5)); (have hpa5 := path_keep hpa4 (hb5.alloc hb5.size (tmO z0 z1 z2 z3 z4 z5))); (have hr6 := rep_new HS.out A4.room hb5 hr5 (tmO z0 z1 z2 z3 z4 z5)); obtain ⟨b0, b1, b2, b3, _⟩ := cells4 A5.box; clear hb5 hr5)
      | (go_at_call 63; refine (KW _ _ _ _ _ _ _ _ _ A5.room A5.below hpa5 hr6).mono ?_; clear KW; rintro e w7 ⟨r0, r1, r2, r3, r4, r5, rfl, hb7, hr7⟩; (have A7 := (A5.keep hb7).alloc (tmO r0 r1 r2 r3 r4 r5)); (have k7 := alloc_here w7 (tmO r0 r1 r2 r3 r4 r5)); (have A7b := (A5.keep hb7).room); (have hr8 := rep_alloc HS.out A7b hr7 (tmO r0 r1 r2 r3 r4 r5)); clear hb7 hr7)
      | (go_at_call 37; refine (KT _ _ _ _ _ _ _ (rep_low8 HS.out A7b hr8)).mono ?_; clear KT; rintro e w9 ⟨rfl, hb9⟩; (have A9 := A7.keep hb9); obtain ⟨c0, c1, c2, c3, _⟩ := cells4 A9.box; obtain ⟨d0, d1, d2, d3, f0, f1, f2, f3⟩ := cells4 A9.res; (have k9 := (hb9.block w7.heap.size (by simp)).trans k7); obtain ⟨e0, e1, e2, e3, _⟩ := cells4 k9; (have hr9 := rep_keep9 HS.out A7b hr8 hb9)))
    refine bodyPost_ret (v := .tuple #[.agg #[.int .u8 r0, .int .i64 r1, .string r2, .slice r3 r4 r5], .string ⟨nm.toArray⟩]) (by simp [results, Tryz.results36, go_sem, d0, d1, d2, d3]) rfl ?_
    exact ⟨_, _, _, _, _, _, nm, rfl, A9.done _ _ _ _, rfl, HNE.out, rep_end HS.out hr9 _ _ _ _⟩
  · rw [if_neg hl]
    have hl2 : (1500 : Int) < ((textN T).length : Int) := by omega
    clear hl
    generalize textN T = TT at *
    go_enter Tryz.func36, Tryz.ntmps36
    go_wp2_with (first
      | (go_at_call 55; refine (KN _ A0.below).mono ?_; clear KN; rintro e w3 ⟨g, cap, rfl, hpa, hb3⟩; (have A3 := A0.keep hb3); obtain ⟨a0, a1, a2, a3, _⟩ := cells4 A3.box; clear A0 hb3)
      | (go_at_call 56; refine (KA _ _ _ A3.below hpa).mono ?_; clear KA; rintro e w4 ⟨q0, q1, q2, q3, q4, q5, rfl, hr4, hb4⟩; (have A4 := A3.keep hb4); (have hpa4 := path_keep hpa hb4); clear hb4)
      | (go_at_call 62; refine (KR _ _ A4.below hr4).mono ?_; clear KR; rintro e w5 ⟨z0, z1, z2, z3, z4, z5, nm', rfl, hb5, hnm, hr5⟩; subst nm'; (have A5 := (A4.keep hb5).alloc (tmO z0 z1 z2 z3 z4 z5)); (have hpa5 := path_keep hpa4 (hb5.alloc hb5.size (tmO z0 z1 z2 z3 z4 z5))); (have hr6 := rep_new HS.out A4.room hb5 hr5 (tmO z0 z1 z2 z3 z4 z5)); obtain ⟨b0, b1, b2, b3, _⟩ := cells4 A5.box; clear hb5 hr5)
      | (go_at_call 63; refine (KW _ _ _ _ _ _ _ _ _ A5.room A5.below hpa5 hr6).mono ?_; clear KW; rintro e w7 ⟨r0, r1, r2, r3, r4, r5, rfl, hb7, hr7⟩; (have A7 := (A5.keep hb7).alloc (tmO r0 r1 r2 r3 r4 r5)); (have A7b := (A5.keep hb7).room); (have hr8 := rep_alloc HS.out A7b hr7 (tmO r0 r1 r2 r3 r4 r5)); clear hb7 hr7)
      | (go_at_call 37; refine (KT _ _ _ _ _ _ _ (rep_low8 HS.out A7b hr8)).mono ?_; clear KT; rintro e w9 ⟨rfl, hb9⟩; (have A9 := A7.keep hb9); obtain ⟨c0, c1, c2, c3, _⟩ := cells4 A9.box; obtain ⟨d0, d1, d2, d3, f0, f1, f2, f3⟩ := cells4 A9.res))
    refine bodyPost_ret (v := .tuple #[.agg #[.int .u8 x0, .int .i64 x1, .string x2, .slice x3 x4 x5], .string ⟨#[]⟩]) (by simp [results, Tryz.results36, go_sem, d0, d1, d2, d3]) rfl ?_
    exact ⟨_, _, _, _, _, _, [], rfl, A9.done _ _ _ _, rfl⟩
theorem sStep_c (S : Nat → Prop) (t : Tm) (v : Value) (w : World) (h : StateOk t) (hS : ∀ g, S g → g < w.heap.size) (hr : Rep S w t v) : Calls Tryz.prog 36 #[v] w (StepSP S w (stepT t)) := by
  obtain ⟨x0, x1, x2, x3, x4, x5, rfl⟩ := hr.junk
  have hd := h.deep
  have hpl := redexP_len t
  obtain ⟨pg, pd, pp⟩ := part_at_facts t (redexP t) (redexP_ok t)
  have KN : ∀ W, Below w.heap.size w W → Calls Tryz.prog 55 #[.agg #[.int .u8 x0, .int .i64 x1, .string x2, .slice x3 x4 x5]] W fun e w' => ∃ g cap, e = .returned (.tuple #[.slice (some ⟨g, 0, none⟩) (redexP t).length cap, .bool (!t.isVal)]) ∧ PathC cap w' g (redexP t) ∧ Below W.heap.size W w' := fun W hW =>
    l4next_c t.depth S t _ W (Nat.le_refl _) (by omega) h.good h.closed (fun g hg => by have := hS g hg; have := hW.size; omega) (hr.keep (fun g hg => hW.block g (hS g hg)) (fun g hg => hg))
  cases hv : t.isVal
  · have hN := next_ok t.depth t (Nat.le_refl _) hv h.closed
    have KA : ∀ W g cap, Below w.heap.size w W → PathC cap W g (redexP t) → Calls Tryz.prog 56 #[.agg #[.int .u8 x0, .int .i64 x1, .string x2, .slice x3 x4 x5], .slice (some ⟨g, 0, none⟩) (redexP t).length cap] W fun e w' => ∃ q0 q1 q2 q3 q4 q5, e = .returned (.agg #[.int .u8 q0, .int .i64 q1, .string q2, .slice q3 q4 q5]) ∧ Rep S w' (partAt t (redexP t)) (.agg #[.int .u8 q0, .int .i64 q1, .string q2, .slice q3 q4 q5]) ∧ Below W.heap.size W w' := fun W g cap hW hp =>
      (at_c S t _ (redexP t) g cap W (fun g hg => by have := hS g hg; have := hW.size; omega) (hr.keep (fun g hg => hW.block g (hS g hg)) (fun g hg => hg)) hp.1 (redexP_ok t) (by omega)).mono fun e w' ⟨v', h1, h2, h3⟩ => by
        obtain ⟨q0, q1, q2, q3, q4, q5, rfl⟩ := h2.junk
        exact ⟨q0, q1, q2, q3, q4, q5, h1, h2, h3⟩
    have KR : ∀ W v, Below w.heap.size w W → Rep S W (partAt t (redexP t)) v → Calls Tryz.prog 62 #[v] W (RuleP S W (partAt t (redexP t))) := fun W v hW hv =>
      rule_c S _ v W (pg h.good) hN (by have := h.many; omega) (fun g hg => by have := hS g hg; have := hW.size; omega) hv
    rcases hq : ruleT (partAt t (redexP t)) with _ | r
    · exact step_none S t x0 x1 x2 x3 x4 x5 w hv hq KN KA KR
    · exact step_some S t r x0 x1 x2 x3 x4 x5 w h hv hq hS hr KN KA KR
  · exact step_val S t x0 x1 x2 x3 x4 x5 w hv KN
end Go.Proofs.YtefmmgccdpfnaaaGreatDoor
