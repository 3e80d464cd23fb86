import Derived.Test.YtkhdghbjififnaaUa
import Derived.Test.YtkhdghbjififnaaPuE
/- Unique: the program's names that are pulled, and what names stand for. -/
namespace Go.Proofs.Ytkhdghbjififnaa
open Go.RowKit
open Ff
set_option linter.unusedVariables false
attribute [local go_sem] Oper.semAt_some

/-- Block b of the world holds the names u, which are taken. -/
def Took (w : World) (b : Nat) (u : Text) : Prop := ∃ (n : Nat) (m : UInt8 → Nat), Tally w b n m ∧ n ≤ 4000 + u.length ∧ ∀ c, m c = 0 ↔ c ∉ u
theorem Took.kept {w w' : World} {row : Option Nat} {b : Nat} {u : Text} (h : Took w b u) (hg : w.grownBy w' row) (hne : some b ≠ row) : Took w' b u := by
  obtain ⟨n, m, h1, h2⟩ := h
  exact ⟨n, m, h1.kept hg hne, h2⟩
theorem Took.below {w w' : World} {b : Nat} {u : Text} (h : Took w b u) (hg : Below w.heap.size w w') : Took w' b u := by
  obtain ⟨n, m, h1, h2⟩ := h
  exact ⟨n, m, h1.below hg, h2⟩
theorem Took.lt {w : World} {b : Nat} {u : Text} (h : Took w b u) : b < w.heap.size := by
  obtain ⟨n, m, h1, h2⟩ := h
  exact h1.lt
theorem took_new {m : UInt8 → Nat} {u : Text} (h : ∀ c, m c = 0 ↔ c ∉ u) : (butTo m 16).head? = newO u := by
  unfold newO butTo
  rw [show letters.take 16 = letters from rfl]
  have h0 : ∀ (l : Text), (l.filter (fun c => decide (m c = 0))).head? = l.find? (fun c => decide (c ∉ u)) := by
    intro l
    induction l with
    | nil => rfl
    | cons c l ih =>
      have e : decide (m c = 0) = decide (c ∉ u) := by rw [decide_eq_decide]; exact h c
      simp only [List.filter_cons, List.find?_cons, ← e]
      cases decide (m c = 0) <;> simp [ih]
  exact h0 letters
/-- .. one more. -/
theorem took_upd {m : UInt8 → Nat} {u : Text} (h : ∀ c, m c = 0 ↔ c ∉ u) (d : UInt8) (c : UInt8) : upd m d 1 c = 0 ↔ c ∉ u ++ [d] := by
  unfold upd
  by_cases e : c = d
  · subst e; simp
  · simp [e, h c]
set_option maxRecDepth 100000 in
set_option maxHeartbeats 2000000 in
theorem pull_c (b p : Nat) (u : Text) (w : World) (hu : Used u) (hT : Took w b u) (hp : w.cell? ⟨p, 0, none⟩ = some (.map (some b))) :
    Calls Try.prog 70 #[.pointer (some ⟨p, 0, none⟩)] w fun e w' => ((∃ c, newO u = some c ∧ e = .returned (bv c) ∧ Took w' b (u ++ [c])) ∨ (newO u = none ∧ e = .panicked shortP)) ∧ w.grownBy w' (some b) := by
  obtain ⟨n, m, hT, hn, hm⟩ := hT
  have hul := used_len hu
  have hpl := World.block_lt_of_cell? w _ hp
  have C := mustUntaken_c b n m w hT
  rw [took_new hm] at C
  have HM := Lib.hid hm
  have HN := Lib.hid hn
  clear hm hn
  rcases hr : newO u with _ | c
  · rw [hr] at C
    go_enter Try.func70, Try.ntmps70
    go_wp2_with (go_at_call 71; refine C.mono ?_; clear C; rintro e w1 ⟨h1, hb1⟩; obtain rfl : e = .panicked shortP := (by rcases h1 with ⟨c, h1, _⟩ | ⟨_, h1⟩; cases h1; exact h1))
    exact ⟨rfl, .inr ⟨trivial, rfl⟩, (below_grown hb1).but _⟩
  · rw [hr] at C
    have hcn := newO_nam hr
    have hm0 : m c = 0 := (HM.out c).2 hcn.2
    have HR := Lib.hid hr
    clear hr
    go_enter Try.func70, Try.ntmps70
    go_wp2_with (first
      | (go_at_call 71; refine C.mono ?_; clear C; rintro e w1 ⟨h1, hb1⟩; obtain rfl : e = .returned (bv c) := (by rcases h1 with ⟨d, h1, h2⟩ | ⟨h1, _⟩; (injection h1 with h1; subst h1; exact h2); cases h1); clear h1; have hT1 := hT.below hb1; have hp1 := (hb1.cell (p := ⟨p, 0, none⟩) hpl).trans hp)
      | (at_lookup; refine wpList_lookup_tally rfl _ _ rfl rfl hT1 c rfl ?_; rw [hm0])
      | (at_mapUpdate; refine wpList_update_tally rfl _ _ _ rfl rfl hT1 c rfl 1 (by go_num) (by have := HN.out; unfold maxLen; omega) (by omega) (by omega) ?_; intro w4 hT4 hg4; go_frame)
      | go_in)
    go_ret
    refine ⟨.inl ⟨c, rfl, rfl, n + 1, _, hT4, by have := HN.out; simp; omega, took_upd HM.out c⟩, ((below_grown hb1).but (some b)).andThen hg4 (fun j hj => .inr hj)⟩
/-- A function that tells what a name stands for. -/
def Stands (b : Nat) (w : World) (fv : Value) (env : UInt8 → UInt8) : Prop :=
  ∃ (f : FuncId) (cap : Array Value), fv = .func (.func f) #[] cap ∧ (∀ (W : World) (v : Value), (callFunc f (#[v] ++ cap)).run Try.prog W = .ok (.enter f (#[v] ++ cap)) W) ∧
    ∀ (W : World), w.grownBy W (some b) → ∀ c, Calls Try.prog f (#[bv c] ++ cap) W fun e W' => e = .returned (bv (env c)) ∧ Below W.heap.size W W'
theorem Stands.keep {b : Nat} {w w' : World} {fv : Value} {env : UInt8 → UInt8} (h : Stands b w fv env) (hg : w.grownBy w' (some b)) : Stands b w' fv env := by
  obtain ⟨f, cap, h1, h2, h3⟩ := h
  exact ⟨f, cap, h1, h2, fun W hW => h3 W (hg.trans hW)⟩
theorem enter_asIs (w : World) (v : Value) : (callFunc 56 (#[v] ++ #[])).run Try.prog w = .ok (.enter 56 (#[v] ++ #[])) w := by kernel_rfl
theorem enter_in (a c d : Value) (w : World) (v : Value) : (callFunc 72 (#[v] ++ #[a, c, d])).run Try.prog w = .ok (.enter 72 (#[v] ++ #[a, c, d])) w := by kernel_rfl
set_option maxHeartbeats 1000000 in
theorem asIs_c (c : UInt8) (w : World) : Calls Try.prog 56 #[bv c] w fun e w' => e = .returned (bv c) ∧ Below w.heap.size w w' := by
  go_enter Try.func56, Try.ntmps56
  go_wp2_with fail
  go_ret
  exact ⟨rfl, Below.refl _ w⟩
theorem stands_asIs (b : Nat) (w : World) : Stands b w (.func (.func 56) #[] #[]) id :=
  ⟨_, _, rfl, enter_asIs, fun W _ c => asIs_c c W⟩
theorem first_at {c : UInt8} : ∀ {s : Text}, c ∈ s → ∃ j, s[j]? = some c ∧ c ∉ s.take j
  | [], h => by cases h
  | a :: s, h => by
    by_cases e : c = a
    · subst e; exact ⟨0, rfl, by simp⟩
    · have hm : c ∈ s := by
        rcases List.mem_cons.1 h with h | h
        · exact absurd h e
        · exact h
      obtain ⟨j, h1, h2⟩ := first_at hm
      exact ⟨j + 1, by simpa using h1, by simp only [List.take_succ_cons, List.mem_cons, not_or]; exact ⟨e, h2⟩⟩
theorem over_in {ns ms : Text} (hl : ms.length = ns.length) (e : UInt8 → UInt8) {c : UInt8} (h : c ∈ ns) : ∃ (i : Nat) (d : UInt8), findI c ns = (i : Int) ∧ ms[i]? = some d ∧ over ns ms e c = d := by
  induction ns generalizing ms with
  | nil => cases h
  | cons a ns ih =>
    match ms, hl with
    | m :: ms, hl =>
      by_cases hca : c = a
      · subst hca
        exact ⟨0, m, by rw [findI_at (k := 0) rfl (by simp)], rfl, by simp [over]⟩
      · have hm : c ∈ ns := by
          rcases List.mem_cons.1 h with h | h
          · exact absurd h hca
          · exact h
        obtain ⟨i, d, h1, h2, h3⟩ := ih (ms := ms) (by simpa using hl) hm
        have h4 := findI_mem c ns
        obtain ⟨j, hj, hnj⟩ : ∃ j, ns[j]? = some c ∧ c ∉ ns.take j := by
          obtain ⟨j, hj⟩ := first_at hm
          exact ⟨j, hj⟩
        have e1 := findI_at hj hnj
        rw [h1] at e1
        obtain rfl : i = j := by omega
        refine ⟨i + 1, d, ?_, h2, ?_⟩
        · rw [findI_at (k := i + 1) (by simpa using hj) (by simp only [List.take_succ_cons, List.mem_cons, not_or]; exact ⟨hca, hnj⟩)]
        · unfold over at h3 ⊢
          rw [List.zip_cons_cons, List.lookup_cons, show (c == a) = false by simpa using hca]
          exact h3
theorem over_out {ns ms : Text} (e : UInt8 → UInt8) {c : UInt8} (h : c ∉ ns) : over ns ms e c = e c := by
  unfold over
  have : (ns.zip ms).lookup c = none := by
    induction ns generalizing ms with
    | nil => simp
    | cons a ns ih =>
      cases ms with
      | nil => simp
      | cons m ms =>
        simp only [List.mem_cons, not_or] at h
        rw [List.zip_cons_cons, List.lookup_cons, show (c == a) = false by simpa using h.1]
        exact ih h.2
  rw [this]; rfl
set_option maxRecDepth 100000 in
set_option maxHeartbeats 2000000 in
theorem inside_c (ns ms : Text) (b q0 q1 q2 : Nat) (an am : Option Addr) (cn cm : Nat) (fv : Value) (env : UInt8 → UInt8) (w W : World) (c : UInt8) (hl : ms.length = ns.length) (hlen : ns.length ≤ 2) (hS : Stands b w fv env) (hG : w.grownBy W (some b))
    (h0 : W.cell? ⟨q0, 0, none⟩ = some (.slice an ns.length cn)) (h1 : W.cell? ⟨q1, 0, none⟩ = some (.slice am ms.length cm)) (h2 : W.cell? ⟨q2, 0, none⟩ = some fv) (hrn : RowAt W an (ns.map bv)) (hrm : RowAt W am (ms.map bv)) :
    Calls Try.prog 72 #[bv c, .pointer (some ⟨q0, 0, none⟩), .pointer (some ⟨q1, 0, none⟩), .pointer (some ⟨q2, 0, none⟩)] W fun e W' => e = .returned (bv (over ns ms env c)) ∧ Below W.heap.size W W' := by
  obtain ⟨f, cap, rfl, hcf, hC⟩ := hS
  have KI := indexB_c ns c an cn W (by omega) hrn
  by_cases hc : c ∈ ns
  · obtain ⟨i, d, e1, e2, e3⟩ := over_in hl env hc
    have hil : i < ms.length := (List.getElem?_eq_some_iff.1 e2).1
    obtain ⟨g, rfl, hg, hcg⟩ := hrm i (bv d) (by simp [e2])
    rw [e3]
    rw [e1] at KI
    clear e1 e2 e3 hc hrn hrm hcf hC h2
    go_enter Try.func72, Try.ntmps72
    go_wp2_with (go_at_call 42; refine KI.mono ?_; clear KI; rintro e w1 ⟨rfl, rfl⟩)
    go_ret
    exact ⟨rfl, Below.refl _ _⟩
  · rw [over_out env hc]
    rw [findI_none hc] at KI
    have K := hC W hG c
    clear hrn hrm hC h1
    go_enter Try.func72, Try.ntmps72
    go_wp2_with (go_at_call 42; refine KI.mono ?_; clear KI; rintro e w1 ⟨rfl, rfl⟩)
    refine K.mono ?_
    clear K hcf
    rintro e w2 ⟨rfl, hb2⟩
    go_wp2_with fail
    go_ret
    exact ⟨rfl, hb2⟩
end Go.Proofs.Ytkhdghbjififnaa
