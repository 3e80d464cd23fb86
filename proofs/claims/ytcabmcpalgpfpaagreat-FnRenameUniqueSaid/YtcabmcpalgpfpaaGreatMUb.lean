import Derived.Test.YtcabmcpalgpfpaaGreatUa
import Derived.Test.YtcabmcpalgpfpaaGreatMPu
/- Unique: the program's names that are pulled, and what names stand for. -/
namespace Go.Proofs.YtcabmcpalgpfpaaGreat
open Go.RowKit
open Ff
set_option linter.unusedVariables false
attribute [local go_sem] Oper.semAt_some

/-- Block b of the world holds the names u, which are taken. -/
def Took (w : World) (b : Nat) (u : Text) : Prop := ∃ (n : Nat) (m : UInt8 → Nat), Tally w b n m ∧ n ≤ 4000 + u.length ∧ ∀ c, m c = 0 ↔ c ∉ u
theorem Took.kept {w w' : World} {row : Option Nat} {b : Nat} {u : Text} (h : Took w b u) (hg : w.grownBy w' row) (hne : some b ≠ row) : Took w' b u := by
  obtain ⟨n, m, h1, h2⟩ := h
  exact ⟨n, m, h1.kept hg hne, h2⟩
theorem Took.below {w w' : World} {b : Nat} {u : Text} (h : Took w b u) (hg : Below w.heap.size w w') : Took w' b u := by
  obtain ⟨n, m, h1, h2⟩ := h
  exact ⟨n, m, h1.below hg, h2⟩
theorem Took.lt {w : World} {b : Nat} {u : Text} (h : Took w b u) : b < w.heap.size := by
  obtain ⟨n, m, h1, h2⟩ := h
  exact h1.lt
theorem took_new {m : UInt8 → Nat} {u : Text} (h : ∀ c, m c = 0 ↔ c ∉ u) : (butTo m 16).head? = newO u := by
  unfold newO butTo
  rw [show letters.take 16 = letters from rfl]
  have h0 : ∀ (l : Text), (l.filter (fun c => decide (m c = 0))).head? = l.find? (fun c => decide (c ∉ u)) := by
    intro l
    induction l with
    | nil => rfl
    | cons c l ih =>
      have e : decide (m c = 0) = decide (c ∉ u) := by rw [decide_eq_decide]; exact h c
      simp only [List.filter_cons, List.find?_cons, ← e]
      cases decide (m c = 0) <;> simp [ih]
  exact h0 letters
/-- .. one more. -/
theorem took_upd {m : UInt8 → Nat} {u : Text} (h : ∀ c, m c = 0 ↔ c ∉ u) (d : UInt8) (c : UInt8) : upd m d 1 c = 0 ↔ c ∉ u ++ [d] := by
  unfold upd
  by_cases e : c = d
  · subst e; simp
  · simp [e, h c]
set_option maxRecDepth 100000 in
set_option maxHeartbeats 2000000 in
theorem pull_c (b p : Nat) (u : Text) (w : World) (hu : Used u) (hT : Took w b u) (hp : w.cell? ⟨p, 0, none⟩ = some (.map (some b))) :
    Calls Tryz.prog 95 #[.pointer (some ⟨p, 0, none⟩)] w fun e w' => ((∃ c, newO u = some c ∧ e = .returned (bv c) ∧ Took w' b (u ++ [c])) ∨ (newO u = none ∧ e = .panicked shortP)) ∧ w.grownBy w' (some b) := by
  obtain ⟨n, m, hT, hn, hm⟩ := hT
  have hul := used_len hu
  have hpl := World.block_lt_of_cell? w _ hp
  have C := mustUntaken_c b n m w hT
  rw [took_new hm] at C
  have HM := Lib.hid hm
  have HN := Lib.hid hn
  clear hm hn
  rcases hr : newO u with _ | c
  · rw [hr] at C
    go_enter Tryz.func95, Tryz.ntmps95
    go_wp2_with (go_at_call 96; refine C.mono ?_; clear C; rintro e w1 ⟨h1, hb1⟩; obtain rfl : e = .panicked shortP := (by rcases h1 with ⟨c, h1, _⟩ | ⟨_, h1⟩; cases h1; exact h1))
    exact ⟨rfl, .inr ⟨trivial, rfl⟩, (below_grown hb1).but _⟩
  · rw [hr] at C
    have hcn := newO_nam hr
    have hm0 : m c = 0 := (HM.out c).2 hcn.2
    have HR := Lib.hid hr
    clear hr
    go_enter Tryz.func95, Tryz.ntmps95
    go_wp2_with (first
      | (go_at_call 96; refine C.mono ?_; clear C; rintro e w1 ⟨h1, hb1⟩; obtain rfl : e = .returned (bv c) := (by rcases h1 with ⟨d, h1, h2⟩ | ⟨h1, _⟩; (injection h1 with h1; subst h1; exact h2); cases h1); clear h1; have hT1 := hT.below hb1; have hp1 := (hb1.cell (p := ⟨p, 0, none⟩) hpl).trans hp)
      | (at_lookup; refine wpList_lookup_tally rfl _ _ rfl rfl hT1 c rfl ?_; rw [hm0])
      | (at_mapUpdate; refine wpList_update_tally rfl _ _ _ rfl rfl hT1 c rfl 1 (by go_num) (by have := HN.out; unfold maxLen; omega) (by omega) (by omega) ?_; intro w4 hT4 hg4; go_frame)
      | go_in)
    go_ret
    refine ⟨.inl ⟨c, rfl, rfl, n + 1, _, hT4, by have := HN.out; simp; omega, took_upd HM.out c⟩, ((below_grown hb1).but (some b)).andThen hg4 (fun j hj => .inr hj)⟩
/-- A function that tells what a name stands for. -/
def Stands (b : Nat) (w : World) (fv : Value) (env : UInt8 → UInt8) : Prop :=
  ∃ (f : FuncId) (cap : Array Value), fv = .func (.func f) #[] cap ∧ (∀ (W : World) (v : Value), (callFunc f (#[v] ++ cap)).run Tryz.prog W = .ok (.enter f (#[v] ++ cap)) W) ∧
    ∀ (W : World), w.grownBy W (some b) → ∀ c, Calls Tryz.prog f (#[bv c] ++ cap) W fun e W' => e = .returned (bv (env c)) ∧ Below W.heap.size W W'
theorem Stands.keep {b : Nat} {w w' : World} {fv : Value} {env : UInt8 → UInt8} (h : Stands b w fv env) (hg : w.grownBy w' (some b)) : Stands b w' fv env := by
  obtain ⟨f, cap, h1, h2, h3⟩ := h
  exact ⟨f, cap, h1, h2, fun W hW => h3 W (hg.trans hW)⟩
theorem enter_asIs (w : World) (v : Value) : (callFunc 78 (#[v] ++ #[])).run Tryz.prog w = .ok (.enter 78 (#[v] ++ #[])) w := by kernel_rfl
theorem enter_in (a c d : Value) (w : World) (v : Value) : (callFunc 97 (#[v] ++ #[a, c, d])).run Tryz.prog w = .ok (.enter 97 (#[v] ++ #[a, c, d])) w := by kernel_rfl
set_option maxHeartbeats 1000000 in
theorem asIs_c (c : UInt8) (w : World) : Calls Tryz.prog 78 #[bv c] w fun e w' => e = .returned (bv c) ∧ Below w.heap.size w w' := by
  go_enter Tryz.func78, Tryz.ntmps78
  go_wp2_with fail
  go_ret
  exact ⟨rfl, Below.refl _ w⟩
theorem stands_asIs (b : Nat) (w : World) : Stands b w (.func (.func 78) #[] #[]) id :=
  ⟨_, _, rfl, enter_asIs, fun W _ c => asIs_c c W⟩
theorem first_at {c : UInt8} : ∀ {s : Text}, c ∈ s → ∃ j, s[j]? = some c ∧ c ∉ s.take j
  | [], h => by cases h
  | a :: s, h => by
    by_cases e : c = a
    · subst e; exact ⟨0, rfl, by simp⟩
    · have hm : c ∈ s := by
        rcases List.mem_cons.1 h with h | h
        · exact absurd h e
        · exact h
      obtain ⟨j, h1, h2⟩ := first_at hm
      exact ⟨j + 1, by simpa using h1, by simp only [List.take_succ_cons, List.mem_cons, not_or]; exact ⟨e, h2⟩⟩
theorem over_in {ns ms : Text} (hl : ms.length = ns.length) (e : UInt8 → UInt8) {c : UInt8} (h : c ∈ ns) : ∃ (i : Nat) (d : UInt8), findI c ns = (i : Int) ∧ ms[i]? = some d ∧ over ns ms e c = d := by
  induction ns generalizing ms with
  | nil => cases h
  | cons a ns ih =>
    match ms, hl with
    | m :: ms, hl =>
      by_cases hca : c = a
      · subst hca
        exact ⟨0, m, by rw [findI_at (k := 0) rfl (by simp)], rfl, by simp [over]⟩
      · have hm : c ∈ ns := by
          rcases List.mem_cons.1 h with h | h
          · exact absurd h hca
          · exact h
        obtain ⟨i, d, h1, h2, h3⟩ := ih (ms := ms) (by simpa using hl) hm
        have h4 := findI_mem c ns
        obtain ⟨j, hj, hnj⟩ : ∃ j, ns[j]? = some c ∧ c ∉ ns.take j := by
          obtain ⟨j, hj⟩ := first_at hm
          exact ⟨j, hj⟩
        have e1 := findI_at hj hnj
        rw [h1] at e1
        obtain rfl : i = j := by omega
        refine ⟨i + 1, d, ?_, h2, ?_⟩
        · rw [findI_at (k := i + 1) (by simpa using hj) (by simp only [List.take_succ_cons, List.mem_cons, not_or]; exact ⟨hca, hnj⟩)]
        · unfold over at h3 ⊢
          rw [List.zip_cons_cons, List.lookup_cons, show (c == a) = false by simpa using hca]
          exact h3
theorem over_out {ns ms : Text} (e : UInt8 → UInt8) {c : UInt8} (h : c ∉ ns) : over ns ms e c = e c := by
  unfold over
  have : (ns.zip ms).lookup c = none := by
    induction ns generalizing ms with
    | nil => simp
    | cons a ns ih =>
      cases ms with
      | nil => simp
      | cons m ms =>
        simp only [List.mem_cons, not_or] at h
        rw [List.zip_cons_cons, List.lookup_cons, show (c == a) = false by simpa using h.1]
        exact ih h.2
  rw [this]; rfl
set_option maxRecDepth 100000 in
set_option maxHeartbeats 2000000 in
theorem inside_c (ns ms : Text) (b q0 q1 q2 : Nat) (an am : Option Addr) (cn cm : Nat) (fv : Value) (env : UInt8 → UInt8) (w W : World) (c : UInt8) (hl : ms.length = ns.length) (hlen : ns.length ≤ 2) (hS : Stands b w fv env) (hG : w.grownBy W (some b))
    (h0 : W.cell? ⟨q0, 0, none⟩ = some (.slice an ns.length cn)) (h1 : W.cell? ⟨q1, 0, none⟩ = some (.slice am ms.length cm)) (h2 : W.cell? ⟨q2, 0, none⟩ = some fv) (hrn : RowAt W an (ns.map bv)) (hrm : RowAt W am (ms.map bv)) :
    Calls Tryz.prog 97 #[bv c, .pointer (some ⟨q0, 0, none⟩), .pointer (some ⟨q1, 0, none⟩), .pointer (some ⟨q2, 0, none⟩)] W fun e W' => e = .returned (bv (over ns ms env c)) ∧ Below W.heap.size W W' := by
  obtain ⟨f, cap, rfl, hcf, hC⟩ := hS
  have KI := indexB_c ns c an cn W (by omega) hrn
  by_cases hc : c ∈ ns
  · obtain ⟨i, d, e1, e2, e3⟩ := over_in hl env hc
    have hil : i < ms.length := (List.getElem?_eq_some_iff.1 e2).1
    obtain ⟨g, rfl, hg, hcg⟩ := hrm i (bv d) (by simp [e2])
    rw [e3]
    rw [e1] at KI
    clear e1 e2 e3 hc hrn hrm hcf hC h2
    go_enter Tryz.func97, Tryz.ntmps97
    go_wp2_with (go_at_call 53; refine KI.mono ?_; clear KI; rintro e w1 ⟨rfl, rfl⟩)
    go_ret
    exact ⟨rfl, Below.refl _ _⟩
  · rw [over_out env hc]
    rw [findI_none hc] at KI
    have K := hC W hG c
    clear hrn hrm hC h1
    go_enter Tryz.func97, Tryz.ntmps97
    go_wp2_with (go_at_call 53; refine KI.mono ?_; clear KI; rintro e w1 ⟨rfl, rfl⟩)
    refine K.mono ?_
    clear K hcf
    rintro e w2 ⟨rfl, hb2⟩
    go_wp2_with fail
    go_ret
    exact ⟨rfl, hb2⟩
end Go.Proofs.YtcabmcpalgpfpaaGreat

/- Unique: the program's visit of the kids, where visitors take names. -/
namespace Go.Proofs.YtcabmcpalgpfpaaGreat
open Go.RowKit
open Ff
set_option linter.unusedVariables false
attribute [local go_sem] Oper.semAt_some

/-- What a visit comes to. -/
def UnqP (b : Nat) (o : Option (Tm × Text)) (w : World) (e : Ending) (w' : World) : Prop :=
  ((∃ r, o = some r ∧ e = .returned (enc r.1) ∧ Took w' b r.2) ∨ (o = none ∧ e = .panicked shortP)) ∧ w.grownBy w' (some b)
/-- A visitor. -/
def VisU (b : Nat) (w0 : World) (fv : Value) (s : Tm) (u : Text) (o : Option (Tm × Text)) : Prop :=
  ∃ (f : FuncId) (cap : Array Value), fv = .func (.func f) #[] cap ∧ (∀ (W : World) (v : Value), (callFunc f (#[v] ++ cap)).run Tryz.prog W = .ok (.enter f (#[v] ++ cap)) W) ∧
    ∀ W, w0.grownBy W (some b) → Took W b u → Calls Tryz.prog f (#[enc s] ++ cap) W (UnqP b o W)
theorem row_keepB {W W' : World} {base b : Nat} {e : TypeId} {size n g cap : Nat} {xs : List Value} (h : W.ownsRow base e size (.slice (some ⟨g, 0, none⟩) n cap) n xs) (hb : W.grownBy W' (some b)) (hg : g ≠ b) : W'.ownsRow base e size (.slice (some ⟨g, 0, none⟩) n cap) n xs :=
  World.ownsRow.kept (row := some b) h hb (.inr (by simp [Value.ownBlock, hg]))
/-- Cells of a row, kept. -/
def RowG (w : World) (a : Option Addr) (b r : Nat) (l : List Value) : Prop := ∀ i x, l[i]? = some x → ∃ g, a = some ⟨g, 0, none⟩ ∧ g ≠ b ∧ g ≠ r ∧ w.cell? ⟨g, i, none⟩ = some x
theorem RowG.kept {w w' : World} {a : Option Addr} {b r : Nat} {l : List Value} (h : RowG w a b r l) (hg : w.grownBy w' (some b)) : RowG w' a b r l := fun i x hx => by
  obtain ⟨g, h1, h2, h3, h4⟩ := h i x hx
  exact ⟨g, h1, h2, h3, hg.cell h4 (by simpa using h2)⟩
theorem RowG.set {w : World} {a : Option Addr} {b r : Nat} {l : List Value} (h : RowG w a b r l) (k : Nat) (v : Value) : RowG (w.setCell ⟨r, k, none⟩ v) a b r l := fun i x hx => by
  obtain ⟨g, h1, h2, h3, h4⟩ := h i x hx
  exact ⟨g, h1, h2, h3, by rw [World.cell?_setCell_other _ _ _ _ (by simp)]; exact h4⟩
theorem Took.set {w : World} {b : Nat} {u : Text} (h : Took w b u) {a : Addr} (ha : b ≠ a.block) (v : Value) : Took (w.setCell a v) b u := by
  obtain ⟨n, m, h1, h2⟩ := h
  exact ⟨n, m, h1.setCell ha v, h2⟩

set_option maxRecDepth 100000 in
set_option maxHeartbeats 4000000 in
theorem visitU_c (F : (UInt8 → UInt8) → Text → Tm → Option (Tm × Text)) (en eI : UInt8 → UInt8) (u0 : Text) (t : Tm) (fo fi : Value) (b : Nat) (w : World) (hT : Took w b u0)
    (hv : ∀ k s st, t.kids[k]? = some s → unqAt F en eI u0 t.kids k = some st → VisU b w (if k + 1 = t.kids.length then fi else fo) s st.2 (F (if k + 1 = t.kids.length then eI else en) st.2 s)) :
    Calls Tryz.prog 57 #[enc t, fo, fi] w fun e w' => w.grownBy w' (some b) ∧
      ((∃ st a cap, unqAt F en eI u0 t.kids t.kids.length = some st ∧ st.1.length = t.kids.length ∧ e = .returned (.slice a t.kids.length cap) ∧ RowAt w' a (st.1.map enc) ∧ Took w' b st.2) ∨ (unqAt F en eI u0 t.kids t.kids.length = none ∧ e = .panicked shortP)) := by
  obtain ⟨i0, hi, hz0, hz1, hz2⟩ := info_parts Tryz.infoTm
  have hk3 : t.kids.length ≤ 3 := by cases t <;> simp [Tm.kids]
  have hbw := hT.lt
  rw [enc_ty t]
  have HV := Lib.hid hv
  clear hv
  obtain ⟨n, hn⟩ : ∃ n, t.kids.length = n := ⟨_, rfl⟩
  go_enter Tryz.func57, Tryz.ntmps57
  go_wp2_with (refine wpList_invoke rfl _ _ (ty t) (pl t) rfl rfl (kf t) (kids_m t _ (by unfold KidsName; kernel_rfl) _) (kids_f t _) (fun v w' => SliceOf w.heap.size w' v (t.kids.map enc) ∧ Below w.heap.size w w') (kids_c t _) ?_; rintro x w1 ⟨hs, hb⟩; obtain ⟨a, rfl, hcell⟩ := hs.uni; clear hs; have HC := Lib.hid hcell; clear hcell; rw [List.length_map, hn]; obtain ⟨w2, hrun, hown, hgrow⟩ := run_make_full (P := Tryz.prog) w1 w1.heap.size 98 43 i0 .nilIface 1 Tryz.underlying98 hi hz0 hz1 .i64 .i64 n (by rw [hz2]; omega) (by unfold maxLen; omega) (Nat.le_refl _))
  have hb2 : Below w.heap.size w w2 := hb.grown hgrow hb.size (fun j hj => by cases hj)
  have hs1 := hb.size
  have HC2 : RowG w2 a b w1.heap.size (t.kids.map enc) := fun i x hx => by
    obtain ⟨g, h1, h2, h3, h4⟩ := HC.out i x hx
    exact ⟨g, h1, by omega, by omega, hgrow.cell h4 (by simp)⟩
  have hT2 : Took w2 b u0 := hT.below hb2
  have hG2 : w.grownBy w2 (some b) := (below_grown hb2).but _
  have HO := Lib.hid hown
  have HN := Lib.hid hn
  have HC3 := Lib.hid HC2
  clear hown hrun HC HC2 hT
  go_loopw [18] (fun i wr => ∃ (k : Nat) (ys : List Value) (st : List Tm × Text), k ≤ n ∧ i = .int .i64 k ∧ unqAt F en eI u0 t.kids k = some st ∧ st.1.length = k ∧ wr.ownsRow w1.heap.size 43 1 (.slice (some ⟨w1.heap.size, 0, none⟩) n n) n ys ∧ w.grownBy wr (some b) ∧ RowG wr a b w1.heap.size (t.kids.map enc) ∧ Took wr b st.2 ∧ ∀ (j : Nat) (r : Tm), st.1[j]? = some r → ys[j]? = some (enc r)) (fun i _ => n - (intOf i).toNat)
  case atStart => exact ⟨0, _, ([], u0), Nat.zero_le _, rfl, rfl, rfl, HO.out, hG2, HC3.out, hT2, fun j r h => by simp at h⟩
  case round =>
    clear hT2 hG2
    obtain ⟨k, ys, st, hk, rfl, hst, hstl, hO, hG, hR, hTr, hys⟩ := hrel
    have hyl : ys.length = n := by have := hO.1; omega
    by_cases hlt : k < n
    · obtain ⟨s, hs⟩ : ∃ s, t.kids[k]? = some s := ⟨_, List.getElem?_eq_getElem (by have := HN.out; omega)⟩
      obtain ⟨y, hy⟩ : ∃ y, ys[k]? = some y := ⟨_, List.getElem?_eq_getElem (by omega)⟩
      obtain ⟨g, rfl, hgb, hg1, hc2⟩ := hR k (enc s) (by simp [hs])
      have hvis := HV.out k s st hs hst
      rw [HN.out] at hvis
      have hsr : w1.heap.size < wr.heap.size := (hO.lt w1.heap.size rfl).2
      have hnext : unqAt F en eI u0 t.kids (k + 1) = (F (if k + 1 = n then eI else en) st.2 s).map fun r => (st.1 ++ [r.1], r.2) := by
        rw [unqAt, hst, Option.bind_some, hs, Option.bind_some, HN.out]
      have HS := Lib.hid hs
      have HST := Lib.hid hst
      have HNX := Lib.hid hnext
      have HSL := Lib.hid hstl
      have HRR := Lib.hid hR
      have HY := Lib.hid hys
      have HYL := Lib.hid hyl
      have HOO := Lib.hid hO
      have cy := hO.cells (g := w1.heap.size) rfl k y hy
      rw [Addr.add_lit, Nat.zero_add] at cy
      have fy := Ints.frozen hO k
      have hrb : w1.heap.size ≠ b := by omega
      clear hs hst hnext hstl hR hys hyl hO hy
      rw [enc_ty s] at hc2
      obtain ⟨o, ho⟩ : ∃ o, F (if k + 1 = n then eI else en) st.2 s = o := ⟨_, rfl⟩
      rw [ho] at hvis
      have HO2 := Lib.hid ho
      clear ho
      have fin : ∀ (w3 : World) (r : Tm × Text), o = some r → wr.grownBy w3 (some b) → Took w3 b r.2 → ∃ (k' : Nat) (ys' : List Value) (st' : List Tm × Text), k' ≤ n ∧ Value.int .i64 ((k : Int) + 1) = .int .i64 k' ∧ unqAt F en eI u0 t.kids k' = some st' ∧ st'.1.length = k' ∧ (w3.setCell ⟨w1.heap.size, k, none⟩ (enc r.1)).ownsRow w1.heap.size 43 1 (.slice (some ⟨w1.heap.size, 0, none⟩) n n) n ys' ∧ w.grownBy (w3.setCell ⟨w1.heap.size, k, none⟩ (enc r.1)) (some b) ∧ RowG (w3.setCell ⟨w1.heap.size, k, none⟩ (enc r.1)) (some ⟨g, 0, none⟩) b w1.heap.size (t.kids.map enc) ∧ Took (w3.setCell ⟨w1.heap.size, k, none⟩ (enc r.1)) b st'.2 ∧ ∀ (j : Nat) (r : Tm), st'.1[j]? = some r → ys'[j]? = some (enc r) := fun w3 r hor hg3 hT3 => by
        have hn1 := HNX.out
        rw [HO2.out, hor, Option.map_some] at hn1
        refine ⟨k + 1, ys.set k (enc r.1), _, by omega, by simp, hn1, by simp [HSL.out], row_setI (row_keepB HOO.out hg3 hrb) k _, (hG.trans hg3).andThen (grownBy_setCell w3 w1.heap.size k _) (fun j hj => by simp at hj; left; omega), (HRR.out.kept hg3).set k _, hT3.set (by simp; omega) _, fun j r' hj => ?_⟩
        by_cases e : j = k
        · subst e
          rw [List.getElem?_append_right (by rw [HSL.out]; exact Nat.le_refl _), HSL.out] at hj
          simp only [Nat.sub_self, List.getElem?_cons_zero, Option.some.injEq] at hj
          subst hj
          rw [List.getElem?_set_self (by rw [HYL.out]; exact hlt)]
        · rw [List.getElem?_set_ne (Ne.symm e)]
          have hjl := (List.getElem?_eq_some_iff.1 hj).1
          rw [List.getElem?_append_left (by simp [HSL.out] at hjl ⊢; omega)] at hj
          exact HY.out j r' hj
      have HF := Lib.hid fin
      clear fin
      by_cases hlast : k + 1 = n
      · rw [if_pos hlast] at hvis
        have hq := last_eq hlast
        obtain ⟨f, cap, rfl, hcf, hC⟩ := hvis
        have C := hC wr hG hTr
        rw [enc_ty s] at C
        have hw : IntKind.i64.wrap ((n : Int) - 1) = (n : Int) - 1 := by rw [IntKind.wrap_i64]; omega
        have HLA := Lib.hid hlast
        clear hlast hC HV
        go_wp2_with fail
        refine C.mono ?_
        clear C hcf
        rintro e w3 ⟨⟨r, hor, rfl, hT3⟩ | ⟨hor, rfl⟩, hg3⟩
        · have c3 := hg3.cell cy (by simp; omega)
          have f3 := (hg3.frozen_far ⟨w1.heap.size, k, none⟩ hsr (by simp; omega)).trans fy
          have HF2 := Lib.hid (HF.out w3 r hor hg3 hT3)
          obtain ⟨m1, m2, m3⟩ := enc_gen r.1
          rw [m3] at HF2 ⊢
          clear cy fy m3 hor hT3 HF
          go_wp2_with fail
          refine ⟨HF2.out, by simp [intOf]; omega⟩
        · have hn1 := unqAt_none (show unqAt F en eI u0 t.kids (k + 1) = none by rw [HNX.out, HO2.out, hor]; rfl) (n - (k + 1))
          rw [show k + 1 + (n - (k + 1)) = n by omega] at hn1
          exact ⟨rfl, hG.trans hg3, .inr ⟨by rw [HN.out]; exact hn1, rfl⟩⟩
      · rw [if_neg hlast] at hvis
        have hq := last_ne hlast
        obtain ⟨f, cap, rfl, hcf, hC⟩ := hvis
        have C := hC wr hG hTr
        rw [enc_ty s] at C
        have hw : IntKind.i64.wrap ((n : Int) - 1) = (n : Int) - 1 := by rw [IntKind.wrap_i64]; omega
        have HLA := Lib.hid hlast
        clear hlast hC HV
        go_wp2_with fail
        refine C.mono ?_
        clear C hcf
        rintro e w3 ⟨⟨r, hor, rfl, hT3⟩ | ⟨hor, rfl⟩, hg3⟩
        · have c3 := hg3.cell cy (by simp; omega)
          have f3 := (hg3.frozen_far ⟨w1.heap.size, k, none⟩ hsr (by simp; omega)).trans fy
          have HF2 := Lib.hid (HF.out w3 r hor hg3 hT3)
          obtain ⟨m1, m2, m3⟩ := enc_gen r.1
          rw [m3] at HF2 ⊢
          clear cy fy m3 hor hT3 HF
          go_wp2_with fail
          refine ⟨HF2.out, by simp [intOf]; omega⟩
        · have hn1 := unqAt_none (show unqAt F en eI u0 t.kids (k + 1) = none by rw [HNX.out, HO2.out, hor]; rfl) (n - (k + 1))
          rw [show k + 1 + (n - (k + 1)) = n by omega] at hn1
          exact ⟨rfl, hG.trans hg3, .inr ⟨by rw [HN.out]; exact hn1, rfl⟩⟩
    · obtain rfl : k = n := by omega
      have HY := Lib.hid hys
      have HYL := Lib.hid hyl
      have HOO := Lib.hid hO
      have HST := Lib.hid hst
      have HSL := Lib.hid hstl
      clear hys hyl hO hst hstl hR
      go_wp2_with fail
      go_ret
      refine ⟨hG, .inl ⟨st, _, k, by rw [HN.out]; exact HST.out, by rw [HN.out]; exact HSL.out, by rw [HN.out]; rfl, fun j x hx => ?_, hTr⟩⟩
      obtain ⟨r, hr, rfl⟩ : ∃ r, st.1[j]? = some r ∧ enc r = x := by simpa using hx
      have h2 := HY.out j r hr
      have h3 := HOO.out.cells (g := w1.heap.size) rfl j _ h2
      rw [Addr.add_lit, Nat.zero_add] at h3
      exact ⟨_, rfl, (HOO.out.lt w1.heap.size rfl).2, h3⟩
end Go.Proofs.YtcabmcpalgpfpaaGreat
