import Derived.Test.YtcabmcpalgpfpaaGreatMUb
import Derived.Test.YtcabmcpalgpfpaaGreatMPg
import Derived.Deep.RegionHeld3
import Derived.Laws.EntriesVeiled
import Derived.Test.YtcabmcpalgpfpaaGreatPuJ
import Derived.Test.YtcabmcpalgpfpaaGreatPuW
/- Unique: the program's withPulled. -/
namespace Go.Proofs.YtcabmcpalgpfpaaGreat
open Go.RowKit
open Ff
set_option linter.unusedVariables false
attribute [local go_sem] Oper.semAt_some

theorem below_tri (w : World) (o1 o2 o3 : Obj) : Below w.heap.size w (((w.alloc o1).alloc o2).alloc o3) := (below_two w o1 o2).alloc (by simp; omega) o3
/-- The function that hands out names. -/
abbrev pullV (p : Nat) : Value := .func (.func 95) #[] #[.pointer (some ⟨p, 0, none⟩)]
def WithC (n : Nat) : Prop := ∀ (env : UInt8 → UInt8) (u : Text) (t : Tm) (b p : Nat) (fv : Value) (w : World), t.depth ≤ n → n ≤ 4000 → t.good → Used u → Took w b u → w.cell? ⟨p, 0, none⟩ = some (.map (some b)) → p ≠ b → Stands b w fv env →
  Calls Tryz.prog 80 #[enc t, pullV p, fv] w (UnqP b (unqT n env u t) w)
theorem enter_w2 (a c : Value) (w : World) (v : Value) : (callFunc 98 (#[v] ++ #[a, c])).run Tryz.prog w = .ok (.enter 98 (#[v] ++ #[a, c])) w := by kernel_rfl
theorem enter_w3 (a c : Value) (w : World) (v : Value) : (callFunc 99 (#[v] ++ #[a, c])).run Tryz.prog w = .ok (.enter 99 (#[v] ++ #[a, c])) w := by kernel_rfl
theorem Took.grown {w w' : World} {b : Nat} {u : Text} (h : Took w b u) (hg : Below w.heap.size w w') : w.grownBy w' (some b) ∧ Took w' b u := ⟨(below_grown hg).but _, h.below hg⟩
set_option maxRecDepth 100000 in
set_option maxHeartbeats 2000000 in
theorem out_c (n : Nat) (ih : WithC n) (env : UInt8 → UInt8) (u : Text) (s : Tm) (b p q0 q1 : Nat) (fv : Value) (w : World) (hd : s.depth ≤ n) (hn : n ≤ 4000) (hg : s.good) (hu : Used u) (hT : Took w b u) (hp : w.cell? ⟨p, 0, none⟩ = some (.map (some b))) (hpb : p ≠ b) (hS : Stands b w fv env)
    (h0 : w.cell? ⟨q0, 0, none⟩ = some (pullV p)) (h1 : w.cell? ⟨q1, 0, none⟩ = some fv) :
    Calls Tryz.prog 98 #[enc s, .pointer (some ⟨q0, 0, none⟩), .pointer (some ⟨q1, 0, none⟩)] w (UnqP b (unqT n env u s) w) := by
  have K := ih env u s b p fv w hd hn hg hu hT hp hpb hS
  obtain ⟨f, cap, rfl, _, _⟩ := hS
  obtain ⟨sn, sv, hs⟩ := enc_gen s
  rw [hs] at K ⊢
  clear hs
  go_enter Tryz.func98, Tryz.ntmps98
  go_wp2_with fail
  refine K.mono ?_
  clear K
  rintro e w2 ⟨⟨r, hr, rfl, hT2⟩ | ⟨hr, rfl⟩, hg2⟩
  · obtain ⟨rn, rv, hrv⟩ := enc_gen r.1
    have HR := Lib.hid hr
    have HV := Lib.hid hrv
    rw [hrv]
    clear hr hrv
    go_wp2_with fail
    go_ret
    exact ⟨.inl ⟨r, HR.out, by rw [HV.out]; rfl, hT2⟩, hg2⟩
  · exact ⟨rfl, .inr ⟨hr, rfl⟩, hg2⟩
set_option maxRecDepth 100000 in
set_option maxHeartbeats 2000000 in
theorem in_c (n : Nat) (ih : WithC n) (env : UInt8 → UInt8) (u : Text) (s : Tm) (b p q0 q1 : Nat) (fv : Value) (w : World) (hd : s.depth ≤ n) (hn : n ≤ 4000) (hg : s.good) (hu : Used u) (hT : Took w b u) (hp : w.cell? ⟨p, 0, none⟩ = some (.map (some b))) (hpb : p ≠ b) (hS : Stands b w fv env)
    (h0 : w.cell? ⟨q0, 0, none⟩ = some (pullV p)) (h1 : w.cell? ⟨q1, 0, none⟩ = some fv) :
    Calls Tryz.prog 99 #[enc s, .pointer (some ⟨q0, 0, none⟩), .pointer (some ⟨q1, 0, none⟩)] w (UnqP b (unqT n env u s) w) := by
  have K := ih env u s b p fv w hd hn hg hu hT hp hpb hS
  obtain ⟨f, cap, rfl, _, _⟩ := hS
  obtain ⟨sn, sv, hs⟩ := enc_gen s
  rw [hs] at K ⊢
  clear hs
  go_enter Tryz.func99, Tryz.ntmps99
  go_wp2_with fail
  refine K.mono ?_
  clear K
  rintro e w2 ⟨⟨r, hr, rfl, hT2⟩ | ⟨hr, rfl⟩, hg2⟩
  · obtain ⟨rn, rv, hrv⟩ := enc_gen r.1
    have HR := Lib.hid hr
    have HV := Lib.hid hrv
    rw [hrv]
    clear hr hrv
    go_wp2_with fail
    go_ret
    exact ⟨.inl ⟨r, HR.out, by rw [HV.out]; rfl, hT2⟩, hg2⟩
  · exact ⟨rfl, .inr ⟨hr, rfl⟩, hg2⟩
set_option maxRecDepth 100000 in
set_option maxHeartbeats 4000000 in
theorem with_var (n : Nat) (env : UInt8 → UInt8) (u : Text) (c : UInt8) (b p : Nat) (fv : Value) (w : World) (hT : Took w b u) (hS : Stands b w fv env) :
    Calls Tryz.prog 80 #[enc (.var c), pullV p, fv] w (UnqP b (unqT (n + 1) env u (.var c)) w) := by
  have a0 := ta_var (.var c)
  simp only [ty, pl, varV, isVar] at a0
  obtain ⟨f, cap, rfl, hcf, hC⟩ := hS
  simp only [enc]
  have hb3 := below_tri w (.cells #[pullV p] 119) (.cells #[.func (.func f) #[] cap] 121) (.cells #[bv c] 96)
  have K := hC _ ((below_grown hb3).but _) c
  have hT3 := hT.below hb3
  clear hC
  go_enter Tryz.func80, Tryz.ntmps80
  go_wp2_with fail
  refine K.mono ?_
  clear K hcf
  rintro e w2 ⟨rfl, hb2⟩
  go_wp2_with fail
  go_ret
  exact ⟨.inl ⟨(.var (env c), u), rfl, rfl, hT3.below hb2⟩, ((below_grown hb3).but (some b)).trans ((below_grown hb2).but _)⟩
/-- What lies in the boxes. -/
structure WAt (w : World) (b p qn qp r : Nat) (fv : Value) (an : Option Addr) (ns : Text) (W : World) : Prop where
  A : W.cell? ⟨w.heap.size, 0, none⟩ = some (pullV p)
  B : W.cell? ⟨w.heap.size + 1, 0, none⟩ = some fv
  N : W.cell? ⟨qn, 0, none⟩ = some (.slice an ns.length ns.length)
  P : W.cell? ⟨qp, 0, none⟩ = some (.slice (some ⟨r, 0, none⟩) ns.length ns.length)
  M : W.cell? ⟨p, 0, none⟩ = some (.map (some b))
  row : RowG W an b r (ns.map bv)
  grow : w.grownBy W (some b)
theorem WAt.keep {w : World} {b p qn qp r : Nat} {fv : Value} {an : Option Addr} {ns : Text} {W W' : World} (h : WAt w b p qn qp r fv an ns W) (hb : b < w.heap.size) (hpb : p ≠ b) (hn : w.heap.size ≤ qn) (hq : w.heap.size ≤ qp) (hg : W.grownBy W' (some b)) : WAt w b p qn qp r fv an ns W' :=
  ⟨hg.cell h.A (by simp; omega), hg.cell h.B (by simp; omega), hg.cell h.N (by simp; omega), hg.cell h.P (by simp; omega), hg.cell h.M (by simpa using hpb), h.row.kept hg, h.grow.trans hg⟩
theorem WAt.set {w : World} {b p qn qp r : Nat} {fv : Value} {an : Option Addr} {ns : Text} {W : World} (h : WAt w b p qn qp r fv an ns W) (hr : w.heap.size + 1 < r) (hp : p < w.heap.size) (hn : qn ≠ r) (hq : qp ≠ r) (k : Nat) (v : Value) : WAt w b p qn qp r fv an ns (W.setCell ⟨r, k, none⟩ v) := by
  refine ⟨?_, ?_, ?_, ?_, ?_, h.row.set k v, h.grow.andThen (grownBy_setCell W r k v) (fun j hj => by simp at hj; left; omega)⟩
  all_goals rw [World.cell?_setCell_other _ _ _ _ (by first | (simp; done) | (simp; omega))]
  · exact h.A
  · exact h.B
  · exact h.N
  · exact h.P
  · exact h.M
theorem RowG.at {w : World} {a : Option Addr} {b r : Nat} {l : List Value} (h : RowG w a b r l) : RowAt w a l := fun i x hx => by
  obtain ⟨g, h1, h2, h3, h4⟩ := h i x hx
  exact ⟨g, h1, World.block_lt_of_cell? w _ h4, h4⟩
theorem Tryz.infoB8 : (Tryz.prog.info? 5).map (fun i => (i.zero, i.size, i.bytes)) = some (some (.int .u8 0), 1, 1) := by kernel_rfl
set_option maxRecDepth 100000 in
set_option maxHeartbeats 8000000 in
theorem with_node (n : Nat) (ih : WithC n) (env : UInt8 → UInt8) (u : Text) (t : Tm) (b p : Nat) (fv : Value) (w : World) (hd : t.depth ≤ n + 1) (hn : n + 1 ≤ 4000) (hg : t.good) (hu : Used u) (hT : Took w b u) (hp : w.cell? ⟨p, 0, none⟩ = some (.map (some b))) (hpb : p ≠ b) (hS : Stands b w fv env) (hvar : ∀ c, t ≠ .var c) :
    Calls Tryz.prog 80 #[enc t, pullV p, fv] w (UnqP b (unqT (n + 1) env u t) w) := by
  have a0 := ta_var t
  obtain ⟨z, hz⟩ := var_shape t
  have hff : isVar t = false := by cases t <;> first | rfl | exact absurd rfl (hvar _)
  rw [hz, hff] at a0
  obtain ⟨i0, hi, hz0, hz1, hz2⟩ := info_parts Tryz.infoB8
  have HS := Lib.hid hS
  obtain ⟨f, cap, rfl, _, _⟩ := hS
  have KB := fun w' => boundBy_c t hg w'
  have hlen := binds_len t
  have hbw := hT.lt
  have hpw := World.block_lt_of_cell? w _ hp
  obtain ⟨O, hO⟩ : ∃ O, O = unqT (n + 1) env u t := ⟨_, rfl⟩
  rw [← hO]
  rw [unqT_node n env u hvar] at hO
  rw [enc_ty t] at KB ⊢
  have HO := Lib.hid hO
  clear hz hff hvar hO
  have hb3 := below_tri w (.cells #[pullV p] 119) (.cells #[.func (.func f) #[] cap] 121) (.cells #[.int .u8 z] 96)
  have zA : (((w.alloc (.cells #[pullV p] 119)).alloc (.cells #[.func (.func f) #[] cap] 121)).alloc (.cells #[.int .u8 z] 96)).cell? ⟨w.heap.size, 0, none⟩ = some (pullV p) := by simp [go_sem]
  have zB : (((w.alloc (.cells #[pullV p] 119)).alloc (.cells #[.func (.func f) #[] cap] 121)).alloc (.cells #[.int .u8 z] 96)).cell? ⟨w.heap.size + 1, 0, none⟩ = some (.func (.func f) #[] cap) := by simp [go_sem]
  have zs : (((w.alloc (.cells #[pullV p] 119)).alloc (.cells #[.func (.func f) #[] cap] 121)).alloc (.cells #[.int .u8 z] 96)).heap.size = w.heap.size + 3 := by simp
  obtain ⟨L, hL⟩ : ∃ L, (bindsOf t).length = L := ⟨_, rfl⟩
  go_enter Tryz.func80, Tryz.ntmps80
  go_wp2_with fail
  generalize (((w.alloc (.cells #[pullV p] 119)).alloc (.cells #[.func (.func f) #[] cap] 121)).alloc (.cells #[.int .u8 z] 96)) = W0 at *
  refine (KB _).mono ?_
  clear KB
  rintro e w1 ⟨v, rfl, hsv, hb1⟩
  obtain ⟨an, rfl, hcell⟩ := hsv.uni
  rw [List.length_map, hL]
  have hs1 := hb1.size
  have hz1' : (w1.alloc (.cells #[.slice an L L] 22)).heap.size = w1.heap.size + 1 := by simp
  obtain ⟨w2, hrun, hown, hgrow⟩ := run_make_full (P := Tryz.prog) (w1.alloc (.cells #[.slice an L L] 22)) (w1.heap.size + 1) 22 5 i0 (.int .u8 0) 1 Tryz.underlying22 hi hz0 hz1 .i64 .i64 L (by rw [hz2]; omega) (by unfold maxLen; omega) (by omega)
  rw [hz1'] at hrun hown
  have hg2 := hgrow.size
  rw [hz1'] at hg2
  have hB1 : Below w.heap.size w w1 := hb3.trans (hb1.mono (by omega))
  have hB2 : Below w.heap.size w w2 := (hB1.alloc hB1.size _).grown hgrow (by omega) (fun j hj => by cases hj)
  have hB3 := hB2.alloc hB2.size (.cells #[.slice (some ⟨w1.heap.size + 1, 0, none⟩) L L] 22)
  have hT3 : Took (w2.alloc (.cells #[.slice (some ⟨w1.heap.size + 1, 0, none⟩) L L] 22)) b u := hT.below hB3
  have hG1 : w1.grownBy (w2.alloc (.cells #[.slice (some ⟨w1.heap.size + 1, 0, none⟩) L L] 22)) none := ((World.grownBy_alloc w1 _ none).trans hgrow).trans (World.grownBy_alloc w2 _ none)
  have hW3 : WAt w b p w1.heap.size w2.heap.size (w1.heap.size + 1) (.func (.func f) #[] cap) an (bindsOf t) (w2.alloc (.cells #[.slice (some ⟨w1.heap.size + 1, 0, none⟩) L L] 22)) := by
    refine ⟨hG1.cell ((hb1.cell (p := ⟨w.heap.size, 0, none⟩) (by show w.heap.size < _; omega)).trans zA) (by simp), hG1.cell ((hb1.cell (p := ⟨w.heap.size + 1, 0, none⟩) (by show w.heap.size + 1 < _; omega)).trans zB) (by simp), ?_, ?_, (hB3.cell (p := ⟨p, 0, none⟩) hpw).trans hp, fun i x hx => ?_, (below_grown hB3).but _⟩
    · rw [hL]
      exact (World.grownBy_alloc w2 _ none).cell (hgrow.cell (by simp [go_sem]) (by simp)) (by simp)
    · rw [hL]; simp [go_sem]
    · obtain ⟨g, h1, h2, h3, h4⟩ := hcell i x hx
      exact ⟨g, h1, by omega, by omega, hG1.cell h4 (by simp)⟩
  have hO3 : (w2.alloc (.cells #[.slice (some ⟨w1.heap.size + 1, 0, none⟩) L L] 22)).ownsRow (w1.heap.size + 1) 5 1 (.slice (some ⟨w1.heap.size + 1, 0, none⟩) L L) L _ := ownsRow_keep hown ((Below.refl _ w2).alloc (Nat.le_refl _) _)
  have HW3 := Lib.hid hW3
  have HO3 := Lib.hid hO3
  have HLL := Lib.hid hL
  have hq2 : w1.heap.size + 1 < w2.heap.size := by have := (hown.lt (w1.heap.size + 1) rfl).2; omega
  clear hW3 hO3 hown hcell hsv zA zB hG1 hB1 hB2 hb3 hT
  go_wp2_with fail
  generalize hqp : w2.heap.size = qp at *
  have HQP := Lib.hid hqp
  clear hqp
  go_loopw [34] (fun i wr => ∃ (k : Nat) (ns : Text) (ys : List Value), k ≤ L ∧ i = .int .i64 k ∧ freshK u k = some ns ∧ Took wr b (u ++ ns) ∧ wr.ownsRow (w1.heap.size + 1) 5 1 (.slice (some ⟨w1.heap.size + 1, 0, none⟩) L L) L ys ∧ WAt w b p w1.heap.size qp (w1.heap.size + 1) (.func (.func f) #[] cap) an (bindsOf t) wr ∧ ∀ (j : Nat) (c : UInt8), ns[j]? = some c → ys[j]? = some (bv c)) (fun i _ => L - (intOf i).toNat)
  case atStart => exact ⟨0, [], _, Nat.zero_le _, rfl, rfl, by rw [List.append_nil]; exact hT3, HO3.out, HW3.out, fun j c h => by simp at h⟩
  case round =>
    clear hT3 HO3 HW3
    obtain ⟨k, ns, ys, hk, rfl, hns, hTr, hO, hW, hys⟩ := hrel
    have hyl : ys.length = L := by have := hO.1; omega
    obtain ⟨hnl, hus⟩ := freshK_some hu hns
    have hrr : w1.heap.size + 1 < wr.heap.size := (hO.lt (w1.heap.size + 1) rfl).2
    have HNS := Lib.hid hns
    have HW := Lib.hid hW
    have HY := Lib.hid hys
    have HYL := Lib.hid hyl
    have HNL := Lib.hid hnl
    have HOO := Lib.hid hO
    obtain ⟨cA, cB, cN, cP, cM, _, _⟩ := hW
    rw [HLL.out] at cP
    by_cases hlt : k < L
    · obtain ⟨y, hy⟩ : ∃ y, ys[k]? = some y := ⟨_, List.getElem?_eq_getElem (by omega)⟩
      have cy := hO.cells (g := w1.heap.size + 1) rfl k y hy
      rw [Addr.add_lit, Nat.zero_add] at cy
      have fy := Ints.frozen hO k
      have hI0 : (0 : Int) ≤ (k : Int) := by omega
      have hI1 : (k : Int) < (L : Int) := by omega
      have KP := fun W (hG : wr.grownBy W (some b)) (hT' : Took W b (u ++ ns)) => pull_c b p (u ++ ns) W hus hT' (hG.cell cM (by simpa using hpb))
      have dA : wr.drew.cell? ⟨w.heap.size, 0, none⟩ = some (pullV p) := cA
      have dP : wr.drew.cell? ⟨qp, 0, none⟩ = some (.slice (some ⟨w1.heap.size + 1, 0, none⟩) L L) := cP
      have dG : wr.grownBy wr.drew (some b) := ⟨rfl, rfl, rfl, Nat.le_refl _, fun _ _ _ => rfl⟩
      have dT : Took wr.drew b (u ++ ns) := hTr.kept (row := none) ⟨rfl, rfl, rfl, Nat.le_refl _, fun _ _ _ => rfl⟩ (by simp)
      have hgA : ∀ W, wr.grownBy W (some b) → W.cell? ⟨w.heap.size, 0, none⟩ = some (pullV p) ∧ W.cell? ⟨qp, 0, none⟩ = some (.slice (some ⟨w1.heap.size + 1, 0, none⟩) L L) := fun W hG => ⟨hG.cell cA (by simp; omega), hG.cell cP (by simp; omega)⟩
      have HGA := Lib.hid hgA
      clear hns hys hyl hnl hO hy hgA
      rcases hnew : newO (u ++ ns) with _ | c
      · have hnone : O = none := by
          have h1 := freshK_none (show freshK u (k + 1) = none by rw [freshK, HNS.out, Option.bind_some, hnew]; rfl) (L - (k + 1))
          rw [show k + 1 + (L - (k + 1)) = L by omega] at h1
          rw [HO.out, HLL.out, h1]; rfl
        have K4 : ∀ W, wr.grownBy W (some b) → Took W b (u ++ ns) → Calls Tryz.prog 95 #[.pointer (some ⟨p, 0, none⟩)] W fun e W' => e = .panicked shortP ∧ wr.grownBy W' (some b) := fun W hG hT' => (KP W hG hT').mono fun e W' ⟨h1, h2⟩ => by
          rcases h1 with ⟨c, h1, _⟩ | ⟨_, h1⟩
          · rw [hnew] at h1; cases h1
          · exact ⟨h1, hG.trans h2⟩
        have HNN := Lib.hid hnone
        clear KP hnew hnone
        go_wp2_with fail
        go_region_held (fun w' => w'.cell? ⟨w.heap.size, 0, none⟩ = some (pullV p) ∧ w'.cell? ⟨qp, 0, none⟩ = some (.slice (some ⟨w1.heap.size + 1, 0, none⟩) L L))
          (first | go_keep | (refine ⟨?_, ?_⟩ <;> assumption) | (refine ⟨?_, ?_⟩ <;> (rw [World.cell?_setCell_other _ _ _ _ (by first | (simp; done) | (simp; omega))]; assumption)))
          (first | (go_at_call 95; refine (K4 _ (by first | exact dG | exact World.grownBy.refl _ _) (by first | exact dT | exact hTr)).mono ?_; rintro e7 w7 ⟨he7, hg7⟩; rcases e7 with v7 | c7 | _; rotate_left; (injection he7 with he7; subst he7; exact ⟨rfl, .inr ⟨HNN.out, rfl⟩, HW.out.grow.trans hg7⟩); (cases he7); have hF : RowKit.Hid False := Lib.hid (by cases he7); obtain ⟨z7, rfl⟩ : ∃ z : Int, v7 = .int .u8 z := hF.out.elim; obtain ⟨k0, k1⟩ : w7.cell? ⟨w.heap.size, 0, none⟩ = some (pullV p) ∧ w7.cell? ⟨qp, 0, none⟩ = some (.slice (some ⟨w1.heap.size + 1, 0, none⟩) L L) := hF.out.elim; have c7 : w7.cell? ⟨w1.heap.size + 1, k, none⟩ = some y := hF.out.elim; have f7 : w7.frozen? ⟨w1.heap.size + 1, k, none⟩ = false := hF.out.elim; clear he7))
        all_goals exact hF.out.elim
      · have K3 : ∀ W, wr.grownBy W (some b) → Took W b (u ++ ns) → Calls Tryz.prog 95 #[.pointer (some ⟨p, 0, none⟩)] W fun e W' => e = .returned (bv c) ∧ Took W' b (u ++ (ns ++ [c])) ∧ wr.grownBy W' (some b) := fun W hG hT' => (KP W hG hT').mono fun e W' ⟨h1, h2⟩ => by
          rcases h1 with ⟨d, h1, h3, h4⟩ | ⟨h1, _⟩
          · rw [hnew] at h1
            injection h1 with h1
            subst h1
            exact ⟨h3, by rw [← List.append_assoc]; exact h4, hG.trans h2⟩
          · rw [hnew] at h1; cases h1
        have HNW := Lib.hid hnew
        clear KP hnew
        go_wp2_with fail
        go_region_held3 (fun w' => w'.cell? ⟨w.heap.size, 0, none⟩ = some (pullV p) ∧ w'.cell? ⟨qp, 0, none⟩ = some (.slice (some ⟨w1.heap.size + 1, 0, none⟩) L L))
          (first | go_keep | (refine ⟨?_, ?_⟩ <;> assumption) | (refine ⟨?_, ?_⟩ <;> (rw [World.cell?_setCell_other _ _ _ _ (by first | (simp; done) | (simp; omega))]; assumption)))
          (first | (go_at_call 95; refine (K3 _ (by first | exact dG | exact World.grownBy.refl _ _) (by first | exact dT | exact hTr)).mono ?_; rintro e w7 ⟨rfl, hT7, hg7⟩; obtain ⟨k0, k1⟩ := HGA.out w7 hg7; have c7 : w7.cell? ⟨w1.heap.size + 1, k, none⟩ = some y := hg7.cell cy (by simp; omega); have f7 : w7.frozen? ⟨w1.heap.size + 1, k, none⟩ = false := (hg7.frozen_far ⟨w1.heap.size + 1, k, none⟩ hrr (by simp; omega)).trans fy))
        all_goals
          go_wp2_with fail
          refine ⟨⟨k + 1, ns ++ [c], ys.set k (bv c), by omega, by go_num, by rw [freshK, HNS.out, Option.bind_some, HNW.out]; rfl, hT7.set (by simp; omega) _, row_setI (row_keepB HOO.out hg7 (by omega)) k _, (HW.out.keep hbw hpb (by omega) (by omega) hg7).set (by omega) hpw (by omega) (by omega) k _, fun j d hj => ?_⟩, by simp [intOf]; omega⟩
          by_cases e : j = k
          · subst e
            rw [List.getElem?_append_right (by rw [HNL.out]; exact Nat.le_refl _), HNL.out] at hj
            simp only [Nat.sub_self, List.getElem?_cons_zero, Option.some.injEq] at hj
            subst hj
            rw [List.getElem?_set_self (by rw [HYL.out]; exact hlt)]
          · rw [List.getElem?_set_ne (Ne.symm e)]
            have hjl := (List.getElem?_eq_some_iff.1 hj).1
            rw [List.getElem?_append_left (by simp [HNL.out] at hjl ⊢; omega)] at hj
            exact HY.out j d hj
    · obtain rfl : k = L := by omega
      have hO2 : O = (unqAt (unqT n) env (over (bindsOf t) ns env) (u ++ ns) t.kids t.kids.length).map fun r => (reTm t ns r.1, r.2) := by rw [HO.out, HLL.out, HNS.out]; rfl
      clear HO hns hys hyl hO cA cB cN cM
      have HUS := Lib.hid hus
      have HO2 := Lib.hid hO2
      clear hus hO2
      have G5 : wr.grownBy (wr.alloc (.cells #[.func (.func 97) #[] #[.pointer (some ⟨w1.heap.size, 0, none⟩), .pointer (some ⟨qp, 0, none⟩), .pointer (some ⟨w.heap.size + 1, 0, none⟩)]] 121)) (some b) := World.grownBy_alloc _ _ _
      have c12 : (wr.alloc (.cells #[.func (.func 97) #[] #[.pointer (some ⟨w1.heap.size, 0, none⟩), .pointer (some ⟨qp, 0, none⟩), .pointer (some ⟨w.heap.size + 1, 0, none⟩)]] 121)).cell? ⟨wr.heap.size, 0, none⟩ = some (.func (.func 97) #[] #[.pointer (some ⟨w1.heap.size, 0, none⟩), .pointer (some ⟨qp, 0, none⟩), .pointer (some ⟨w.heap.size + 1, 0, none⟩)]) := by simp [go_sem]
      have W5 := HW.out.keep hbw hpb (by omega) (by omega) G5
      have T5 : Took _ b (u ++ ns) := hTr.kept (World.grownBy_alloc wr (.cells #[.func (.func 97) #[] #[.pointer (some ⟨w1.heap.size, 0, none⟩), .pointer (some ⟨qp, 0, none⟩), .pointer (some ⟨w.heap.size + 1, 0, none⟩)]] 121) none) (by simp)
      have O5 := row_keepB HOO.out G5 (by omega)
      go_wp2_with fail
      have hq9 : wr.heap.size ≠ b := by have := hTr.lt; omega
      generalize wr.alloc (.cells #[.func (.func 97) #[] #[.pointer (some ⟨w1.heap.size, 0, none⟩), .pointer (some ⟨qp, 0, none⟩), .pointer (some ⟨w.heap.size + 1, 0, none⟩)]] 121) = V at *
      generalize hq : wr.heap.size = q at *
      clear hq G5 hTr HW HOO hrr
      have hRow : ∀ W, V.grownBy W (some b) → RowAt W (some ⟨w1.heap.size + 1, 0, none⟩) (ns.map bv) := fun W hW i x hx => by
        obtain ⟨c, hc, rfl⟩ : ∃ c, ns[i]? = some c ∧ bv c = x := by simpa using hx
        have O6 := row_keepB O5 hW (by omega)
        have h3 := O6.cells (g := w1.heap.size + 1) rfl i _ (HY.out i c hc)
        rw [Addr.add_lit, Nat.zero_add] at h3
        exact ⟨_, rfl, (O6.lt (w1.heap.size + 1) rfl).2, h3⟩
      have hWAt : ∀ W, V.grownBy W (some b) → WAt w b p w1.heap.size qp (w1.heap.size + 1) (.func (.func f) #[] cap) an (bindsOf t) W := fun W hW => W5.keep hbw hpb (by omega) (by omega) hW
      have hSt : Stands b V (.func (.func 97) #[] #[.pointer (some ⟨w1.heap.size, 0, none⟩), .pointer (some ⟨qp, 0, none⟩), .pointer (some ⟨w.heap.size + 1, 0, none⟩)]) (over (bindsOf t) ns env) :=
        ⟨_, _, rfl, enter_in _ _ _, fun W hW c => by
          have A := hWAt W hW
          have hl : ns.length = (bindsOf t).length := by rw [HNL.out, HLL.out]
          exact inside_c (bindsOf t) ns b w1.heap.size qp (w.heap.size + 1) an (some ⟨w1.heap.size + 1, 0, none⟩) (bindsOf t).length (bindsOf t).length _ env w W c hl hlen HS.out A.grow A.N (by rw [hl]; exact A.P) A.B A.row.at (hRow W hW)⟩
      have hvis : ∀ W, V.grownBy W (some b) → ∀ k s st, t.kids[k]? = some s → unqAt (unqT n) env (over (bindsOf t) ns env) (u ++ ns) t.kids k = some st → VisU b W (if k + 1 = t.kids.length then (.func (.func 99) #[] #[.pointer (some ⟨w.heap.size, 0, none⟩), .pointer (some ⟨q, 0, none⟩)] : Value) else (.func (.func 98) #[] #[.pointer (some ⟨w.heap.size, 0, none⟩), .pointer (some ⟨w.heap.size + 1, 0, none⟩)] : Value)) s st.2 (unqT n (if k + 1 = t.kids.length then over (bindsOf t) ns env else env) st.2 s) := by
        intro W hW k s st hs hst
        have hus := unqAt_used (unqT_used n) HUS.out k st hst
        have hmem := List.mem_of_getElem? hs
        have hds := kid_depth hmem
        have hgs := Tm.kid_good hg hmem
        by_cases hl : k + 1 = t.kids.length
        · simp only [if_pos hl]
          refine ⟨_, _, rfl, enter_w3 _ _, fun W' hW' hT' => ?_⟩
          have hV := hW.trans hW'
          have A := hWAt W' hV
          exact in_c n ih _ st.2 s b p w.heap.size q _ W' (by omega) (by omega) hgs hus hT' A.M hpb (hSt.keep hV) A.A (hV.cell c12 (by simp; omega))
        · simp only [if_neg hl]
          refine ⟨_, _, rfl, enter_w2 _ _, fun W' hW' hT' => ?_⟩
          have hV := hW.trans hW'
          have A := hWAt W' hV
          exact out_c n ih _ st.2 s b p w.heap.size (w.heap.size + 1) _ W' (by omega) (by omega) hgs hus hT' A.M hpb (HS.out.keep A.grow) A.A A.B
      have KV := fun W (hW : V.grownBy W (some b)) (hT : Took W b (u ++ ns)) => visitU_c (unqT n) env (over (bindsOf t) ns env) (u ++ ns) t _ _ b W hT (hvis W hW)
      have hVP : ∀ W, V.grownBy W (some b) → W.cell? ⟨qp, 0, none⟩ = some (.slice (some ⟨w1.heap.size + 1, 0, none⟩) k k) := fun W hW => by
        have := (hWAt W hW).P
        rw [HLL.out] at this
        exact this
      have hGw : ∀ W, V.grownBy W (some b) → w.grownBy W (some b) := fun W hW => (hWAt W hW).grow
      have dP : V.drew.cell? ⟨qp, 0, none⟩ = some (.slice (some ⟨w1.heap.size + 1, 0, none⟩) k k) := hVP V (World.grownBy.refl _ _)
      have eP : V.cell? ⟨qp, 0, none⟩ = some (.slice (some ⟨w1.heap.size + 1, 0, none⟩) k k) := hVP V (World.grownBy.refl _ _)
      have dG : V.grownBy V.drew (some b) := ⟨rfl, rfl, rfl, Nat.le_refl _, fun _ _ _ => rfl⟩
      have dT : Took V.drew b (u ++ ns) := T5.kept (row := none) ⟨rfl, rfl, rfl, Nat.le_refl _, fun _ _ _ => rfl⟩ (by simp)
      have HGW := Lib.hid hGw
      have HVP := Lib.hid hVP
      have HROW := Lib.hid hRow
      clear hvis hSt hWAt hRow hGw hVP c12 O5 W5 cP
      rw [enc_ty t] at KV
      rcases hat : unqAt (unqT n) env (over (bindsOf t) ns env) (u ++ ns) t.kids t.kids.length with _ | st
      · obtain rfl : O = none := by rw [HO2.out, hat]; rfl
        have K4 : ∀ W, V.grownBy W (some b) → Took W b (u ++ ns) → Calls Tryz.prog 57 #[.iface (ty t) (pl t), .func (.func 98) #[] #[.pointer (some ⟨w.heap.size, 0, none⟩), .pointer (some ⟨w.heap.size + 1, 0, none⟩)], .func (.func 99) #[] #[.pointer (some ⟨w.heap.size, 0, none⟩), .pointer (some ⟨q, 0, none⟩)]] W fun e W' => e = .panicked shortP ∧ V.grownBy W' (some b) := fun W hW hT' => (KV W hW hT').mono fun e W' ⟨h1, h2⟩ => by
          rcases h2 with ⟨st, _, _, h2, _⟩ | ⟨_, h2⟩
          · rw [hat] at h2; cases h2
          · exact ⟨h2, hW.trans h1⟩
        clear KV HO2 hat
        go_region_held (fun w' => w'.cell? ⟨qp, 0, none⟩ = some (.slice (some ⟨w1.heap.size + 1, 0, none⟩) k k))
          (first | go_keep | assumption)
          (first | (go_at_call 57; refine (K4 _ (by first | exact dG | exact World.grownBy.refl _ _) (by first | exact dT | exact T5)).mono ?_; rintro e7 w7 ⟨he7, hg7⟩; rcases e7 with v7 | c7 | _; rotate_left; (injection he7 with he7; subst he7; exact ⟨rfl, .inr ⟨rfl, rfl⟩, HGW.out _ hg7⟩); (cases he7); have hF : RowKit.Hid False := Lib.hid (by cases he7); obtain ⟨a7, l7, c7, rfl⟩ : ∃ a l c, v7 = .slice a l c := hF.out.elim; have k7 : w7.cell? ⟨qp, 0, none⟩ = some (.slice (some ⟨w1.heap.size + 1, 0, none⟩) k k) := hF.out.elim; have K8 : ∀ W, Calls Tryz.prog 56 #[.iface (ty t) (pl t), .slice (some ⟨w1.heap.size + 1, 0, none⟩) k k, .slice a7 l7 c7] W fun e W' => e = .returned (.iface 0 undef) ∧ W' = W := hF.out.elim; clear he7) | (go_at_call 56; refine (K8 _).mono ?_; rintro e w8 ⟨rfl, rfl⟩))
        all_goals exact hF.out.elim
      · have hOs : O = some (reTm t ns st.1, st.2) := by rw [HO2.out, hat]; rfl
        obtain ⟨RT, hRT⟩ : ∃ RT, reTm t ns st.1 = RT := ⟨_, rfl⟩
        obtain ⟨lk, hlk⟩ : ∃ lk, t.kids.length = lk := ⟨_, rfl⟩
        have K3 : ∀ W, V.grownBy W (some b) → Took W b (u ++ ns) → Calls Tryz.prog 57 #[.iface (ty t) (pl t), .func (.func 98) #[] #[.pointer (some ⟨w.heap.size, 0, none⟩), .pointer (some ⟨w.heap.size + 1, 0, none⟩)], .func (.func 99) #[] #[.pointer (some ⟨w.heap.size, 0, none⟩), .pointer (some ⟨q, 0, none⟩)]] W fun e W' => ∃ a c, e = .returned (.slice a lk c) ∧ RowAt W' a (st.1.map enc) ∧ Took W' b st.2 ∧ V.grownBy W' (some b) ∧ W'.cell? ⟨qp, 0, none⟩ = some (.slice (some ⟨w1.heap.size + 1, 0, none⟩) k k) ∧ RowAt W' (some ⟨w1.heap.size + 1, 0, none⟩) (ns.map bv) := fun W hW hT' => (KV W hW hT').mono fun e W' ⟨h1, h2⟩ => by
          rcases h2 with ⟨st', a, c, h2, h3, h4, h5, h6⟩ | ⟨h2, _⟩
          · rw [hat] at h2
            injection h2 with h2
            subst h2
            exact ⟨a, c, by rw [h4, hlk], h5, h6, hW.trans h1, HVP.out W' (hW.trans h1), HROW.out W' (hW.trans h1)⟩
          · rw [hat] at h2; cases h2
        have KR : ∀ ak ck W, RowAt W (some ⟨w1.heap.size + 1, 0, none⟩) (ns.map bv) → RowAt W ak (st.1.map enc) → st.1.length = lk → Calls Tryz.prog 56 #[.iface (ty t) (pl t), .slice (some ⟨w1.heap.size + 1, 0, none⟩) k k, .slice ak lk ck] W fun e W' => e = .returned (.iface (ty RT) (pl RT)) ∧ Below W.heap.size W W' := fun ak ck W h1 h2 h3 => by
          have K := remade_c t hg ns st.1 (by rw [HNL.out, HLL.out]) (by rw [h3, hlk]) (some ⟨w1.heap.size + 1, 0, none⟩) ak k ck W h1 h2
          rw [enc_ty, enc_ty, HNL.out, h3] at K
          rw [← hRT]
          exact K
        have hstl : st.1.length = lk := by rw [← hlk]; exact unqAt_len _ _ hat
        have HRT := Lib.hid hRT
        have HOS := Lib.hid hOs
        clear KV HO2 hat hRT hlk hOs
        go_region_held3 (fun w' => w'.cell? ⟨qp, 0, none⟩ = some (.slice (some ⟨w1.heap.size + 1, 0, none⟩) k k))
          (first | go_keep | assumption)
          (first | (go_at_call 57; refine (K3 _ (by first | exact dG | exact World.grownBy.refl _ _) (by first | exact dT | exact T5)).mono ?_; rintro e w7 ⟨a7, c7, rfl, hr7, hT7, hg7, k7, hn7⟩) | (go_at_call 56; refine (KR _ _ _ hn7 hr7 hstl).mono ?_; rintro e w8 ⟨rfl, hb8⟩; have k8 := (hb8.cell (p := ⟨qp, 0, none⟩) (World.block_lt_of_cell? w7 _ k7)).trans k7))
        all_goals go_wp2_with fail
        all_goals go_ret
        all_goals exact ⟨.inl ⟨_, HOS.out, by rw [HRT.out, enc_ty]; rfl, hT7.below hb8⟩, (HGW.out _ hg7).trans ((below_grown hb8).but _)⟩
theorem with_c : ∀ n, WithC n
  | 0 => fun env u t b p fv w hd => absurd hd (by have := t.depth_pos; omega)
  | n + 1 => by
    intro env u t b p fv w hd hn hg hu hT hp hpb hS
    by_cases hv : ∃ c, t = .var c
    · obtain ⟨c, rfl⟩ := hv
      exact with_var n env u c b p fv w hT hS
    · exact with_node n (with_c n) env u t b p fv w hd hn hg hu hT hp hpb hS (fun c e => hv ⟨c, e⟩)
end Go.Proofs.YtcabmcpalgpfpaaGreat

/- Unique: the program's. -/
namespace Go.Proofs.YtcabmcpalgpfpaaGreat
open Go.RowKit
open Ff
set_option linter.unusedVariables false
attribute [local go_sem] Oper.semAt_some

/-- What it comes to where a shortage is told. -/
def UnqQ (o : Option (Tm × Text)) (e : Ending) : Prop := (∃ r, o = some r ∧ e = .returned (.tuple #[enc r.1, .bool true])) ∨ (o = none ∧ e = .returned (.tuple #[.nilIface, .bool false]))
set_option maxRecDepth 100000 in
set_option maxHeartbeats 2000000 in
theorem orShortU_c (o : Option (Tm × Text)) (b : Nat) (p1 p2 p3 : Value) (w : World) (hb : b < w.heap.size) (hC : ∀ W, Below w.heap.size w W → Calls Tryz.prog 79 #[p1, p2, p3] W (UnqP b o W)) :
    Calls Tryz.prog 29 #[.func (.func 79) #[] #[p1, p2, p3]] w fun e w' => UnqQ o e ∧ w.grownBy w' (some b) := by
  have hmf : ∀ (fn : Fn) (first cap : Array Value) (w : World), (Instr.makeFunc fn first cap).run Tryz.prog w = .ok (.func fn first cap) w := fun _ _ _ _ => rfl
  have C := hC _ (below_two w (.cells #[.nilIface] 43) (.cells #[.bool false] 4))
  clear hC
  have hz : ((w.alloc (.cells #[.nilIface] 43)).alloc (.cells #[.bool false] 4)).heap.size = w.heap.size + 1 + 1 := by simp
  have hG0 : w.grownBy ((w.alloc (.cells #[.nilIface] 43)).alloc (.cells #[.bool false] 4)) (some b) := (below_grown (below_two w _ _)).but _
  have z1 : ((w.alloc (.cells #[.nilIface] 43)).alloc (.cells #[.bool false] 4)).cell? ⟨w.heap.size, 0, none⟩ = some .nilIface := by simp [go_sem]
  have z2 : ((w.alloc (.cells #[.nilIface] 43)).alloc (.cells #[.bool false] 4)).cell? ⟨w.heap.size + 1, 0, none⟩ = some (.bool false) := by simp [go_sem]
  have z3 : ((w.alloc (.cells #[.nilIface] 43)).alloc (.cells #[.bool false] 4)).frozen? ⟨w.heap.size, 0, none⟩ = false := by simp [go_sem]
  have z4 : ((w.alloc (.cells #[.nilIface] 43)).alloc (.cells #[.bool false] 4)).frozen? ⟨w.heap.size + 1, 0, none⟩ = false := by simp [go_sem]
  have fin : ∀ (w1 : World) (u1 u2 : Value), ((w.alloc (.cells #[.nilIface] 43)).alloc (.cells #[.bool false] 4)).grownBy w1 (some b) → w.grownBy ((w1.setCell ⟨w.heap.size, 0, none⟩ u1).setCell ⟨w.heap.size + 1, 0, none⟩ u2) (some b) := fun w1 u1 u2 h =>
    ((hG0.trans h).andThen (grownBy_setCell _ _ _ _) (fun j hj => by simp at hj; left; omega)).andThen (grownBy_setCell _ _ _ _) (fun j hj => by simp at hj; left; omega)
  have HF := Lib.hid fin
  have HZ1 := Lib.hid z1
  have HZ2 := Lib.hid z2
  have HZ3 := Lib.hid z3
  have HZ4 := Lib.hid z4
  clear fin z1 z2 z3 z4
  go_enter_defers Tryz.func29, Tryz.ntmps29
  go_wp2_with fail
  refine C.mono ?_
  clear C
  rintro e w1 ⟨⟨r, hr, rfl, hT⟩ | ⟨hr, rfl⟩, hg1⟩
  · have c1 := hg1.cell HZ1.out (by simp; omega)
    have c2 := hg1.cell HZ2.out (by simp; omega)
    have f1 := (hg1.frozen_far ⟨w.heap.size, 0, none⟩ (by rw [hz]; show w.heap.size < _; omega) (by simp; omega)).trans HZ3.out
    have f2 := (hg1.frozen_far ⟨w.heap.size + 1, 0, none⟩ (by rw [hz]; show w.heap.size + 1 < _; omega) (by simp; omega)).trans HZ4.out
    obtain ⟨n, v, hv⟩ := enc_gen r.1
    have HV := Lib.hid hv
    have HR := Lib.hid hr
    have HG := Lib.hid hg1
    rw [hv]
    clear hv hr hg1
    go_wp2_with fail
    refine leaves_cons (f := 55) (args := #[.pointer (some ⟨w.heap.size, 0, none⟩), .pointer (some ⟨w.heap.size + 1, 0, none⟩)]) (by simp) (by simp [go_sem]) ?_
    refine (short_idle ⟨w.heap.size, 0, none⟩ ⟨w.heap.size + 1, 0, none⟩ _).mono ?_
    rintro e u' w'' ⟨rfl, rfl, rfl⟩
    refine ⟨.tuple #[.iface n v, .bool true], ?_, .inl ⟨r, HR.out, by rw [HV.out]⟩, HF.out _ _ _ HG.out⟩
    simp [results, Tryz.results29, go_sem, c1, c2]
  · have c1 := hg1.cell HZ1.out (by simp; omega)
    have c2 := hg1.cell HZ2.out (by simp; omega)
    have f1 := (hg1.frozen_far ⟨w.heap.size, 0, none⟩ (by rw [hz]; show w.heap.size < _; omega) (by simp; omega)).trans HZ3.out
    have f2 := (hg1.frozen_far ⟨w.heap.size + 1, 0, none⟩ (by rw [hz]; show w.heap.size + 1 < _; omega) (by simp; omega)).trans HZ4.out
    unfold shortP
    refine leaves_cons (f := 55) (args := #[.pointer (some ⟨w.heap.size, 0, none⟩), .pointer (some ⟨w.heap.size + 1, 0, none⟩)]) (by simp) (by simp [go_sem]) ?_
    refine (short_panicking ⟨w.heap.size, 0, none⟩ ⟨w.heap.size + 1, 0, none⟩ _ _ 147 _ [] _ (by simp) c1 f1 c2 f2).mono ?_
    rintro e u' w'' ⟨rfl, rfl, rfl⟩
    refine ⟨.tuple #[.nilIface, .bool false], ?_, .inr ⟨hr, rfl⟩, HF.out _ _ _ hg1⟩
    simp [results, Tryz.results29, go_sem, c1, c2]
set_option maxRecDepth 100000 in
set_option maxHeartbeats 2000000 in
theorem unique2_c (t : Tm) (u : Text) (b p q0 q1 q2 : Nat) (w : World) (hd : t.depth ≤ 24) (hg : t.good) (hu : Used u) (hT : Took w b u) (hp : w.cell? ⟨p, 0, none⟩ = some (.map (some b))) (hpb : p ≠ b)
    (h0 : w.cell? ⟨q0, 0, none⟩ = some (enc t)) (h1 : w.cell? ⟨q1, 0, none⟩ = some (pullV p)) (h2 : w.cell? ⟨q2, 0, none⟩ = some (.func (.func 78) #[] #[])) :
    Calls Tryz.prog 79 #[.pointer (some ⟨q0, 0, none⟩), .pointer (some ⟨q1, 0, none⟩), .pointer (some ⟨q2, 0, none⟩)] w (UnqP b (unqT 24 id u t) w) := by
  have K := with_c 24 id u t b p _ w hd (by omega) hg hu hT hp hpb (stands_asIs b w)
  obtain ⟨sn, sv, hs⟩ := enc_gen t
  rw [hs] at K h0
  clear hs
  go_enter Tryz.func79, Tryz.ntmps79
  go_wp2_with fail
  refine K.mono ?_
  clear K
  rintro e w2 ⟨⟨r, hr, rfl, hT2⟩ | ⟨hr, rfl⟩, hg2⟩
  · obtain ⟨rn, rv, hrv⟩ := enc_gen r.1
    have HR := Lib.hid hr
    have HV := Lib.hid hrv
    rw [hrv]
    clear hr hrv
    go_wp2_with fail
    go_ret
    exact ⟨.inl ⟨r, HR.out, by rw [HV.out]; rfl, hT2⟩, hg2⟩
  · exact ⟨rfl, .inr ⟨hr, rfl⟩, hg2⟩
theorem nam_of_letter {c : UInt8} (h : c ∈ letters) : isNam c = true := by
  simp only [letters, List.mem_cons, List.not_mem_nil, or_false] at h
  rcases h with h | h | h | h | h | h | h | h | h | h | h | h | h | h | h | h <;> subst h <;> decide
theorem used_free {t : Tm} (h : t.good) : Used (sfree t) := by
  refine ⟨fun c hc => nam_of_letter (free_letters h hc), ?_⟩
  obtain ⟨p, e⟩ := free_filter h
  rw [e]
  exact List.Pairwise.filter _ (by decide)
set_option maxHeartbeats 1000000 in
theorem pullNames_c (b : Nat) (w : World) : Calls Tryz.prog 77 #[.map (some b)] w fun e w' => e = .returned (pullV w.heap.size) ∧ w' = w.alloc (.cells #[.map (some b)] 50) := by
  have hmf : ∀ (fn : Fn) (first cap : Array Value) (w : World), (Instr.makeFunc fn first cap).run Tryz.prog w = .ok (.func fn first cap) w := fun _ _ _ _ => rfl
  go_enter Tryz.func77, Tryz.ntmps77
  go_wp2_with fail
  go_ret
  exact ⟨rfl, rfl⟩
set_option maxRecDepth 100000 in
set_option maxHeartbeats 4000000 in
theorem unique_c (t : Tm) (w : World) (hd : t.depth ≤ 24) (hg : t.good) (hp : (parts t).length ≤ 4000) :
    Calls Tryz.prog 48 #[enc t] w fun e w' => UnqQ (unqT 24 id (sfree t) t) e ∧ Below w.heap.size w w' := by
  have hmf : ∀ (fn : Fn) (first cap : Array Value) (w : World), (Instr.makeFunc fn first cap).run Tryz.prog w = .ok (.func fn first cap) w := fun _ _ _ _ => rfl
  have KF := freeIn_c 4000 t (w.alloc (.cells #[enc t] 43)) (by omega) (Nat.le_refl _) hp hg
  have hb0 := (Below.refl _ w).alloc (Nat.le_refl _) (.cells #[enc t] 43)
  have z0 : (w.alloc (.cells #[enc t] 43)).cell? ⟨w.heap.size, 0, none⟩ = some (enc t) := by simp [go_sem]
  have hz0 : (w.alloc (.cells #[enc t] 43)).heap.size = w.heap.size + 1 := by simp
  obtain ⟨tn, tv, ht⟩ := enc_gen t
  have HT := Lib.hid ht
  rw [ht] at KF hb0 z0 hz0 ⊢
  clear ht
  go_enter Tryz.func48, Tryz.ntmps48
  go_wp2_with fail
  generalize w.alloc (.cells #[.iface tn tv] 43) = W0 at *
  refine KF.mono ?_
  clear KF
  rintro e w1 ⟨b, m, rfl, hbb, hm, hTl, hb1⟩
  have hs1 := hb1.size
  have KP := pullNames_c b w1
  go_wp2_with fail
  refine KP.mono ?_
  clear KP
  rintro e w2 ⟨rfl, hw2⟩
  have hz2 : w2.heap.size = w1.heap.size + 1 := by rw [hw2]; simp
  have hb2 : Below w1.heap.size w1 w2 := by rw [hw2]; exact (Below.refl _ w1).alloc (Nat.le_refl _) _
  have zp : w2.cell? ⟨w1.heap.size, 0, none⟩ = some (.map (some b)) := by rw [hw2]; simp [go_sem]
  clear hw2
  have hbl := hTl.lt
  go_wp2_with fail
  have hb3 := below_two w2 (.cells #[pullV w1.heap.size] 119) (.cells #[.func (.func 78) #[] #[]] 121)
  have hB3 : Below w.heap.size w _ := ((hb0.trans (hb1.mono (by omega))).trans (hb2.mono (by omega))).trans (hb3.mono (by omega))
  have q0 := (hb3.cell (p := ⟨w.heap.size, 0, none⟩) (by show w.heap.size < _; omega)).trans ((hb2.cell (p := ⟨w.heap.size, 0, none⟩) (by show w.heap.size < _; omega)).trans ((hb1.cell (p := ⟨w.heap.size, 0, none⟩) (by show w.heap.size < _; omega)).trans z0))
  have q1 : ((w2.alloc (.cells #[pullV w1.heap.size] 119)).alloc (.cells #[.func (.func 78) #[] #[]] 121)).cell? ⟨w2.heap.size, 0, none⟩ = some (pullV w1.heap.size) := by simp [go_sem]
  have q2 : ((w2.alloc (.cells #[pullV w1.heap.size] 119)).alloc (.cells #[.func (.func 78) #[] #[]] 121)).cell? ⟨w2.heap.size + 1, 0, none⟩ = some (.func (.func 78) #[] #[]) := by simp [go_sem]
  have qp := (hb3.cell (p := ⟨w1.heap.size, 0, none⟩) (by show w1.heap.size < _; omega)).trans zp
  have hz3 : ((w2.alloc (.cells #[pullV w1.heap.size] 119)).alloc (.cells #[.func (.func 78) #[] #[]] 121)).heap.size = w2.heap.size + 2 := by simp
  have T3 : Took _ b (sfree t) := ⟨m, cntF t, (hTl.below hb2).below hb3, by omega, fun c => by
    have := mem_free hg c
    constructor
    · intro h hc; exact this.1 hc h
    · intro h; exact Classical.byContradiction fun h2 => h (this.2 h2)⟩
  generalize (w2.alloc (.cells #[pullV w1.heap.size] 119)).alloc (.cells #[.func (.func 78) #[] #[]] 121) = W3 at *
  have K := orShortU_c (unqT 24 id (sfree t) t) b (.pointer (some ⟨w.heap.size, 0, none⟩)) (.pointer (some ⟨w2.heap.size, 0, none⟩)) (.pointer (some ⟨w2.heap.size + 1, 0, none⟩)) W3 (by omega) (fun W hW =>
    unique2_c t (sfree t) b w1.heap.size w.heap.size w2.heap.size (w2.heap.size + 1) W hd hg (used_free hg) (T3.below hW) ((hW.cell (p := ⟨w1.heap.size, 0, none⟩) (by show w1.heap.size < _; omega)).trans qp) (by omega) (by rw [HT.out]; exact (hW.cell (p := ⟨w.heap.size, 0, none⟩) (by show w.heap.size < _; omega)).trans q0) ((hW.cell (p := ⟨w2.heap.size, 0, none⟩) (by show w2.heap.size < _; omega)).trans q1) ((hW.cell (p := ⟨w2.heap.size + 1, 0, none⟩) (by show w2.heap.size + 1 < _; omega)).trans q2))
  clear z0 zp q0 q1 q2 qp T3 hTl
  rw [hz2] at K
  refine K.mono ?_
  clear K
  rintro e w4 ⟨⟨r, hr, rfl⟩ | ⟨hr, rfl⟩, hg4⟩
  · obtain ⟨rn, rv, hrv⟩ := enc_gen r.1
    have HR := Lib.hid hr
    have HV := Lib.hid hrv
    rw [hrv]
    clear hr hrv
    go_wp2_with fail
    go_ret2
    exact ⟨.inl ⟨r, HR.out, by rw [HV.out]; rfl⟩, hB3.grown hg4 hB3.size (fun j hj => by cases hj; omega)⟩
  · have HR := Lib.hid hr
    clear hr
    go_wp2_with fail
    go_ret2
    exact ⟨.inr ⟨HR.out, rfl⟩, hB3.grown hg4 hB3.size (fun j hj => by cases hj; omega)⟩
/-- What Unique comes to, and that it is like what was read. -/
theorem unqO_facts {s : Text} {t : Tm} (hr : readS s = some t) : unqO s = (unqT 24 id (sfree t) t).map (·.1) ∧ ∀ r, unqT 24 id (sfree t) t = some r → Alike r.1 t := by
  obtain ⟨tg, td, tp⟩ := read_facts hr
  refine ⟨by unfold unqO; rw [hr]; rfl, fun r h => (unqT_like 24 tg (fun c hc => hc) (used_free tg) h).1⟩
attribute [local irreducible] Calls
set_option maxRecDepth 100000 in
set_option maxHeartbeats 4000000 in
theorem iUnique_c (s : Text) (w : World) (hl : s.length ≤ 9223372036854775807) :
    Calls Tryz.prog 16 #[.string ⟨s.toArray⟩] w fun e w' => e = .returned (.tuple #[.string ⟨(textO (unqO s)).toArray⟩, .bool (unqO s).isSome]) ∧ Below w.heap.size w w' := by
  have C1 := fun W => read_c s W hl
  simp only [← readS_eq] at C1
  rcases hr : readS s with _ | t
  · have hO : unqO s = none := by unfold unqO; rw [hr]; rfl
    rw [hO]
    rw [hr] at C1
    clear hr hO
    go_enter Tryz.func16, Tryz.ntmps16
    go_wp2_with fail
    refine (C1 _).mono ?_
    clear C1
    rintro e w1 ⟨rfl, hb1⟩
    go_wp2_with fail
    go_ret2
    exact ⟨rfl, hb1⟩
  · obtain ⟨hO, hA⟩ := unqO_facts hr
    obtain ⟨tg, td, tp⟩ := read_facts hr
    rw [hO]
    rw [hr] at C1
    have KU := fun W => unique_c t W td tg (by omega)
    clear hr hO
    generalize unqT 24 id (sfree t) t = o at *
    rw [enc_ty t] at KU
    have HA := Lib.hid hA
    clear hA
    go_enter Tryz.func16, Tryz.ntmps16
    go_wp2_with fail
    refine (C1 _).mono ?_
    clear C1
    rintro e w1 ⟨rfl, hb1⟩
    have hs1 := hb1.size
    rw [enc_ty t]
    go_wp2_with fail
    refine (KU _).mono ?_
    clear KU
    rintro e w2 ⟨⟨r, hr, rfl⟩ | ⟨rfl, rfl⟩, hb2⟩
    · have A := HA.out r hr
      subst hr
      have KT := text_c 4000 r.1 (by rw [A.deep]; omega) (A.good tg) (by rw [A.many]; omega) w2
      rw [enc_ty r.1]
      have hB := hb1.trans (hb2.mono hb1.size)
      go_wp2_with (refine wpList_invoke rfl _ _ (ty r.1) (pl r.1) rfl rfl (tf r.1) (text_m r.1 _ (by unfold TextName; kernel_rfl) _) (text_f r.1 _) (fun rv w' => rv = .string ⟨(textN r.1).toArray⟩ ∧ Below w.heap.size w w') (KT.mono fun e w' ⟨h1, h2⟩ => ⟨_, h1, rfl, hB.trans (h2.mono hB.size)⟩) ?_; rintro rv w9 ⟨rfl, hb9⟩)
      go_ret2
      exact ⟨rfl, hb9⟩
    · go_wp2_with fail
      go_ret2
      exact ⟨rfl, hb1.trans (hb2.mono hb1.size)⟩
end Go.Proofs.YtcabmcpalgpfpaaGreat
