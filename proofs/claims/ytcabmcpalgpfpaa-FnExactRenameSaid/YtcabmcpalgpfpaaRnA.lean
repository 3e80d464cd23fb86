import Derived.Test.YtcabmcpalgpfpaaPuJ
import Derived.Test.YtcabmcpalgpfpaaPuW
/- Rename: what it comes to; what the program's closure comes to. -/
namespace Go.Proofs.Ytcabmcpalgpfpaa
open Go.RowKit
open Ff
set_option linter.unusedVariables false
attribute [local go_sem] Oper.semAt_some

/-- Names, one of them another one. -/
def swap (ns : Text) (x y : UInt8) : Text := ns.map fun c => if c = x then y else c
def renT (t : Tm) (x y : UInt8) : Tm × Bool := (withNB t (swap (bindsOf t) x y) (subS 24 x (.var y) (lastK t)).1, (subS 24 x (.var y) (lastK t)).2)
/-- What Rename comes to. -/
def renO (s n m : Text) : Option Tm := (readS s).bind fun t => (nameOf n).bind fun x => (nameOf m).bind fun y =>
  if x ∉ bindsOf t then none else if x = y then some t else if y ∈ bindsOf t then none else
  if cntF (lastK t) y = 0 ∧ (renT t x y).2 = true then some (renT t x y).1 else none
theorem set_swap {ns : Text} (h : Dif ns) {k : Nat} {x : UInt8} (hk : ns[k]? = some x) (y : UInt8) : ns.set k y = swap ns x y := by
  have hkl : k < ns.length := (List.getElem?_eq_some_iff.1 hk).1
  unfold swap
  apply List.ext_getElem?
  intro i
  rw [List.getElem?_set, List.getElem?_map]
  by_cases hi : k = i
  · subst hi
    rw [hk]
    simp [hkl]
  · rw [if_neg hi]
    rcases hc : ns[i]? with _ | c
    · rfl
    · have : c ≠ x := by
        rintro rfl
        rcases Nat.lt_or_gt_of_ne hi with h1 | h1
        · exact h k i c h1 hk hc
        · exact h i k c h1 hc hk
      simp [this]
theorem swap_ok {t : Tm} (hg : t.good) {x y : UInt8} (hy : isNam y = true) (hny : y ∉ bindsOf t) : BsOk (bindsOf t) (lastK t) ⟨swap (bindsOf t) x y, (subS 24 x (.var y) (lastK t)).1, true, false⟩ := by
  refine ⟨by simp [swap], fun hn c hc => ?_, fun hd => ?_, subS_like 24 x y (lastK t) hy⟩
  · simp only [swap, List.mem_map] at hc
    obtain ⟨d, hd, rfl⟩ := hc
    split
    · exact hy
    · exact hn d hd
  · intro i j z hij h1 h2
    simp only [swap, List.getElem?_map] at h1 h2
    rcases hi : (bindsOf t)[i]? with _ | a
    · rw [hi] at h1; simp at h1
    rcases hj : (bindsOf t)[j]? with _ | b
    · rw [hj] at h2; simp at h2
    rw [hi] at h1
    rw [hj] at h2
    simp only [Option.map_some, Option.some.injEq] at h1 h2
    have hab : a ≠ b := by rintro rfl; exact hd i j a hij hi hj
    split at h1 <;> split at h2
    · rename_i e1 e2; exact hab (e1.trans e2.symm)
    · subst h1; subst h2; exact hny (List.mem_of_getElem? hj)
    · subst h2; subst h1; exact hny (List.mem_of_getElem? hi)
    · exact hab (h1.trans h2.symm)
theorem renT_ok {t : Tm} (hg : t.good) (hb : bindsOf t ≠ []) {x y : UInt8} (hy : isNam y = true) (hny : y ∉ bindsOf t) : (renT t x y).1.good ∧ (parts (renT t x y).1).length = (parts t).length ∧ (renT t x y).1.depth = t.depth := by
  have h := withNB_ok t hb hg _ (swap_ok hg (x := x) hy hny)
  exact ⟨h.good, h.many, h.deep⟩
set_option maxRecDepth 100000 in
set_option maxHeartbeats 2000000 in
theorem orShortR_c (r : Tm × Bool) (p1 p2 p3 : Value) (w : World) (hC : ∀ W, Below w.heap.size w W → Calls Try.prog 19 #[p1, p2, p3] W (SubP r W)) :
    Calls Try.prog 18 #[.func (.func 19) #[] #[p1, p2, p3]] w (PutPost w r) := by
  have hmf : ∀ (fn : Fn) (first cap : Array Value) (w : World), (Instr.makeFunc fn first cap).run Try.prog w = .ok (.func fn first cap) w := fun _ _ _ _ => rfl
  have C := hC _ (below_two w (.cells #[.nilIface] 35) (.cells #[.bool false] 4))
  clear hC
  go_enter_defers Try.func18, Try.ntmps18
  go_wp2_with fail
  refine C.mono ?_
  clear C
  have hz : ((w.alloc (.cells #[.nilIface] 35)).alloc (.cells #[.bool false] 4)).heap.size = w.heap.size + 1 + 1 := by simp
  rintro e w1 ⟨⟨hr, rfl⟩ | ⟨hr, rfl⟩, hb1⟩
  · rw [hz] at hb1
    obtain ⟨c1, f1, c2, f2⟩ := two_new w _ _ hb1
    have hb : Below w.heap.size w w1 := (below_two w _ _).trans (hb1.mono (by omega))
    obtain ⟨n, v, hv⟩ := enc_gen r.1
    have HV := Lib.hid hv
    have HR := Lib.hid hr
    rw [hv]
    clear hv hr
    go_wp2_with fail
    refine leaves_cons (f := 33) (args := #[.pointer (some ⟨w.heap.size, 0, none⟩), .pointer (some ⟨w.heap.size + 1, 0, none⟩)]) (by simp) (by simp [go_sem]) ?_
    refine (short_idle ⟨w.heap.size, 0, none⟩ ⟨w.heap.size + 1, 0, none⟩ _).mono ?_
    rintro e u' w'' ⟨rfl, rfl, rfl⟩
    refine ⟨.tuple #[.iface n v, .bool true], ?_, .inl ⟨HR.out, by rw [HV.out]⟩, (hb.setCell (p := ⟨w.heap.size, 0, none⟩) (Nat.le_refl _) _).setCell (p := ⟨w.heap.size + 1, 0, none⟩) (by simp) _⟩
    simp [results, Try.results18, go_sem, c1, c2]
  · rw [hz] at hb1
    obtain ⟨c1, f1, c2, f2⟩ := two_new w _ _ hb1
    have hb : Below w.heap.size w w1 := (below_two w _ _).trans (hb1.mono (by omega))
    unfold shortP
    refine leaves_cons (f := 33) (args := #[.pointer (some ⟨w.heap.size, 0, none⟩), .pointer (some ⟨w.heap.size + 1, 0, none⟩)]) (by simp) (by simp [go_sem]) ?_
    refine (short_panicking ⟨w.heap.size, 0, none⟩ ⟨w.heap.size + 1, 0, none⟩ _ _ 99 _ [] _ (by simp) c1 f1 c2 f2).mono ?_
    rintro e u' w'' ⟨rfl, rfl, rfl⟩
    refine ⟨.tuple #[.nilIface, .bool false], ?_, .inr ⟨hr, rfl⟩, (hb.setCell (p := ⟨w.heap.size, 0, none⟩) (Nat.le_refl _) _).setCell (p := ⟨w.heap.size + 1, 0, none⟩) (by simp) _⟩
    simp [results, Try.results18, go_sem, c1, c2]
/-- Three boxes: a term's and two names'. -/
abbrev BoxN (q p o : Nat) (t : Value) (x y : UInt8) (w0 w : World) : Prop := w.cell? ⟨q, 0, none⟩ = some t ∧ w.cell? ⟨p, 0, none⟩ = some (.string ⟨#[x]⟩) ∧ w.cell? ⟨o, 0, none⟩ = some (.string ⟨#[y]⟩) ∧ Below w0.heap.size w0 w
theorem BoxN.keep {q p o : Nat} {t : Value} {x y : UInt8} {w0 w w' : World} (h : BoxN q p o t x y w0 w) (ha : q < w.heap.size) (hb : p < w.heap.size) (hc : o < w.heap.size) (hk : Below w.heap.size w w') : BoxN q p o t x y w0 w' := by
  obtain ⟨h1, h2, h3, h4⟩ := h
  exact ⟨(hk.cell (p := ⟨q, 0, none⟩) ha).trans h1, (hk.cell (p := ⟨p, 0, none⟩) hb).trans h2, (hk.cell (p := ⟨o, 0, none⟩) hc).trans h3, h4.trans (hk.mono h4.size)⟩
set_option maxRecDepth 100000 in
set_option maxHeartbeats 4000000 in
theorem rename1_c (x y : UInt8) (t : Tm) (q p o : Nat) (w0 w : World) (hd : t.depth ≤ 24) (hg : t.good) (hp : (parts t).length ≤ 4000) (hx : x ∈ bindsOf t) (hy : isNam y = true) (hq : q < w.heap.size) (hp' : p < w.heap.size) (ho : o < w.heap.size) (hB : BoxN q p o (enc t) x y w0 w) :
    Calls Try.prog 19 #[.pointer (some ⟨q, 0, none⟩), .pointer (some ⟨p, 0, none⟩), .pointer (some ⟨o, 0, none⟩)] w (SubP (renT t x y) w) := by
  obtain ⟨k, hk⟩ := List.getElem?_of_mem hx
  have hbn : bindsOf t ≠ [] := by intro e; rw [e] at hx; cases hx
  have hdl : (lastK t).depth ≤ 24 := Nat.le_of_lt (Nat.lt_of_lt_of_le (kid_depth (lastK_mem (binder_kids hbn))) hd)
  have K : ∀ W, Calls Try.prog 20 #[enc t, bv x, bv y] W (SubP (renT t x y) W) := fun W => by
    have K := renamed_c 24 (into_c 24) t k x y W hg hbn hk (dif_take (binds_dif hg) hk) hy hdl (by omega) hp
    rw [set_swap (binds_dif hg) hk y] at K
    exact K
  generalize renT t x y = r at *
  obtain ⟨tn, tv, htv⟩ := enc_gen t
  rw [htv] at hB
  simp only [htv] at K
  clear htv hk hbn hdl hx
  have hqp := hB
  obtain ⟨q0, q1, q2, q3⟩ := hB
  have d0 : w.drew.cell? ⟨q, 0, none⟩ = some (.iface tn tv) := q0
  have d1 : w.drew.cell? ⟨p, 0, none⟩ = some (.string ⟨#[x]⟩) := q1
  have d2 : w.drew.cell? ⟨o, 0, none⟩ = some (.string ⟨#[y]⟩) := q2
  have hBw : Below w.heap.size w w.drew := (Below.refl _ w).drew
  have HBW := Lib.hid hBw
  have HBX := Lib.hid hqp
  clear hqp
  go_enter Try.func19, Try.ntmps19
  go_wp2_with fail
  cases hr : r.2
  · have HR := Lib.hid hr
    clear hr
    have K4 : ∀ W, Below w.heap.size w W → Calls Try.prog 20 #[.iface tn tv, bv x, bv y] W fun e W' => e = .panicked shortP ∧ Below w.heap.size w W' :=
      fun W hW => (K W).mono fun e W' ⟨h1, h2⟩ => by
        refine ⟨?_, hW.trans (h2.mono hW.size)⟩
        rcases h1 with ⟨h1, _⟩ | ⟨_, h1⟩
        · rw [HR.out] at h1; cases h1
        · exact h1
    clear K
    go_region_held (fun w' => w'.cell? ⟨q, 0, none⟩ = some (.iface tn tv) ∧ w'.cell? ⟨p, 0, none⟩ = some (.string ⟨#[x]⟩) ∧ w'.cell? ⟨o, 0, none⟩ = some (.string ⟨#[y]⟩) ∧ Below w.heap.size w w')
      (first | go_keep | refine ⟨?_, ?_, ?_, ?_⟩ <;> assumption)
      (first | (go_at_call 20; refine (K4 _ ?_).mono ?_; assumption; rintro e7 w7 ⟨he7, hb7⟩; rcases e7 with v7 | c7 | _; rotate_left; (injection he7 with he7; subst he7; exact ⟨rfl, .inr ⟨HR.out, rfl⟩, hb7⟩); (cases he7); have hF : RowKit.Hid False := Lib.hid (by cases he7); obtain ⟨zn, zv, rfl⟩ : ∃ n v, v7 = .iface n v := hF.out.elim; obtain ⟨k0, k1, k2, k3⟩ : w7.cell? ⟨q, 0, none⟩ = some (.iface tn tv) ∧ w7.cell? ⟨p, 0, none⟩ = some (.string ⟨#[x]⟩) ∧ w7.cell? ⟨o, 0, none⟩ = some (.string ⟨#[y]⟩) ∧ Below w.heap.size w w7 := hF.out.elim; clear he7))
    all_goals exact hF.out.elim
  · have HR := Lib.hid hr
    clear hr
    obtain ⟨rn, rv, hrv⟩ := enc_gen r.1
    have HRV := Lib.hid hrv
    have K3 : ∀ W, Below w.heap.size w W → Calls Try.prog 20 #[.iface tn tv, bv x, bv y] W fun e W' => e = .returned (.iface rn rv) ∧ Below w.heap.size w W' ∧ W'.cell? ⟨q, 0, none⟩ = some (.iface tn tv) ∧ W'.cell? ⟨p, 0, none⟩ = some (.string ⟨#[x]⟩) ∧ W'.cell? ⟨o, 0, none⟩ = some (.string ⟨#[y]⟩) :=
      fun W hW => (K W).mono fun e W' ⟨h1, h2⟩ => by
        have hT := hW.trans (h2.mono hW.size)
        refine ⟨?_, hT, (hT.cell (p := ⟨q, 0, none⟩) hq).trans HBX.out.1, (hT.cell (p := ⟨p, 0, none⟩) hp').trans HBX.out.2.1, (hT.cell (p := ⟨o, 0, none⟩) ho).trans HBX.out.2.2.1⟩
        rcases h1 with ⟨_, h1⟩ | ⟨h1, _⟩
        · rw [h1, hrv]
        · rw [HR.out] at h1; cases h1
    clear hrv K
    go_region_held3 (fun w' => w'.cell? ⟨q, 0, none⟩ = some (.iface tn tv) ∧ w'.cell? ⟨p, 0, none⟩ = some (.string ⟨#[x]⟩) ∧ w'.cell? ⟨o, 0, none⟩ = some (.string ⟨#[y]⟩) ∧ Below w.heap.size w w')
      (first | go_keep | refine ⟨?_, ?_, ?_, ?_⟩ <;> assumption)
      (first | (go_at_call 20; refine (K3 _ ?_).mono ?_; assumption; rintro e w7 ⟨rfl, hw7, k0, k1, k2⟩))
    all_goals go_wp2_with fail
    all_goals go_ret
    all_goals exact ⟨.inl ⟨HR.out, by rw [HRV.out]; rfl⟩, hw7⟩
end Go.Proofs.Ytcabmcpalgpfpaa
