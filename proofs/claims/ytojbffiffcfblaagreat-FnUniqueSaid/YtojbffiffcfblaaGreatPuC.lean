import Derived.Test.YtojbffiffcfblaaGreatPuB
import Derived.Test.YtojbffiffcfblaaGreatRow
/- The program's visitKids: what visitors make of the kids of a part. -/
namespace Go.Proofs.YtojbffiffcfblaaGreat
open Go.RowKit
open Ff
set_option linter.unusedVariables false
attribute [local go_sem] Oper.semAt_some

/-- The panic of a shortage of names. -/
def shortP : List PanicEntry := [{ v := .iface 138 (.agg #[]), recovered := false }]
/-- What a visit comes to. -/
def SubP (r : Tm × Bool) (w : World) (e : Ending) (w' : World) : Prop := ((r.2 = true ∧ e = .returned (enc r.1)) ∨ (r.2 = false ∧ e = .panicked shortP)) ∧ Below w.heap.size w w'
/-- A visitor. -/
def Visits (B : Nat) (w0 : World) (fv : Value) (s : Tm) (r : Tm × Bool) : Prop :=
  ∃ (f : FuncId) (first : Array Value), fv = .func (.func f) first #[] ∧ (∀ w v, (callFunc f (first.push v)).run Tryz.prog w = .ok (.enter f (first.push v)) w) ∧ ∀ w, Below B w0 w → Calls Tryz.prog f (first.push (enc s)) w (SubP r w)
theorem Tryz.infoTm : (Tryz.prog.info? 39).map (fun i => (i.zero, i.size, i.bytes)) = some (some .nilIface, 1, 16) := by kernel_rfl
theorem ownsRow_keep {W W' : World} {base : Nat} {e : TypeId} {size n : Nat} {v : Value} {xs : List Value} (h : W.ownsRow base e size v n xs) (hb : Below W.heap.size W W') : W'.ownsRow base e size v n xs :=
  World.ownsRow.kept (row := none) h (below_grown hb) (by rcases ho : Value.ownBlock v with _ | j; exact .inl rfl; exact .inr (by simp))
theorem last_eq {k n : Nat} (h : k + 1 = n) : ((k : Int) == (n : Int) - 1) = true := by subst h; simp
theorem last_ne {k n : Nat} (h : k + 1 ≠ n) : ((k : Int) == (n : Int) - 1) = false := by rw [beq_eq_false_iff_ne]; omega

set_option maxRecDepth 100000 in
set_option maxHeartbeats 4000000 in
theorem visitKids_c (t : Tm) (fo fi : Value) (rs : List (Tm × Bool)) (B : Nat) (w0 w : World) (hlen : rs.length = t.kids.length) (hB : Below B w0 w) (hBs : B ≤ w.heap.size)
    (hv : ∀ k s r, t.kids[k]? = some s → rs[k]? = some r → Visits B w0 (if k + 1 = t.kids.length then fi else fo) s r) :
    Calls Tryz.prog 83 #[enc t, fo, fi] w fun e w' => Below w.heap.size w w' ∧
      ((rs.all (·.2) = true ∧ ∃ a cap, e = .returned (.slice a rs.length cap) ∧ RowAt w' a (rs.map fun r => enc r.1)) ∨ (rs.all (·.2) = false ∧ e = .panicked shortP)) := by
  obtain ⟨i0, hi, hz0, hz1, hz2⟩ := info_parts Tryz.infoTm
  have hk3 : t.kids.length ≤ 3 := by cases t <;> simp [Tm.kids]
  rw [enc_ty t]
  have HV := Lib.hid hv
  have HL := Lib.hid hlen
  clear hv hlen
  obtain ⟨n, hn⟩ : ∃ n, t.kids.length = n := ⟨_, rfl⟩
  go_enter Tryz.func83, Tryz.ntmps83
  go_wp2_with (refine wpList_invoke rfl _ _ (ty t) (pl t) rfl rfl (kf t) (kids_m t _ (by unfold KidsName; kernel_rfl) _) (kids_f t _) (fun v w' => SliceOf w.heap.size w' v (t.kids.map enc) ∧ Below w.heap.size w w') (kids_c t _) ?_; rintro x w1 ⟨hs, hb⟩; obtain ⟨a, rfl, hcell⟩ := hs.uni; clear hs; have HC := Lib.hid hcell; clear hcell; rw [List.length_map, hn]; obtain ⟨w2, hrun, hown, hgrow⟩ := run_make_full (P := Tryz.prog) w1 w1.heap.size 96 39 i0 .nilIface 1 Tryz.underlying96 hi hz0 hz1 .i64 .i64 n (by rw [hz2]; omega) (by unfold maxLen; omega) (Nat.le_refl _))
  have hb2 : Below w.heap.size w w2 := hb.grown hgrow hb.size (fun j hj => by cases hj)
  have hmk : (madeCells (Value.nilIface).cells (n * 1)).toList.length = n := by have := hown.1; omega
  have hg12 : w1.heap.size ≤ w2.heap.size := hgrow.size
  have HC2 : Hid (∀ i x, (t.kids.map enc)[i]? = some x → ∃ g, a = some ⟨g, 0, none⟩ ∧ w.heap.size ≤ g ∧ g < w1.heap.size ∧ w2.cell? ⟨g, i, none⟩ = some x) := Lib.hid fun i x hx => by
    obtain ⟨g, h1, h2, h3, h4⟩ := HC.out i x hx
    exact ⟨g, h1, h2, h3, hgrow.cell h4 (by simp)⟩
  have HO := Lib.hid hown
  have HN := Lib.hid hn
  clear hown hrun HC
  go_loopw [18] (fun i wr => ∃ (k : Nat) (ys : List Value), k ≤ n ∧ i = .int .i64 k ∧ wr.ownsRow w1.heap.size 39 1 (.slice (some ⟨w1.heap.size, 0, none⟩) n n) n ys ∧ Below w.heap.size w wr ∧ w2.grownBy wr (some w1.heap.size) ∧ ∀ j r, j < k → rs[j]? = some r → r.2 = true ∧ ys[j]? = some (enc r.1)) (fun i _ => n - (intOf i).toNat)
  case atStart => exact ⟨0, _, Nat.zero_le _, rfl, HO.out, hb2, World.grownBy.refl _ _, fun j r h => by omega⟩
  case round =>
    obtain ⟨k, ys, hk, rfl, hO, hBr, hG, hys⟩ := hrel
    have hyl : ys.length = n := by have := hO.1; omega
    by_cases hlt : k < n
    · obtain ⟨s, hs⟩ : ∃ s, t.kids[k]? = some s := ⟨_, List.getElem?_eq_getElem (by have := HN.out; omega)⟩
      obtain ⟨r, hr⟩ : ∃ r, rs[k]? = some r := ⟨_, List.getElem?_eq_getElem (by have := HN.out; have := HL.out; omega)⟩
      obtain ⟨y, hy⟩ : ∃ y, ys[k]? = some y := ⟨_, List.getElem?_eq_getElem (by omega)⟩
      obtain ⟨g, rfl, hg1, hg2, hc⟩ := HC2.out k (enc s) (by simp [hs])
      have hc2 := hG.cell hc (by simp; omega)
      have hvis := HV.out k s r hs hr
      rw [HN.out] at hvis
      have HS := Lib.hid hs
      have HR := Lib.hid hr
      have HY := Lib.hid hys
      have HYL := Lib.hid hyl
      have HOO := Lib.hid hO
      have hsr : w1.heap.size < wr.heap.size := (hO.lt w1.heap.size rfl).2
      have cy := hO.cells (g := w1.heap.size) rfl k y hy
      rw [Addr.add_lit, Nat.zero_add] at cy
      have fy := Ints.frozen hO k
      clear hs hr hys hyl hc hy hO
      rw [enc_ty s] at hc2
      by_cases hlast : k + 1 = n
      · rw [if_pos hlast] at hvis
        have hq := last_eq hlast
        obtain ⟨f, first, rfl, hcf, hC⟩ := hvis
        have C := hC wr (hB.trans (hBr.mono hBs))
        rw [enc_ty s] at C
        have hw : IntKind.i64.wrap ((n : Int) - 1) = (n : Int) - 1 := by rw [IntKind.wrap_i64]; omega
        have HLA := Lib.hid hlast
        clear hlast hC HV
        go_wp2_with fail
        refine C.mono ?_
        clear C hcf
        rintro e w3 ⟨h | h, hb3⟩
        · obtain ⟨hr2, rfl⟩ := h
          have c3 := (hb3.cell (p := ⟨w1.heap.size, k, none⟩) hsr).trans cy
          have f3 := (hb3.frozen (p := ⟨w1.heap.size, k, none⟩) hsr).trans fy
          have HR2 := Lib.hid hr2
          clear hr2 cy fy
          obtain ⟨m1, m2, m3⟩ := enc_gen r.1
          have M3 := Lib.hid m3
          rw [m3]
          clear m3
          go_wp2_with fail
          refine ⟨⟨k + 1, ys.set k (.iface m1 m2), by omega, by go_num, row_setI (ownsRow_keep HOO.out hb3) k _, (hBr.trans (hb3.mono hBr.size)).setCell (p := ⟨w1.heap.size, k, none⟩) hb.size _, grownBy_set (hG.andThen (below_grown hb3) (fun j hj => by cases hj)) k _, ?_⟩, by simp [intOf]; omega⟩
          intro j r' hj hr'
          by_cases e : j = k
          · subst e
            rw [HR.out] at hr'
            injection hr' with hr'
            subst hr'
            exact ⟨HR2.out, by rw [List.getElem?_set_self (by have := HYL.out; omega), M3.out]⟩
          · rw [List.getElem?_set_ne (Ne.symm e)]
            exact HY.out j r' (by omega) hr'
        · obtain ⟨hr2, rfl⟩ := h
          have hall : rs.all (·.2) = false := by
            rw [List.all_eq_false]
            exact ⟨r, List.mem_of_getElem? HR.out, by simp [hr2]⟩
          exact ⟨rfl, hBr.trans (hb3.mono hBr.size), .inr ⟨hall, rfl⟩⟩
      · rw [if_neg hlast] at hvis
        have hq := last_ne hlast
        obtain ⟨f, first, rfl, hcf, hC⟩ := hvis
        have C := hC wr (hB.trans (hBr.mono hBs))
        rw [enc_ty s] at C
        have hw : IntKind.i64.wrap ((n : Int) - 1) = (n : Int) - 1 := by rw [IntKind.wrap_i64]; omega
        have HLA := Lib.hid hlast
        clear hlast hC HV
        go_wp2_with fail
        refine C.mono ?_
        clear C hcf
        rintro e w3 ⟨h | h, hb3⟩
        · obtain ⟨hr2, rfl⟩ := h
          have c3 := (hb3.cell (p := ⟨w1.heap.size, k, none⟩) hsr).trans cy
          have f3 := (hb3.frozen (p := ⟨w1.heap.size, k, none⟩) hsr).trans fy
          have HR2 := Lib.hid hr2
          clear hr2 cy fy
          obtain ⟨m1, m2, m3⟩ := enc_gen r.1
          have M3 := Lib.hid m3
          rw [m3]
          clear m3
          go_wp2_with fail
          refine ⟨⟨k + 1, ys.set k (.iface m1 m2), by omega, by go_num, row_setI (ownsRow_keep HOO.out hb3) k _, (hBr.trans (hb3.mono hBr.size)).setCell (p := ⟨w1.heap.size, k, none⟩) hb.size _, grownBy_set (hG.andThen (below_grown hb3) (fun j hj => by cases hj)) k _, ?_⟩, by simp [intOf]; omega⟩
          intro j r' hj hr'
          by_cases e : j = k
          · subst e
            rw [HR.out] at hr'
            injection hr' with hr'
            subst hr'
            exact ⟨HR2.out, by rw [List.getElem?_set_self (by have := HYL.out; omega), M3.out]⟩
          · rw [List.getElem?_set_ne (Ne.symm e)]
            exact HY.out j r' (by omega) hr'
        · obtain ⟨hr2, rfl⟩ := h
          have hall : rs.all (·.2) = false := by
            rw [List.all_eq_false]
            exact ⟨r, List.mem_of_getElem? HR.out, by simp [hr2]⟩
          exact ⟨rfl, hBr.trans (hb3.mono hBr.size), .inr ⟨hall, rfl⟩⟩
    · obtain rfl : k = n := by omega
      have HY := Lib.hid hys
      have HYL := Lib.hid hyl
      have HOO := Lib.hid hO
      clear hys hyl hO
      go_wp2_with fail
      go_ret
      have hall : rs.all (·.2) = true := by
        rw [List.all_eq_true]
        intro r hr
        obtain ⟨j, hj⟩ := List.getElem?_of_mem hr
        have hjl := (List.getElem?_eq_some_iff.1 hj).1
        exact (HY.out j r (by have := HL.out; have := HN.out; omega) hj).1
      refine ⟨hBr, .inl ⟨hall, _, k, by rw [HL.out, HN.out]; rfl, fun j x hx => ?_⟩⟩
      obtain ⟨r, hr, rfl⟩ : ∃ r, rs[j]? = some r ∧ enc r.1 = x := by simpa using hx
      have hjl := (List.getElem?_eq_some_iff.1 hr).1
      have h2 := (HY.out j r (by have := HL.out; have := HN.out; omega) hr).2
      have h3 := HOO.out.cells (g := w1.heap.size) rfl j _ h2
      rw [Addr.add_lit, Nat.zero_add] at h3
      exact ⟨_, rfl, (HOO.out.lt w1.heap.size rfl).2, h3⟩
end Go.Proofs.YtojbffiffcfblaaGreat
