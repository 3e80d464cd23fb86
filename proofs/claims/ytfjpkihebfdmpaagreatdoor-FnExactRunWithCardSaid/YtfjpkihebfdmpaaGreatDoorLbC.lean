import Derived.Test.YtfjpkihebfdmpaaGreatDoorSvO
import Derived.Test.YtfjpkihebfdmpaaGreatDoorEvQ
import Derived.Maps.AppendAt
/- CallsIn on both sides; FnExactIsUsed. -/
namespace Go.Proofs.YtfjpkihebfdmpaaGreatDoor
open Go.RowKit Go.Shelf
open Ff
set_option linter.unusedVariables false
attribute [local irreducible] Calls

/-- The functions that a run has called. -/
def calO (o : Option St) : List Int := match o with | some s => s.called.map fun (n : Nat) => (n : Int) | none => []
theorem ints_eq (l : List Nat) : intsV l = int64s (l.map fun (n : Nat) => (n : Int)) := by simp [intsV, int64s]
theorem own_base {w : World} {b b' sz n : Nat} {t : TypeId} {v : Value} {xs : List Value} (h : w.ownsRow b t sz v n xs) (hb : b' ≤ b) : w.ownsRow b' t sz v n xs := by
  obtain ⟨h1, h2 | ⟨g, cap, cur, hv, hg, rest⟩⟩ := h
  · exact ⟨h1, .inl h2⟩
  · exact ⟨h1, .inr ⟨g, cap, cur, hv, Nat.le_trans hb hg, rest⟩⟩
def RowP (w : World) (l : List Int) (b : Bool) (e : Ending) (w' : World) : Prop := ∃ v, e = .returned (.tuple #[v, .bool b]) ∧ w'.ownsRow w.heap.size 3 1 v l.length (int64s l) ∧ Below w.heap.size w w'
theorem row_slice {w : World} {base : Nat} {v : Value} {n : Nat} {t : TypeId} {sz : Nat} {xs : List Value} (h : w.ownsRow base t sz v n xs) : ∃ a cap, v = .slice a n cap := by
  obtain ⟨_, ⟨h1, h2⟩ | ⟨g, cap, cur, rfl, _⟩⟩ := h
  · exact ⟨none, 0, by rw [h1]; simp_all⟩
  · exact ⟨_, _, rfl⟩
theorem done_ok {s : Text} {s2 : St} (h : doneO s = some s2) : s2.called.length ≤ 1500 := by
  unfold doneO at h
  rcases hr : closedS s with _ | t
  · rw [hr] at h; cases h
  · rw [hr] at h
    have hw := ev_ok 1501 t 0 .nil st0 (closed_ok hr)
    have h : (match ev 1501 t 0 .nil st0 with | .ok _ s2 => some s2 | _ => none) = some s2 := h
    generalize ev 1501 t 0 .nil st0 = o at h hw
    cases o with
    | ok v s3 =>
      injection h with h
      subst h
      have hB := st0_ok.goes hw.2
      have h1 := hB.called
      have h2 := hB.calls
      have h3 := hB.steps
      omega
    | fault => cases h
    | long => cases h
set_option maxRecDepth 100000 in
set_option maxHeartbeats 2000000 in
theorem iCallsIn_c (s : Text) (w : World) (hl : s.length ≤ 9223372036854775807) (hg : ErrT w) :
    Calls Tryz.prog 22 #[.string ⟨s.toArray⟩] w (RowP w (calO (doneO s)) (doneO s).isSome) := by
  have C := idone_c s w hl hg
  generalize doneO s = o at C ⊢
  go_enter Tryz.func22, Tryz.ntmps22
  go_wp2_with fail
  refine C.mono ?_
  clear C
  rcases o with _ | s2
  · rintro e w1 ⟨he, hb1⟩
    obtain rfl : e = _ := he
    go_wp2_with fail
    go_ret2
    exact ⟨_, rfl, World.ownsRow_nil _ _ _ _, hb1⟩
  · rintro e w1 ⟨⟨rb, cv, rfl, hrb, hR⟩, hb1⟩
    have hcs := hR.cells
    have c6 : w1.cell? ⟨rb, 6, none⟩ = some cv := by simp [World.cell?, hcs]
    obtain ⟨a, cap, rfl⟩ := row_slice hR.row
    have HR := Lib.hid hR
    clear hcs hR
    go_wp2_with fail
    go_ret2
    refine ⟨_, rfl, ?_, hb1⟩
    have h := own_base HR.out.row (show w.heap.size ≤ rb + 1 by omega)
    simpa [calO, ints_eq] using h
theorem Tryz.infoI : (Tryz.prog.info? 3).map (fun i => (i.zero, i.size, i.bytes)) = some (some (.int .i64 0), 1, 8) := by kernel_rfl
set_option maxRecDepth 100000 in
set_option maxHeartbeats 2000000 in
theorem sCallsIn_c (hev : SEvC 1501) (s : Text) (w : World) (hl : s.length ≤ 9223372036854775807) :
    Calls Tryz.prog 21 #[.string ⟨s.toArray⟩] w (RowP w (calO (doneO s)) (doneO s).isSome) := by
  obtain ⟨i0, hi, hz0, hz1, hz2⟩ := info_parts Tryz.infoI
  have C := sdone_c hev s w hl
  have hok := fun s2 (h : doneO s = some s2) => done_ok h
  generalize doneO s = o at C hok ⊢
  go_enter Tryz.func21, Tryz.ntmps21
  go_wp2_with fail
  refine C.mono ?_
  clear C
  rcases o with _ | s2
  · rintro e w1 ⟨⟨p, rfl⟩, hb1⟩
    have ho := World.ownsRow_lit (base := w.heap.size) (e := 3) (size := 1) w1 #[] 0 hb1.size (by simp [maxLen]) (by simp)
    go_wp2_with fail
    go_ret2
    exact ⟨_, rfl, ho, hb1.alloc hb1.size _⟩
  · rintro e w1 ⟨⟨rb, cv, av, rfl, hrb, hR⟩, hb1⟩
    have c7 := hR.cs 7 cv rfl
    have hrow := hR.row
    have hcl : s2.called.length ≤ 1500 := hok s2 rfl
    clear hok
    rw [ints_eq] at hrow
    have hb2 := hb1.alloc hb1.size (.cells #[] 3)
    have ho := World.ownsRow_lit (base := w1.heap.size) (e := 3) (size := 1) w1 #[] 0 (Nat.le_refl _) (by simp [maxLen]) (by simp)
    have c7b := (World.cell?_alloc_lt w1 (.cells #[] 3) ⟨rb, 7, none⟩ (World.block_lt_of_cell? _ _ c7)).trans c7
    obtain ⟨_, ⟨h1, h2⟩ | ⟨g, cap, cur, rfl, hg1, hg2, hg3⟩⟩ := id hrow
    · subst h1
      have hn : calO (some s2) = [] := by simp_all [calO, int64s]
      have HN := Lib.hid hn
      clear h2 hrow hn
      go_wp2_with fail
      go_ret2
      refine ⟨_, rfl, ?_, hb2⟩
      rw [HN.out]
      exact own_base ho hb1.size
    · have hr2 := row_alloc hrow (.cells #[] 3)
      have q1 := hr2.cells (g := g) rfl
      have q6 := hr2.1
      have q2 : ∀ u ∈ int64s (s2.called.map fun (n : Nat) => (n : Int)), u.oneCell' = true := by simp [int64s, Value.oneCell']
      have q3 : 0 + s2.called.length ≤ maxLen := by unfold maxLen; omega
      have q5 : w1.heap.size ≤ (w1.alloc (.cells #[] 3)).heap.size := by simp
      have q7 : w.heap.size ≤ (w1.alloc (.cells #[] 3)).heap.size := hb2.size
      have H1 := Lib.hid ho
      have Q1 := Lib.hid q1
      have Q2 := Lib.hid q2
      have Q6 := Lib.hid q6
      clear hrow hr2 q1 q2 q6 ho hg1 hg2 hg3 hR
      go_wp2_with (at_builtin; (refine wpList_append_own_at _ rfl _ _ 33 rfl w1.heap.size 3 i0 _ 1 8 Tryz.underlying33 hi hz0 hz1 hz2 rfl (by decide) _ _ _ rfl H1.out ⟨g, 0, none⟩ s2.called.length cap (int64s (s2.called.map fun (n : Nat) => (n : Int))) rfl Q6.out Q1.out Q2.out q3 (by omega) q5 ?_); intro v' w3 hown' hgrow hnil hwhere)
      obtain ⟨a', cap', rfl⟩ := row_slice hown'
      have HO := Lib.hid hown'
      have HG := Lib.hid hgrow
      clear hown' hgrow hnil hwhere
      go_wp2_with fail
      go_ret2
      refine ⟨_, rfl, ?_, hb2.grown HG.out q7 (fun j hj => by have h1 := hb1.size; have h2 : w1.heap.size = j := Option.some.inj hj; omega)⟩
      have h := own_base HO.out hb1.size
      simpa [calO] using h
theorem int_cells {w : World} {base : Nat} {v : Value} {xs : List Int} (h : w.ownsRow base 3 1 v xs.length (int64s xs)) : ∃ a cap, v = .slice a xs.length cap ∧ (0 < xs.length → ∃ g, a = some ⟨g, 0, none⟩ ∧ g < w.heap.size ∧ ∀ k x, xs[k]? = some x → w.cell? ⟨g, k, none⟩ = some (.int .i64 x)) := row_cells h
theorem not_in_succ {xs : List Int} {i : Nat} {x k : Int} (h : k ∉ xs.take i) (hx : xs[i]? = some x) (hne : ¬ x = k) : k ∉ xs.take (i + 1) := by
  rw [List.take_add_one, hx]
  simp only [Option.toList_some, List.mem_append, List.mem_singleton, not_or]
  exact ⟨h, fun e => hne e.symm⟩
set_option maxRecDepth 100000 in
set_option maxHeartbeats 2000000 in
theorem sIsUsed_c (hev : SEvC 1501) (s : Text) (k : Int) (w : World) (hl : s.length ≤ 9223372036854775807) :
    Calls Tryz.prog 25 #[.string ⟨s.toArray⟩, .int .i64 k] w fun e w' => e = .returned (.bool (decide (k ∈ calO (doneO s)))) ∧ Below w.heap.size w w' := by
  have C := sCallsIn_c hev s w hl
  have hlen : (calO (doneO s)).length ≤ 1500 := by
    rcases hr : doneO s with _ | s2
    · simp [calO]
    · have := done_ok hr; simpa [calO] using this
  generalize (doneO s).isSome = b at C
  generalize calO (doneO s) = xs at C hlen ⊢
  go_enter Tryz.func25, Tryz.ntmps25
  go_wp2_with fail
  refine C.mono ?_
  clear C
  rintro e w1 ⟨v, rfl, hrow, hb1⟩
  obtain ⟨a, cap, rfl, hA⟩ := int_cells hrow
  have HA := Lib.hid hA
  clear hrow hA
  go_wp2_with fail
  go_loopw [16] (fun ix wr => ∃ i : Nat, i ≤ xs.length ∧ ix = .int .i64 i ∧ k ∉ xs.take i ∧ wr = w1) (fun ix _ => xs.length - (intOf ix).toNat)
  case atStart => exact ⟨0, Nat.zero_le _, rfl, by simp, rfl⟩
  case round =>
    obtain ⟨i, hi, rfl, hn, rfl⟩ := hrel
    have HN := Lib.hid hn
    clear hn
    by_cases hlt : i < xs.length
    · obtain ⟨g, rfl, hg, hc⟩ := HA.out (by omega)
      obtain ⟨x, hx⟩ : ∃ x, xs[i]? = some x := ⟨_, List.getElem?_eq_getElem hlt⟩
      have cx := hc i x hx
      have HX := Lib.hid hx
      clear hx hc
      by_cases hk : x = k
      · subst hk
        go_wp2_with fail
        go_ret
        exact ⟨by rw [decide_eq_true (List.mem_of_getElem? HX.out)]; rfl, hb1⟩
      · go_wp2_with fail
        exact ⟨⟨i + 1, by omega, by go_num, not_in_succ HN.out HX.out hk, trivial⟩, by simp [intOf]; omega⟩
    · obtain rfl : i = xs.length := by omega
      go_wp2_with fail
      go_ret
      have hn := HN.out
      rw [List.take_length] at hn
      exact ⟨by rw [decide_eq_false hn]; rfl, hb1⟩
set_option maxRecDepth 100000 in
set_option maxHeartbeats 2000000 in
theorem index_c (xs : List Int) (k : Int) (v : Value) (base : Nat) (w : World) (hlen : xs.length ≤ 1500) (hrow : w.ownsRow base 3 1 v xs.length (int64s xs)) :
    Calls Tryz.prog 59 #[v, .int .i64 k] w fun e w' => (∃ n : Int, e = .returned (.int .i64 n) ∧ (k ∈ xs ↔ 0 ≤ n)) ∧ w' = w := by
  obtain ⟨a, cap, rfl, hA⟩ := int_cells hrow
  have HA := Lib.hid hA
  clear hrow hA
  go_enter Tryz.func59, Tryz.ntmps59
  go_wp2_with fail
  go_loopw [8] (fun ix wr => ∃ i : Nat, i ≤ xs.length ∧ ix = .int .i64 i ∧ k ∉ xs.take i ∧ wr = w) (fun ix _ => xs.length - (intOf ix).toNat)
  case atStart => exact ⟨0, Nat.zero_le _, rfl, by simp, rfl⟩
  case round =>
    obtain ⟨i, hi, rfl, hn, rfl⟩ := hrel
    have HN := Lib.hid hn
    clear hn
    by_cases hlt : i < xs.length
    · obtain ⟨g, rfl, hg, hc⟩ := HA.out (by omega)
      obtain ⟨x, hx⟩ : ∃ x, xs[i]? = some x := ⟨_, List.getElem?_eq_getElem hlt⟩
      have cx := hc i x hx
      have HX := Lib.hid hx
      clear hx hc
      by_cases hk : k = x
      · subst hk
        go_wp2_with fail
        go_ret
        exact ⟨⟨(i : Int), rfl, fun _ => by omega, fun _ => List.mem_of_getElem? HX.out⟩, rfl⟩
      · go_wp2_with fail
        exact ⟨⟨i + 1, by omega, by go_num, not_in_succ HN.out HX.out (fun e => hk e.symm), trivial⟩, by simp [intOf]; omega⟩
    · obtain rfl : i = xs.length := by omega
      go_wp2_with fail
      go_ret
      have hn := HN.out
      rw [List.take_length] at hn
      exact ⟨⟨-1, rfl, fun h => absurd h hn, fun h => by omega⟩, rfl⟩
set_option maxRecDepth 100000 in
set_option maxHeartbeats 2000000 in
theorem iIsUsed_c (s : Text) (k : Int) (w : World) (hl : s.length ≤ 9223372036854775807) (hg : ErrT w) :
    Calls Tryz.prog 26 #[.string ⟨s.toArray⟩, .int .i64 k] w fun e w' => e = .returned (.bool (decide (k ∈ calO (doneO s)))) ∧ Below w.heap.size w w' := by
  have C := iCallsIn_c s w hl hg
  have hlen : (calO (doneO s)).length ≤ 1500 := by
    rcases hr : doneO s with _ | s2
    · simp [calO]
    · have := done_ok hr; simpa [calO] using this
  generalize (doneO s).isSome = b at C
  generalize calO (doneO s) = xs at C hlen ⊢
  have CC : ∀ v w1, w1.ownsRow w.heap.size 3 1 v xs.length (int64s xs) → Calls Tryz.prog 40 #[v, .int .i64 k] w1 fun e w' => e = .returned (.bool (decide (k ∈ xs))) ∧ w' = w1 := by
    intro v w1 hrow
    have D := index_c xs k v w.heap.size w1 hlen hrow
    obtain ⟨a, cap, rfl⟩ := row_slice hrow
    go_enter Tryz.func40, Tryz.ntmps40
    go_wp2_with fail
    refine D.mono ?_
    clear D
    rintro e w2 ⟨⟨n, rfl, hn⟩, rfl⟩
    have HN := Lib.hid hn
    clear hn
    go_wp2_with fail
    go_ret
    exact ⟨by rw [decide_eq_decide.2 HN.out]; rfl, rfl⟩
  go_enter Tryz.func26, Tryz.ntmps26
  go_wp2_with fail
  refine C.mono ?_
  clear C
  rintro e w1 ⟨v, rfl, hrow, hb1⟩
  have D := CC v w1 hrow
  obtain ⟨a, cap, rfl⟩ := row_slice hrow
  clear CC hrow
  go_wp2_with fail
  refine D.mono ?_
  clear D
  rintro e w2 ⟨rfl, rfl⟩
  go_wp2_with fail
  go_ret
  exact ⟨rfl, hb1⟩
set_option maxRecDepth 100000 in
set_option maxHeartbeats 2000000 in
theorem law_isUsed (s : Text) (k : Int) (w : World) (hl : s.length ≤ 9223372036854775807) (hg : ErrT w) :
    Calls Tryz.prog 8 #[.string ⟨s.toArray⟩, .int .i64 k] w fun e w' => e = .returned (.bool true) ∧ Below w.heap.size w w' := by
  have C1 := sIsUsed_c (sev_c 1501) s k w hl
  have C2 : ∀ w', Below w.heap.size w w' → _ := fun w' hb => iIsUsed_c s k w' hl ((hb.cell (p := ⟨0, 0, none⟩) hg.pos).trans hg)
  generalize decide (k ∈ calO (doneO s)) = r at C1 C2
  by_cases h : s.length ≤ 1048576
  · have h2 : (s.length : Int) ≤ 1048576 := by omega
    go_enter Tryz.func8, Tryz.ntmps8
    cases r
    all_goals
      go_wp2_with fail
      refine C1.mono ?_
      clear C1
      rintro e w1 ⟨rfl, hb1⟩
      have C3 := C2 w1 hb1
      clear C2
      go_wp2_with fail
      refine C3.mono ?_
      clear C3
      rintro e w2 ⟨rfl, hb2⟩
      go_wp2_with fail
      go_ret
      exact ⟨rfl, hb1.trans (hb2.mono hb1.size)⟩
  · have h2 : 1048576 < (s.length : Int) := by omega
    go_enter Tryz.func8, Tryz.ntmps8
    go_wp2_with fail
    go_ret
    exact ⟨rfl, Below.refl _ _⟩
end Go.Proofs.YtfjpkihebfdmpaaGreatDoor
