import Derived.Test.YtjfhncfbejephaaGreatDoorMSn
import Derived.Test.YtjfhncfbejephaaGreatDoorMEq
import Derived.Maps.AppendAt
import Derived.Test.YtjfhncfbejephaaGreatDoorMPu
import Derived.RangeFuncBox
/- CallsIn on both sides; FnExactIsUsed. -/
namespace Go.Proofs.YtjfhncfbejephaaGreatDoor
open Go.RowKit Go.Shelf
open Ff
set_option linter.unusedVariables false
attribute [local irreducible] Calls

/-- The functions that a run has called. -/
def calO (o : Option St) : List Int := match o with | some s => s.called.map fun (n : Nat) => (n : Int) | none => []
theorem ints_eq (l : List Nat) : intsV l = int64s (l.map fun (n : Nat) => (n : Int)) := by simp [intsV, int64s]
theorem own_base {w : World} {b b' sz n : Nat} {t : TypeId} {v : Value} {xs : List Value} (h : w.ownsRow b t sz v n xs) (hb : b' ≤ b) : w.ownsRow b' t sz v n xs := by
  obtain ⟨h1, h2 | ⟨g, cap, cur, hv, hg, rest⟩⟩ := h
  · exact ⟨h1, .inl h2⟩
  · exact ⟨h1, .inr ⟨g, cap, cur, hv, Nat.le_trans hb hg, rest⟩⟩
def RowP (w : World) (l : List Int) (b : Bool) (e : Ending) (w' : World) : Prop := ∃ v, e = .returned (.tuple #[v, .bool b]) ∧ w'.ownsRow w.heap.size 3 1 v l.length (int64s l) ∧ Below w.heap.size w w'
theorem row_slice {w : World} {base : Nat} {v : Value} {n : Nat} {t : TypeId} {sz : Nat} {xs : List Value} (h : w.ownsRow base t sz v n xs) : ∃ a cap, v = .slice a n cap := by
  obtain ⟨_, ⟨h1, h2⟩ | ⟨g, cap, cur, rfl, _⟩⟩ := h
  · exact ⟨none, 0, by rw [h1]; simp_all⟩
  · exact ⟨_, _, rfl⟩
theorem done_ok {s : Text} {s2 : St} (h : doneO s = some s2) : s2.called.length ≤ 1500 := by
  unfold doneO at h
  rcases hr : closedS s with _ | t
  · rw [hr] at h; cases h
  · rw [hr] at h
    have hw := ev_ok 1501 t 0 .nil st0 (closed_ok hr)
    have h : (match ev 1501 t 0 .nil st0 with | .ok _ s2 => some s2 | _ => none) = some s2 := h
    generalize ev 1501 t 0 .nil st0 = o at h hw
    cases o with
    | ok v s3 =>
      injection h with h
      subst h
      have hB := st0_ok.goes hw.2
      have h1 := hB.called
      have h2 := hB.calls
      have h3 := hB.steps
      omega
    | fault => cases h
    | long => cases h
theorem Tryz.infoI : (Tryz.prog.info? 3).map (fun i => (i.zero, i.size, i.bytes)) = some (some (.int .i64 0), 1, 8) := by kernel_rfl
theorem pairs_at : ∀ (ps is : List Nat) (k p j : Nat), ps[k]? = some p → is[k]? = some j → (pairsV ps is)[k * 2]? = some (.int .i64 (p : Int)) ∧ (pairsV ps is)[k * 2 + 1]? = some (.int .i64 (j : Int))
  | [], _, k, _, _, h, _ => by simp at h
  | _ :: _, [], k, _, _, _, h => by simp at h
  | a :: ps, b :: is, 0, p, j, h1, h2 => by
    simp only [List.getElem?_cons_zero, Option.some.injEq] at h1 h2
    subst h1; subst h2
    exact ⟨rfl, rfl⟩
  | a :: ps, b :: is, k + 1, p, j, h1, h2 => by
    have := pairs_at ps is k p j (by simpa using h1) (by simpa using h2)
    rw [show (k + 1) * 2 = k * 2 + 1 + 1 by omega]
    simpa [pairsV] using this
theorem call_cells {w : World} {base : Nat} {v : Value} {ps is : List Nat} (h : w.ownsRow base 51 2 v is.length (pairsV ps is)) : ∃ a cap, v = .slice a is.length cap ∧ ∀ (k p j : Nat), ps[k]? = some p → is[k]? = some j → ∃ g, a = some ⟨g, 0, none⟩ ∧ g < w.heap.size ∧ w.cell? ⟨g, k * 2, none⟩ = some (.int .i64 (p : Int)) ∧ w.cell? ⟨g, k * 2 + 1, none⟩ = some (.int .i64 (j : Int)) := by
  have h0 := h
  obtain ⟨_, ⟨h1, h2⟩ | ⟨g, cap, cur, rfl, hb, hh, hr⟩⟩ := h
  · refine ⟨none, 0, by rw [h1, h2], fun k p j _ hj => ?_⟩
    have := (List.getElem?_eq_some_iff.1 hj).1
    omega
  · refine ⟨_, cap, rfl, fun k p j hp hj => ⟨g, rfl, (Array.getElem?_eq_some_iff.1 hh).1, ?_, ?_⟩⟩
    · have := h0.cells (g := g) rfl (k * 2) _ (pairs_at ps is k p j hp hj).1
      rwa [show (⟨g, 0, none⟩ : Addr).add (k * 2) = ⟨g, k * 2, none⟩ by simp [Addr.add]; omega] at this
    · have := h0.cells (g := g) rfl (k * 2 + 1) _ (pairs_at ps is k p j hp hj).2
      rwa [show (⟨g, 0, none⟩ : Addr).add (k * 2 + 1) = ⟨g, k * 2 + 1, none⟩ by simp [Addr.add]] at this
theorem one_newAt (W : World) (B : Nat) (hB : W.heap.size = B) (v : Value) (t : TypeId) : ∀ j u, [v][j]? = some u → (W.alloc (.cells #[v] t)).cell? ((⟨B, 0, none⟩ : Addr).add j) = some u := by subst hB; exact one_new W v t
set_option maxRecDepth 100000 in
set_option maxHeartbeats 2000000 in
theorem iCallsIn_c (s : Text) (w : World) (hl : s.length ≤ 9223372036854775807) (hg : ErrT w) :
    Calls Tryz.prog 5 #[.string ⟨s.toArray⟩] w (RowP w (calO (doneO s)) (doneO s).isSome) := by
  obtain ⟨i0, hi, hz0, hz1, hz2⟩ := info_parts Tryz.infoI
  have C := idone_c s w hl hg
  have hok := fun s2 (h : doneO s = some s2) => done_ok h
  generalize doneO s = o at C hok ⊢
  go_enter Tryz.func5, Tryz.ntmps5
  go_wp2_with fail
  refine C.mono ?_
  clear C
  rcases o with _ | s2
  · rintro e w1 ⟨he, hb1⟩
    obtain rfl : e = _ := he
    go_wp2_with fail
    go_ret2
    exact ⟨_, rfl, World.ownsRow_nil _ _ _ _, hb1⟩
  · rintro e w1 ⟨⟨rb, cv, rfl, hrb, hR⟩, hb1⟩
    obtain ⟨zk, hcs⟩ := hR.cells
    have c7 : w1.cell? ⟨rb, 7, none⟩ = some cv.c := by simp [World.cell?, hcs]
    have hlen := hR.len
    have hcl : s2.called.length ≤ 1500 := hok s2 rfl
    obtain ⟨a, cap, hcv, hcells⟩ := call_cells hR.row
    rw [hcv] at c7
    have HC := Lib.hid hcells
    have HL := Lib.hid hlen
    obtain ⟨n, hn⟩ : ∃ n, s2.called.length = n := ⟨_, rfl⟩
    rw [hn] at c7 hcl
    have HN := Lib.hid hn
    have hsz1 := hb1.size
    clear hcs hR hok hcv hcells hlen hn
    go_wp2_with fail
    go_loopw [6, 21] (fun v ix wr => ∃ (k : Nat), k ≤ n ∧ ix = .int .i64 k ∧ Below w1.heap.size w1 wr ∧ wr.ownsRow w1.heap.size 3 1 v k (int64s ((s2.called.take k).map fun (n : Nat) => (n : Int)))) (fun _ ix _ => n - (intOf ix).toNat)
    case atStart => exact ⟨0, Nat.zero_le _, rfl, Below.refl _ _, World.ownsRow_nil _ _ _ _⟩
    case round =>
      obtain ⟨k, hk, rfl, hb, hrow⟩ := hrel
      have hbs := hb.size
      by_cases hlt : k < n
      · have hl1 := HN.out
        have hl2 := HL.out
        obtain ⟨j, hj⟩ : ∃ j, s2.called[k]? = some j := ⟨_, List.getElem?_eq_getElem (by omega)⟩
        obtain ⟨p, hp⟩ : ∃ p, s2.froms[k]? = some p := ⟨_, List.getElem?_eq_getElem (by omega)⟩
        obtain ⟨g, rfl, hg, cp, cj⟩ := HC.out k p j hp hj
        have dp := (hb.cell (p := ⟨g, k * 2, none⟩) hg).trans cp
        have dj := (hb.cell (p := ⟨g, k * 2 + 1, none⟩) hg).trans cj
        obtain ⟨a0, cap0, rfl⟩ := row_slice hrow
        have hr2 := row_alloc (row_alloc hrow (.cells #[.int .i64 (p : Int), .int .i64 (j : Int)] 51)) (.cells #[.int .i64 (j : Int)] 3)
        have q1 := one_newAt (wr.alloc (.cells #[.int .i64 (p : Int), .int .i64 (j : Int)] 51)) (wr.heap.size + 1) (by simp) (.int .i64 (j : Int)) 3
        have q5 : w1.heap.size ≤ ((wr.alloc (.cells #[.int .i64 (p : Int), .int .i64 (j : Int)] 51)).alloc (.cells #[.int .i64 (j : Int)] 3)).heap.size := by simp; omega
        have hb3 := (hb.alloc hbs (.cells #[.int .i64 (p : Int), .int .i64 (j : Int)] 51)).alloc (by simp; omega) (.cells #[.int .i64 (j : Int)] 3)
        have q3 : k + 1 ≤ maxLen := by unfold maxLen; omega
        have hown : ∀ m, (Value.slice a0 k cap0).ownBlock = some m → w1.heap.size ≤ m := fun m hm => (hrow.lt m hm).1
        have HR2 := Lib.hid hr2
        have Q1 := Lib.hid q1
        have HJ := Lib.hid hj
        have HOW := Lib.hid hown
        clear hr2 q1 hj hp hrow hl1 hl2 cp cj hown
        go_wp2_with (at_builtin; (refine wpList_append_own_at _ rfl _ _ 24 rfl w1.heap.size 3 i0 _ 1 8 Tryz.underlying24 hi hz0 hz1 hz2 rfl (by decide) _ _ _ rfl HR2.out ⟨wr.heap.size + 1, 0, none⟩ 1 1 [.int .i64 (j : Int)] rfl rfl Q1.out (by simp [Value.oneCell']) q3 (by omega) q5 ?_); intro v' w3 hown' hgrow hnil hwhere)
        refine ⟨⟨k + 1, by omega, by go_num, hb3.grown hgrow (by simp; omega) (fun m hm => HOW.out m hm), ?_⟩, by simp [intOf]; omega⟩
        have e : (s2.called.take (k + 1)).map (fun (n : Nat) => (n : Int)) = (s2.called.take k).map (fun (n : Nat) => (n : Int)) ++ [(j : Int)] := by rw [List.take_add_one, HJ.out]; simp
        rw [e]
        simpa [int64s] using hown'
      · obtain rfl : k = n := by omega
        have HRW := Lib.hid hrow
        clear hrow
        go_wp2_with fail
        go_ret2
        refine ⟨_, rfl, ?_, hb1.trans (hb.mono hsz1)⟩
        have h := own_base HRW.out hsz1
        have e : s2.called.take k = s2.called := by rw [← HN.out]; exact List.take_length
        rw [e] at h
        have e2 : (calO (some s2)).length = k := by simp [calO, HN.out]
        rw [e2]
        exact h
set_option maxRecDepth 100000 in
set_option maxHeartbeats 2000000 in
theorem sCallsIn_c (hev : SEvC 1501) (s : Text) (w : World) (hl : s.length ≤ 9223372036854775807) :
    Calls Tryz.prog 6 #[.string ⟨s.toArray⟩] w (RowP w (calO (doneO s)) (doneO s).isSome) := by
  obtain ⟨i0, hi, hz0, hz1, hz2⟩ := info_parts Tryz.infoI
  have C := sdone_c hev s w hl
  have hok := fun s2 (h : doneO s = some s2) => done_ok h
  generalize doneO s = o at C hok ⊢
  go_enter Tryz.func6, Tryz.ntmps6
  go_wp2_with fail
  refine C.mono ?_
  clear C
  rcases o with _ | s2
  · rintro e w1 ⟨⟨p, rfl⟩, hb1⟩
    have ho := World.ownsRow_lit (base := w.heap.size) (e := 3) (size := 1) w1 #[] 0 hb1.size (by simp [maxLen]) (by simp)
    go_wp2_with fail
    go_ret2
    exact ⟨_, rfl, ho, hb1.alloc hb1.size _⟩
  · rintro e w1 ⟨⟨rb, cv, av, rfl, hrb, hR⟩, hb1⟩
    have c7 := hR.cs 7 cv rfl
    have hrow := hR.row
    have hcl : s2.called.length ≤ 1500 := hok s2 rfl
    clear hok
    rw [ints_eq] at hrow
    have hb2 := hb1.alloc hb1.size (.cells #[] 3)
    have ho := World.ownsRow_lit (base := w1.heap.size) (e := 3) (size := 1) w1 #[] 0 (Nat.le_refl _) (by simp [maxLen]) (by simp)
    have c7b := (World.cell?_alloc_lt w1 (.cells #[] 3) ⟨rb, 7, none⟩ (World.block_lt_of_cell? _ _ c7)).trans c7
    obtain ⟨_, ⟨h1, h2⟩ | ⟨g, cap, cur, rfl, hg1, hg2, hg3⟩⟩ := id hrow
    · subst h1
      have hn : calO (some s2) = [] := by simp_all [calO, int64s]
      have HN := Lib.hid hn
      clear h2 hrow hn
      go_wp2_with fail
      go_ret2
      refine ⟨_, rfl, ?_, hb2⟩
      rw [HN.out]
      exact own_base ho hb1.size
    · have hr2 := row_alloc hrow (.cells #[] 3)
      have q1 := hr2.cells (g := g) rfl
      have q6 := hr2.1
      have q2 : ∀ u ∈ int64s (s2.called.map fun (n : Nat) => (n : Int)), u.oneCell' = true := by simp [int64s, Value.oneCell']
      have q3 : 0 + s2.called.length ≤ maxLen := by unfold maxLen; omega
      have q5 : w1.heap.size ≤ (w1.alloc (.cells #[] 3)).heap.size := by simp
      have q7 : w.heap.size ≤ (w1.alloc (.cells #[] 3)).heap.size := hb2.size
      have H1 := Lib.hid ho
      have Q1 := Lib.hid q1
      have Q2 := Lib.hid q2
      have Q6 := Lib.hid q6
      clear hrow hr2 q1 q2 q6 ho hg1 hg2 hg3 hR
      go_wp2_with (at_builtin; (refine wpList_append_own_at _ rfl _ _ 24 rfl w1.heap.size 3 i0 _ 1 8 Tryz.underlying24 hi hz0 hz1 hz2 rfl (by decide) _ _ _ rfl H1.out ⟨g, 0, none⟩ s2.called.length cap (int64s (s2.called.map fun (n : Nat) => (n : Int))) rfl Q6.out Q1.out Q2.out q3 (by omega) q5 ?_); intro v' w3 hown' hgrow hnil hwhere)
      obtain ⟨a', cap', rfl⟩ := row_slice hown'
      have HO := Lib.hid hown'
      have HG := Lib.hid hgrow
      clear hown' hgrow hnil hwhere
      go_wp2_with fail
      go_ret2
      refine ⟨_, rfl, ?_, hb2.grown HG.out q7 (fun j hj => by have h1 := hb1.size; have h2 : w1.heap.size = j := Option.some.inj hj; omega)⟩
      have h := own_base HO.out hb1.size
      simpa [calO] using h
theorem int_cells {w : World} {base : Nat} {v : Value} {xs : List Int} (h : w.ownsRow base 3 1 v xs.length (int64s xs)) : ∃ a cap, v = .slice a xs.length cap ∧ (0 < xs.length → ∃ g, a = some ⟨g, 0, none⟩ ∧ g < w.heap.size ∧ ∀ k x, xs[k]? = some x → w.cell? ⟨g, k, none⟩ = some (.int .i64 x)) := row_cells h
theorem not_in_succ {xs : List Int} {i : Nat} {x k : Int} (h : k ∉ xs.take i) (hx : xs[i]? = some x) (hne : ¬ x = k) : k ∉ xs.take (i + 1) := by
  rw [List.take_add_one, hx]
  simp only [Option.toList_some, List.mem_append, List.mem_singleton, not_or]
  exact ⟨h, fun e => hne e.symm⟩
set_option maxRecDepth 100000 in
set_option maxHeartbeats 2000000 in
theorem sIsUsed_c (hev : SEvC 1501) (s : Text) (k : Int) (w : World) (hl : s.length ≤ 9223372036854775807) :
    Calls Tryz.prog 10 #[.string ⟨s.toArray⟩, .int .i64 k] w fun e w' => e = .returned (.bool (decide (k ∈ calO (doneO s)))) ∧ Below w.heap.size w w' := by
  have C := sCallsIn_c hev s w hl
  have hlen : (calO (doneO s)).length ≤ 1500 := by
    rcases hr : doneO s with _ | s2
    · simp [calO]
    · have := done_ok hr; simpa [calO] using this
  generalize (doneO s).isSome = b at C
  generalize calO (doneO s) = xs at C hlen ⊢
  go_enter Tryz.func10, Tryz.ntmps10
  go_wp2_with fail
  refine C.mono ?_
  clear C
  rintro e w1 ⟨v, rfl, hrow, hb1⟩
  obtain ⟨a, cap, rfl, hA⟩ := int_cells hrow
  have HA := Lib.hid hA
  clear hrow hA
  go_wp2_with fail
  go_loopw [16] (fun ix wr => ∃ i : Nat, i ≤ xs.length ∧ ix = .int .i64 i ∧ k ∉ xs.take i ∧ wr = w1) (fun ix _ => xs.length - (intOf ix).toNat)
  case atStart => exact ⟨0, Nat.zero_le _, rfl, by simp, rfl⟩
  case round =>
    obtain ⟨i, hi, rfl, hn, rfl⟩ := hrel
    have HN := Lib.hid hn
    clear hn
    by_cases hlt : i < xs.length
    · obtain ⟨g, rfl, hg, hc⟩ := HA.out (by omega)
      obtain ⟨x, hx⟩ : ∃ x, xs[i]? = some x := ⟨_, List.getElem?_eq_getElem hlt⟩
      have cx := hc i x hx
      have HX := Lib.hid hx
      clear hx hc
      by_cases hk : x = k
      · subst hk
        go_wp2_with fail
        go_ret
        exact ⟨by rw [decide_eq_true (List.mem_of_getElem? HX.out)]; rfl, hb1⟩
      · go_wp2_with fail
        exact ⟨⟨i + 1, by omega, by go_num, not_in_succ HN.out HX.out hk, trivial⟩, by simp [intOf]; omega⟩
    · obtain rfl : i = xs.length := by omega
      go_wp2_with fail
      go_ret
      have hn := HN.out
      rw [List.take_length] at hn
      exact ⟨by rw [decide_eq_false hn]; rfl, hb1⟩
set_option maxRecDepth 100000 in
set_option maxHeartbeats 2000000 in
theorem index_c (xs : List Int) (k : Int) (v : Value) (base : Nat) (w : World) (hlen : xs.length ≤ 1500) (hrow : w.ownsRow base 3 1 v xs.length (int64s xs)) :
    Calls Tryz.prog 29 #[v, .int .i64 k] w fun e w' => (∃ n : Int, e = .returned (.int .i64 n) ∧ (k ∈ xs ↔ 0 ≤ n)) ∧ w' = w := by
  obtain ⟨a, cap, rfl, hA⟩ := int_cells hrow
  have HA := Lib.hid hA
  clear hrow hA
  go_enter Tryz.func29, Tryz.ntmps29
  go_wp2_with fail
  go_loopw [8] (fun ix wr => ∃ i : Nat, i ≤ xs.length ∧ ix = .int .i64 i ∧ k ∉ xs.take i ∧ wr = w) (fun ix _ => xs.length - (intOf ix).toNat)
  case atStart => exact ⟨0, Nat.zero_le _, rfl, by simp, rfl⟩
  case round =>
    obtain ⟨i, hi, rfl, hn, rfl⟩ := hrel
    have HN := Lib.hid hn
    clear hn
    by_cases hlt : i < xs.length
    · obtain ⟨g, rfl, hg, hc⟩ := HA.out (by omega)
      obtain ⟨x, hx⟩ : ∃ x, xs[i]? = some x := ⟨_, List.getElem?_eq_getElem hlt⟩
      have cx := hc i x hx
      have HX := Lib.hid hx
      clear hx hc
      by_cases hk : k = x
      · subst hk
        go_wp2_with fail
        go_ret
        exact ⟨⟨(i : Int), rfl, fun _ => by omega, fun _ => List.mem_of_getElem? HX.out⟩, rfl⟩
      · go_wp2_with fail
        exact ⟨⟨i + 1, by omega, by go_num, not_in_succ HN.out HX.out (fun e => hk e.symm), trivial⟩, by simp [intOf]; omega⟩
    · obtain rfl : i = xs.length := by omega
      go_wp2_with fail
      go_ret
      have hn := HN.out
      rw [List.take_length] at hn
      exact ⟨⟨-1, rfl, fun h => absurd h hn, fun h => by omega⟩, rfl⟩
set_option maxRecDepth 100000 in
set_option maxHeartbeats 2000000 in
theorem iIsUsed_c (s : Text) (k : Int) (w : World) (hl : s.length ≤ 9223372036854775807) (hg : ErrT w) :
    Calls Tryz.prog 9 #[.string ⟨s.toArray⟩, .int .i64 k] w fun e w' => e = .returned (.bool (decide (k ∈ calO (doneO s)))) ∧ Below w.heap.size w w' := by
  have C := iCallsIn_c s w hl hg
  have hlen : (calO (doneO s)).length ≤ 1500 := by
    rcases hr : doneO s with _ | s2
    · simp [calO]
    · have := done_ok hr; simpa [calO] using this
  generalize (doneO s).isSome = b at C
  generalize calO (doneO s) = xs at C hlen ⊢
  have CC : ∀ v w1, w1.ownsRow w.heap.size 3 1 v xs.length (int64s xs) → Calls Tryz.prog 19 #[v, .int .i64 k] w1 fun e w' => e = .returned (.bool (decide (k ∈ xs))) ∧ w' = w1 := by
    intro v w1 hrow
    have D := index_c xs k v w.heap.size w1 hlen hrow
    obtain ⟨a, cap, rfl⟩ := row_slice hrow
    go_enter Tryz.func19, Tryz.ntmps19
    go_wp2_with fail
    refine D.mono ?_
    clear D
    rintro e w2 ⟨⟨n, rfl, hn⟩, rfl⟩
    have HN := Lib.hid hn
    clear hn
    go_wp2_with fail
    go_ret
    exact ⟨by rw [decide_eq_decide.2 HN.out]; rfl, rfl⟩
  go_enter Tryz.func9, Tryz.ntmps9
  go_wp2_with fail
  refine C.mono ?_
  clear C
  rintro e w1 ⟨v, rfl, hrow, hb1⟩
  have D := CC v w1 hrow
  obtain ⟨a, cap, rfl⟩ := row_slice hrow
  clear CC hrow
  go_wp2_with fail
  refine D.mono ?_
  clear D
  rintro e w2 ⟨rfl, rfl⟩
  go_wp2_with fail
  go_ret
  exact ⟨rfl, hb1⟩
end Go.Proofs.YtjfhncfbejephaaGreatDoor

/- The statements' own helpers over rows of numbers: comparing, marking, asking for the marks. -/
namespace Go.Proofs.YtjfhncfbejephaaGreatDoor
open Go.RowKit
open Ff
set_option linter.unusedVariables false
attribute [local irreducible] Calls

abbrev iv (n : Int) : Value := .int .i64 n
/-- A slice that lists numbers. -/
abbrev Ints (w : World) (base : Nat) (v : Value) (l : List Int) : Prop := w.ownsRow base 3 1 v l.length (int64s l)
/-- Either no number and whatever slice, or a slice that is written out, with its cells. -/
theorem Ints.cases {W : World} {base : Nat} {v : Value} {l : List Int} (h : Ints W base v l) : (∃ a c, v = .slice a l.length c) ∧ ∀ (i : Nat) (s : Int), l[i]? = some s → ∃ g c, v = .slice (some ⟨g, 0, none⟩) l.length c ∧ base ≤ g ∧ g < W.heap.size ∧ W.cell? ⟨g, i, none⟩ = some (iv s) ∧ W.frozen? ⟨g, i, none⟩ = false := by
  constructor
  · rcases h.2 with ⟨rfl, h0⟩ | ⟨g, cap, cur, rfl, _⟩
    · exact ⟨none, 0, by rw [h0]⟩
    · exact ⟨_, _, rfl⟩
  · intro i s hs
    have hc := fun g hg => h.cells (g := g) hg i (iv s) (by simp [int64s, hs])
    have hl := fun g hg => h.lt g hg
    rcases h.2 with ⟨rfl, h0⟩ | ⟨g, cap, cur, rfl, _⟩
    · have : l = [] := List.length_eq_zero_iff.1 h0
      subst this
      simp at hs
    · have h1 := hc g rfl
      rw [Addr.add_lit, Nat.zero_add] at h1
      exact ⟨g, cap, rfl, (hl g rfl).1, (hl g rfl).2, h1, Ints.frozen h i⟩

theorem bgrownI {A B : World} (h : Below A.heap.size A B) : A.grownBy B none := ⟨h.os, h.tape, h.output, h.size, fun j hj _ => h.block j hj⟩
theorem grown_setAtI (W : World) (b i : Nat) (v : Value) : W.grownBy (W.setCell ⟨b, i, none⟩ v) (some b) :=
  ⟨rfl, rfl, rfl, (KeepsWalks.setCell W _ v).size, fun k _ hk => Below.heap_setCell _ _ _ k (fun e => hk (by rw [e]))⟩
/-- The marks from 1 on. -/
def marksI : Nat → List Int
  | 0 => []
  | n + 1 => marksI n ++ [((n + 1 : Nat) : Int)]
theorem marksI_len : ∀ n, (marksI n).length = n
  | 0 => rfl
  | n + 1 => by rw [marksI, List.length_append, marksI_len n]; rfl
theorem marksI_at : ∀ n i, i < n → (marksI n)[i]? = some ((i + 1 : Nat) : Int)
  | 0, i, h => absurd h (by omega)
  | n + 1, i, h => by
    rw [marksI]
    by_cases e : i = n
    · subst e
      rw [List.getElem?_append_right (by rw [marksI_len]; omega), marksI_len]
      simp
    · rw [List.getElem?_append_left (by rw [marksI_len]; omega)]
      exact marksI_at n i (by omega)
end Go.Proofs.YtjfhncfbejephaaGreatDoor

/- FnExactCallsIn. -/
namespace Go.Proofs.YtjfhncfbejephaaGreatDoor
open Go.RowKit Go.Shelf
open Ff
set_option linter.unusedVariables false
attribute [local irreducible] Calls

theorem ints_other {W W' : World} {b0 n : Nat} {v0 v1 : Value} {l : List Int} (h : Ints W b0 v0 l) (hg : W.grownBy W' v1.ownBlock) (h0 : ∀ j, v0.ownBlock = some j → j < n) (h1 : ∀ j, v1.ownBlock = some j → n ≤ j) : Ints W' b0 v0 l := by
  refine World.ownsRow.kept h hg ?_
  rcases ho : v0.ownBlock with _ | j
  · exact .inl rfl
  · refine .inr (fun e => ?_)
    have a := h0 j ho
    have b := h1 j e.symm
    omega
theorem Ints.below {W W' : World} {base n : Nat} {v : Value} {l : List Int} (h : Ints W base v l) (hb : Below n W W') (hn : W.heap.size ≤ n) : Ints W' base v l := by
  refine World.ownsRow.kept (row := none) h ⟨hb.os, hb.tape, hb.output, hb.size, fun j hj _ => hb.block j (by omega)⟩ ?_
  rcases h.2 with ⟨rfl, _⟩ | ⟨g, cap, cur, rfl, _⟩
  · exact .inl rfl
  · exact .inr (by simp [Value.ownBlock])
end Go.Proofs.YtjfhncfbejephaaGreatDoor
