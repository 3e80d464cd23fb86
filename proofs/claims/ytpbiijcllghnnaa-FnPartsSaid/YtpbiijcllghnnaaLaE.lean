import Derived.Test.YtpbiijcllghnnaaLaA
/- DrawTermValid; laws.ffWithin; FnTwoTerms. -/
namespace Go.Proofs.Ytpbiijcllghnnaa
open Go.RowKit
open Ff
set_option linter.unusedVariables false
attribute [local irreducible] Calls

theorem halves (S n : Nat) : S * n = (if n % 2 = 1 then S else 0) + (S + S) * (n / 2) := by
  have h : S * n = S * (2 * (n / 2) + n % 2) := by rw [Nat.div_add_mod]
  rw [h, Nat.mul_add, ← Nat.mul_assoc, Nat.mul_two]
  rcases Nat.mod_two_eq_zero_or_one n with h2 | h2 <;> simp [h2]; omega
set_option maxHeartbeats 1000000 in
theorem many_c (s : ByteArray) (n : Nat) (w : World) (h : s.size * n ≤ 4000) (hn : n ≤ 4000) :
    Calls Try.prog 37 #[.string s, .int .i64 n] w fun e w' => ∃ o : ByteArray, e = .returned (.string o) ∧ o.size ≤ 4000 ∧ w' = w := by
  go_enter Try.func37, Try.ntmps37
  go_wp2_with fail
  go_loopw [0, 1, 5] (fun v i o wr => ∃ (O S : ByteArray) (n : Nat), n ≤ 4000 ∧ v = .string S ∧ i = .int .i64 n ∧ o = .string O ∧ O.size + S.size * n ≤ 4000 ∧ wr = w) (fun _ i _ _ => (intOf i).toNat)
  case atStart => exact ⟨⟨#[]⟩, s, n, hn, rfl, rfl, rfl, by show 0 + _ ≤ _; omega, rfl⟩
  case round =>
    obtain ⟨O, S, n, hn, rfl, rfl, rfl, hs, rfl⟩ := hrel
    by_cases h0 : 0 < n
    · have h0i : 0 < (n : Int) := by omega
      have hS : S.size ≤ 4000 := by have := Nat.le_mul_of_pos_right S.size h0; omega
      have hO : O.size ≤ 4000 := by omega
      have q1 : ¬ 9223372036854775807 < O.size + S.size := by omega
      have q2 : ¬ 9223372036854775807 < S.size + S.size := by omega
      have hv := halves S.size n
      have HV := Lib.hid hv
      have HS := Lib.hid hs
      clear hv hs
      rcases Nat.mod_two_eq_zero_or_one n with hp | hp
      · have h1 : ((n : Int) % 2 == 1) = false := by rw [beq_eq_false_iff_ne]; omega
        have HP := Lib.hid hp
        clear hp
        go_wp2_with fail
        refine ⟨⟨O, S ++ S, n / 2, by omega, rfl, by congr 1, rfl, ?_, trivial⟩, by simp [intOf]; omega⟩
        have := HV.out; rw [HP.out] at this; have := HS.out; rw [ByteArray.size_append]; simp at *; omega
      · have h1 : ((n : Int) % 2 == 1) = true := by rw [beq_iff_eq]; omega
        have HP := Lib.hid hp
        clear hp
        go_wp2_with fail
        refine ⟨⟨O ++ S, S ++ S, n / 2, by omega, rfl, by congr 1, rfl, ?_, trivial⟩, by simp [intOf]; omega⟩
        have := HV.out; rw [HP.out] at this; have := HS.out; rw [ByteArray.size_append, ByteArray.size_append]; simp at *; omega
    · obtain rfl : n = 0 := by omega
      go_wp2_with fail
      go_ret
      exact ⟨O, rfl, by omega, rfl⟩
theorem many_g {b : Nat} {a : Option Addr} {l c p : Nat} {w0 w : World} (hD : DG b a l c w0 p w) (s : ByteArray) (n : Nat) (m : Int) (hm : m = n) (h : s.size * n ≤ 4000) (hn : n ≤ 4000) :
    Calls Try.prog 37 #[.string s, .int .i64 m] w fun e w' => ∃ o : ByteArray, e = .returned (.string o) ∧ o.size ≤ 4000 ∧ DG b a l c w0 p w' := by
  subst hm
  exact (many_c s n w h hn).mono fun e w' ⟨o, he, ho, hw⟩ => ⟨o, he, ho, by rw [hw]; exact hD⟩

/-- A row of texts; a row of numbers. -/
theorem row_at (w : World) (vs : List Value) (t : TypeId) (j : Nat) : (w.alloc (.cells vs.toArray t)).cell? ⟨w.heap.size, j, none⟩ = vs[j]? := by
  show (match (w.heap.push _)[w.heap.size]? with | some (.cells c _ _) => if (none : Option Nat).isSome then none else c[j]? | _ => none) = _
  simp
set_option maxHeartbeats 1000000 in
theorem of_v {b : Nat} {a : Option Addr} {l c p : Nat} {w0 w : World} (h : DG b a l c w0 p w) (vs : List ByteArray) (t : TypeId) (hp : p ≤ 1000000) (hn : 1 ≤ vs.length) (hn2 : vs.length ≤ 1000000) :
    Calls Try.prog 36 #[.pointer (some ⟨b, 0, none⟩), .slice (some ⟨w.heap.size, 0, none⟩) vs.length vs.length] (w.alloc (.cells (vs.map Value.string).toArray t)) fun e w' => ∃ s : ByteArray, s ∈ vs ∧ e = .returned (.string s) ∧ DG b a l c w0 (p + 1) w' := by
  have hr : ∀ j v, vs[j]? = some v → (w.alloc (.cells (vs.map Value.string).toArray t)).cell? ⟨w.heap.size, j, none⟩ = some (.string v) := fun j v hj => by rw [row_at, List.getElem?_map, hj]; rfl
  have hA : DG b a l c w0 p (w.alloc (.cells (vs.map Value.string).toArray t)) := h.out ((Below.refl _ _).alloc (Nat.le_refl _) _)
  have hb := h.dr.lt
  generalize w.alloc (.cells (vs.map Value.string).toArray t) = W at hr hA ⊢
  generalize w.heap.size = g at hr hb ⊢
  have C := pick_i hA.dr vs.length hp (by omega) (by omega)
  have HR := Lib.hid hr
  clear hr
  go_enter Try.func36, Try.ntmps36
  go_wp2_with fail
  refine C.mono ?_
  rintro e w1 ⟨k, rfl, hk, hD, hg⟩
  obtain ⟨s, hs⟩ : ∃ s, vs[k]? = some s := ⟨_, List.getElem?_eq_getElem (by omega)⟩
  have hc : w1.cell? ⟨g, k, none⟩ = some (.string s) := (hg.cell (HR.out k s hs) (by simp; omega))
  have HS := Lib.hid (List.mem_of_getElem? hs)
  have HD := Lib.hid hD
  have HA := Lib.hid hA
  clear hs hD hA
  go_wp2_with fail
  go_ret
  exact ⟨s, HS.out, rfl, HD.out, grownBy_trans HA.out.gr hg⟩
set_option maxHeartbeats 1000000 in
theorem num_v {b : Nat} {a : Option Addr} {l c p : Nat} {w0 w : World} (h : DG b a l c w0 p w) (vs : List Int) (t : TypeId) (hp : p ≤ 1000000) (hn : 1 ≤ vs.length) (hn2 : vs.length ≤ 1000000) :
    Calls Try.prog 35 #[.pointer (some ⟨b, 0, none⟩), .slice (some ⟨w.heap.size, 0, none⟩) vs.length vs.length] (w.alloc (.cells (vs.map (Value.int .i64)).toArray t)) fun e w' => ∃ s : Int, s ∈ vs ∧ e = .returned (.int .i64 s) ∧ DG b a l c w0 (p + 1) w' := by
  have hr : ∀ j v, vs[j]? = some v → (w.alloc (.cells (vs.map (Value.int .i64)).toArray t)).cell? ⟨w.heap.size, j, none⟩ = some (.int .i64 v) := fun j v hj => by rw [row_at, List.getElem?_map, hj]; rfl
  have hA : DG b a l c w0 p (w.alloc (.cells (vs.map (Value.int .i64)).toArray t)) := h.out ((Below.refl _ _).alloc (Nat.le_refl _) _)
  have hb := h.dr.lt
  generalize w.alloc (.cells (vs.map (Value.int .i64)).toArray t) = W at hr hA ⊢
  generalize w.heap.size = g at hr hb ⊢
  have C := pick_i hA.dr vs.length hp (by omega) (by omega)
  have HR := Lib.hid hr
  clear hr
  go_enter Try.func35, Try.ntmps35
  go_wp2_with fail
  refine C.mono ?_
  rintro e w1 ⟨k, rfl, hk, hD, hg⟩
  obtain ⟨s, hs⟩ : ∃ s, vs[k]? = some s := ⟨_, List.getElem?_eq_getElem (by omega)⟩
  have hc : w1.cell? ⟨g, k, none⟩ = some (.int .i64 s) := (hg.cell (HR.out k s hs) (by simp; omega))
  have HS := Lib.hid (List.mem_of_getElem? hs)
  have HD := Lib.hid hD
  have HA := Lib.hid hA
  clear hs hD hA
  go_wp2_with fail
  go_ret
  exact ⟨s, HS.out, rfl, HD.out, grownBy_trans HA.out.gr hg⟩
set_option maxHeartbeats 2000000 in
theorem drawTermValid_c (a : Option Addr) (l c : Nat) (w : World) (h : Src w a l c) :
    Calls Try.prog 7 #[.slice a l c] w fun e w' => ∃ s : Text, e = .returned (.string ⟨s.toArray⟩) ∧ s.length ≤ 5000 ∧ Below w.heap.size w w' := by
  go_enter Try.func7, Try.ntmps7
  go_wp2_with fail
  refine (open_c a l c w h).mono ?_; rintro e w1 ⟨l', rfl, hD⟩
  go_wp2_with fail
  refine (pick_g hD _ (by omega) (by omega) (by omega)).mono ?_; rintro e w2 ⟨k2, rfl, hk2, hD2⟩
  go_wp2_with fail
  · refine (num_v hD2 [23, 24, 22] _ (by omega) (by decide) (by decide)).mono ?_; rintro e w3 ⟨k3, hk3, rfl, hD3⟩
    have hk3 : 0 ≤ k3 ∧ k3 ≤ 24 := by simp at hk3; omega
    go_wp2_with fail
    refine (many_g hD3 ⟨#[92, 97]⟩ k3.toNat k3 (by omega) (by show 2 * _ ≤ _; omega) (by omega)).mono ?_; rintro e w4 ⟨x, rfl, hx, hD4⟩
    go_wp2_with fail
    refine (many_g hD4 ⟨#[43, 49]⟩ 59 59 rfl (by decide) (by decide)).mono ?_; rintro e w5 ⟨y, rfl, hy, hD5⟩
    go_wp2_with fail
    refine (of_g hD5 [[49], [49, 50], [43, 49]] _ 2 (by decide) (by omega) (by decide) (by decide)).mono ?_; rintro e w6 ⟨z, hz, rfl, hD6⟩
    go_wp2_with fail
    refine (many_g hD6 ⟨#[63, 48, 48]⟩ 12 12 rfl (by decide) (by decide)).mono ?_; rintro e w7 ⟨v, rfl, hv, hD7⟩
    go_wp2_with fail
    refine (of_v hD7 [x ++ ⟨#[97]⟩, y ++ z, v ++ ⟨#[49]⟩] _ (by omega) (by simp) (by simp)).mono ?_; rintro e w8 ⟨r, hr, rfl, hD8⟩
    have hr2 : r.size ≤ 4500 := by
      have h1 : (⟨#[97]⟩ : ByteArray).size = 1 := rfl
      have h2 : (⟨#[49]⟩ : ByteArray).size = 1 := rfl
      simp only [List.mem_cons, List.not_mem_nil, or_false] at hr
      rcases hr with rfl | rfl | rfl <;> rw [ByteArray.size_append] <;> omega
    clear hr
    go_wp2_with fail
    go_ret
    obtain ⟨⟨r⟩⟩ := r
    rw [show (⟨⟨r⟩⟩ : ByteArray) = ⟨r.toArray⟩ from rfl, size_data] at hr2
    exact ⟨r, rfl, by omega, hD8.below⟩
  · refine (any_c _ _ _ _ _ _ _ hD2 (by omega)).mono ?_; rintro e w3 ⟨s, p', rfl, hs, hp, hD3⟩
    go_wp2_with fail
    go_ret
    exact ⟨s, rfl, hs, hD3.below⟩
set_option maxHeartbeats 1000000 in
theorem drawSizeOf_c (a : Option Addr) (l c : Nat) (w : World) (h : Src w a l c) :
    Calls Try.prog 8 #[.slice a l c] w fun e w' => ∃ s : Text, e = .returned (.string ⟨s.toArray⟩) ∧ s.length ≤ 5000 ∧ Below w.heap.size w w' := by
  go_enter Try.func8, Try.ntmps8
  go_wp2_with fail
  refine (open_c a l c w h).mono ?_; rintro e w1 ⟨l', rfl, hD⟩
  go_wp2_with fail
  refine (any_c _ _ _ _ _ _ _ hD (by omega)).mono ?_; rintro e w2 ⟨s, p', rfl, hs, hp, hD2⟩
  go_wp2_with fail
  go_ret
  exact ⟨s, rfl, hs, hD2.below⟩

set_option maxRecDepth 100000 in
set_option maxHeartbeats 1000000 in
theorem within2_c (s t : Text) (w : World) (hl : s.length ≤ 100000) (hl2 : t.length ≤ 100000) (h : ∀ x ∈ s, x ∈ t) :
    Calls Try.prog 15 #[.string ⟨s.toArray⟩, .string ⟨t.toArray⟩] w fun e w' => e = .returned (.bool true) ∧ w' = w := by
  go_enter Try.func15, Try.ntmps15
  go_wp2_with fail
  go_loopw [8] (fun i wr => ∃ (k : Nat), k ≤ s.length ∧ i = .int .i64 k ∧ wr = w) (fun i _ => s.length - (intOf i).toNat)
  case atStart => exact ⟨0, Nat.zero_le _, rfl, rfl⟩
  case round =>
    obtain ⟨k, hk, rfl, rfl⟩ := hrel
    by_cases hlt : k < s.length
    · obtain ⟨d, hd⟩ : ∃ d, s[k]? = some d := ⟨_, List.getElem?_eq_getElem hlt⟩
      have hx := extract_one s k d hd
      have hm := h d (List.mem_of_getElem? hd)
      have HD := Lib.hid hd
      have HM := Lib.hid hm
      clear hd hm h
      go_wp2_with fail
      refine (has_c t d wr hl2).mono ?_; rw [decide_eq_true HM.out]; rintro e w1 ⟨rfl, rfl⟩
      go_wp2_with fail
      exact ⟨⟨k + 1, by omega, by go_num, trivial⟩, by simp [intOf]; omega⟩
    · obtain rfl : k = s.length := by omega
      clear h
      go_wp2_with fail
      go_ret
      exact ⟨rfl, rfl⟩
theorem kValidS2 (s : Text) (hs : s.length ≤ 100000) (w : World) : Calls Try.prog 10 #[.string ⟨s.toArray⟩] w fun e w' => e = .returned (.bool (readS s).isSome) ∧ Below w.heap.size w w' := sTermValid_c s w (by omega)
theorem size_app (T U : Tm) : (parts (.app T U)).length = (parts T).length + (parts U).length + 1 := by simp [parts]
theorem free_app {T U : Tm} (hT : T.good) (hU : U.good) (x : UInt8) : x ∈ sfree (.app T U) ↔ x ∈ sfree T ∨ x ∈ sfree U := by
  rw [sfree, mem_sort, List.mem_append]
  exact ⟨fun h => h.2, fun h => ⟨by rcases h with h | h; exact free_letters hT h; exact free_letters hU h, h⟩⟩

set_option maxRecDepth 100000 in
set_option maxHeartbeats 8000000 in
theorem law_fnTwoTerms (a : Option Addr) (l c : Nat) (a2 : Option Addr) (l2 c2 : Nat) (w : World) (h : Src w a l c) (h2 : Src w a2 l2 c2) :
    Calls Try.prog 3 #[.slice a l c, .slice a2 l2 c2] w fun e w' => e = .returned (.bool true) ∧ Below w.heap.size w w' := by
  by_cases hl : l ≤ 1048576
  · have hl2 : (l : Int) ≤ 1048576 := by omega
    by_cases hm : l2 ≤ 1048576
    · have hm2 : (l2 : Int) ≤ 1048576 := by omega
      go_enter Try.func3, Try.ntmps3
      go_wp2_with fail
      refine (drawTermValid_c a l c w h).mono ?_; rintro e w1 ⟨s, rfl, hs, hb⟩
      go_wp2_with fail
      refine (drawSizeOf_c a2 l2 c2 w1 (h2.keep hb)).mono ?_; rintro e w2 ⟨u, rfl, hu, hb2⟩; replace hb := next hb hb2; clear hb2
      obtain ⟨G, hG⟩ : ∃ G : Text, G = 40 :: (s ++ (u ++ [41])) := ⟨_, rfl⟩
      have e1 : (⟨#[40]⟩ ++ ⟨s.toArray⟩ ++ ⟨u.toArray⟩ ++ ⟨#[41]⟩ : ByteArray) = ⟨G.toArray⟩ := by
        show (⟨([40] : Text).toArray⟩ ++ ⟨s.toArray⟩ ++ ⟨u.toArray⟩ ++ ⟨([41] : Text).toArray⟩ : ByteArray) = _
        rw [str_app2, str_app2, str_app2, hG]; simp
      have lG : G.length ≤ 100000 := by rw [hG]; simp; omega
      have q1 : ¬ 9223372036854775807 < 1 + s.length := by omega
      have q2 : ¬ 9223372036854775807 < 1 + s.length + u.length := by omega
      have q3 : ¬ 9223372036854775807 < 1 + s.length + u.length + 1 := by omega
      have HG := Lib.hid hG
      clear hG
      go_wp2_with fail
      refine (kValid s (by omega) w2).mono ?_; rintro e w3 ⟨rfl, hb2⟩; replace hb := next hb hb2; clear hb2
      go_wp2_with fail
      refine (kValidS2 s (by omega) w3).mono ?_; rintro e w4 ⟨rfl, hb2⟩; replace hb := next hb hb2; clear hb2
      rcases hT : readS s with _ | T
      · have HT := Lib.hid hT
        clear hT
        simp only [Option.isSome_none]
        go_wp2_with fail
        refine (kValid s (by omega) w4).mono ?_; rw [HT.out]; simp only [Option.isSome_none]; rintro e w5 ⟨rfl, hb2⟩; replace hb := next hb hb2; clear hb2
        go_wp2_with fail
        refine (kValid s (by omega) w5).mono ?_; rw [HT.out]; rintro e wB ⟨rfl, hb2⟩; replace hb := next hb hb2; clear hb2
        go_wp2_with fail
        refine (kValidS2 s (by omega) wB).mono ?_; rw [HT.out]; rintro e wC ⟨rfl, hb2⟩; replace hb := next hb hb2; clear hb2
        simp only [Option.isSome_none]
        go_wp2_with fail
        go_ret
        exact ⟨rfl, hb⟩
      · have HT := Lib.hid hT
        clear hT
        simp only [Option.isSome_some]
        go_wp2_with fail
        refine (kValid s (by omega) w4).mono ?_; rw [HT.out]; simp only [Option.isSome_some]; rintro e w5 ⟨rfl, hb2⟩; replace hb := next hb hb2; clear hb2
        go_wp2_with fail
        refine (kValid u (by omega) w5).mono ?_; rintro e w6 ⟨rfl, hb2⟩; replace hb := next hb hb2; clear hb2
        rcases hU : readS u with _ | U
        · simp only [Option.isSome_none]
          go_wp2_with fail
          refine (kValid s (by omega) w6).mono ?_; rw [HT.out]; rintro e wB ⟨rfl, hb2⟩; replace hb := next hb hb2; clear hb2
          go_wp2_with fail
          refine (kValidS2 s (by omega) wB).mono ?_; rw [HT.out]; rintro e wC ⟨rfl, hb2⟩; replace hb := next hb hb2; clear hb2
          simp only [Option.isSome_some]
          go_wp2_with fail
          go_ret
          exact ⟨rfl, hb⟩
        · have HU := Lib.hid hU
          clear hU
          simp only [Option.isSome_some]
          go_wp2_with fail
          refine (kValid G lG w6).mono ?_; rintro e w7 ⟨rfl, hb2⟩; replace hb := next hb hb2; clear hb2
          rcases hX : readS G with _ | X
          · simp only [Option.isSome_none]
            go_wp2_with fail
            refine (kValid s (by omega) w7).mono ?_; rw [HT.out]; rintro e wB ⟨rfl, hb2⟩; replace hb := next hb hb2; clear hb2
            go_wp2_with fail
            refine (kValidS2 s (by omega) wB).mono ?_; rw [HT.out]; rintro e wC ⟨rfl, hb2⟩; replace hb := next hb hb2; clear hb2
            simp only [Option.isSome_some]
            go_wp2_with fail
            go_ret
            exact ⟨rfl, hb⟩
          · have hX2 := hX
            rw [HG.out] at hX2
            obtain rfl := app_read hX2 HT.out HU.out
            have HX := Lib.hid hX
            clear hX hX2
            have hfr := free_app (readS_good HT.out) (readS_good HU.out)
            have z5 := size_app T U
            have z6 : (Tm.app T U).depth = max T.depth U.depth + 1 := rfl
            have z3 := readS_parts HT.out
            have z4 := readS_parts HU.out
            have z7 := readS_nest HT.out
            have z8 := readS_nest HU.out
            have f1 := sfree_len T
            have f2 := sfree_len U
            have f3 := sfree_len (.app T U)
            have Z5 := Lib.hid z5
            have Z6 := Lib.hid z6
            have HFR := Lib.hid hfr
            clear z5 z6 hfr
            simp only [Option.isSome_some]
            go_wp2_with fail
            refine (kFree s (by omega) w7).mono ?_; rw [HT.out]; simp only [txtP]; rintro e w8 ⟨rfl, hb2⟩; replace hb := next hb hb2; clear hb2
            go_wp2_with fail
            refine (kFree u (by omega) w8).mono ?_; rw [HU.out]; simp only [txtP]; rintro e w9 ⟨rfl, hb2⟩; replace hb := next hb hb2; clear hb2
            go_wp2_with fail
            refine (kFree G lG w9).mono ?_; rw [HX.out]; simp only [txtP]; rintro e w10 ⟨rfl, hb2⟩; replace hb := next hb hb2; clear hb2
            generalize hC : sfree (.app T U) = C at HFR f3 ⊢
            have HC := Lib.hid hC
            clear hC
            go_wp2_with fail
            go_loopw [74] (fun i wr => ∃ k : Nat, k ≤ C.length ∧ i = .int .i64 k ∧ wr = w10) (fun i _ => C.length - (intOf i).toNat)
            case atStart => exact ⟨0, Nat.zero_le _, rfl, rfl⟩
            case round =>
              obtain ⟨k, hk, rfl, rfl⟩ := hrel
              by_cases hlt : k < C.length
              · obtain ⟨d, hd⟩ : ∃ d, C[k]? = some d := ⟨_, List.getElem?_eq_getElem hlt⟩
                have hx := extract_one C k d hd
                have hm := (HFR.out d).1 (List.mem_of_getElem? hd)
                have HM := Lib.hid hm
                clear hd hm
                go_wp2_with fail
                refine (has_c (sfree T) d wr (by omega)).mono ?_; rintro e w11 ⟨rfl, rfl⟩
                by_cases hin : d ∈ sfree T
                · rw [decide_eq_true hin]
                  have HI := Lib.hid hin
                  clear hin
                  go_wp2_with fail
                  exact ⟨⟨k + 1, by omega, by go_num, trivial⟩, by simp [intOf]; omega⟩
                · rw [decide_eq_false hin]
                  have hin2 := HM.out.resolve_left hin
                  have HI := Lib.hid hin2
                  clear hin hin2
                  go_wp2_with fail
                  refine (has_c (sfree U) d _ (by omega)).mono ?_; rw [decide_eq_true HI.out]; rintro e w12 ⟨rfl, rfl⟩
                  go_wp2_with fail
                  exact ⟨⟨k + 1, by omega, by go_num, trivial⟩, by simp [intOf]; omega⟩
              · obtain rfl : k = C.length := by omega
                go_wp2_with fail
                refine (kSize G lG wr).mono ?_; rw [HX.out]; simp only [sizeI, Z5.out, Int.natCast_add]; rintro e w11 ⟨rfl, hb2⟩; replace hb := next hb hb2; clear hb2
                go_wp2_with fail
                refine (kSize s (by omega) w11).mono ?_; rw [HT.out]; simp only [sizeI]; rintro e w12 ⟨rfl, hb2⟩; replace hb := next hb hb2; clear hb2
                go_wp2_with fail
                refine (kSize u (by omega) w12).mono ?_; rw [HU.out]; simp only [sizeI]; rintro e w13 ⟨rfl, hb2⟩; replace hb := next hb hb2; clear hb2
                go_wp2_with fail
                refine (kDepth G lG w13).mono ?_; rw [HX.out]; simp only [depthI, Z6.out]; rintro e w14 ⟨rfl, hb2⟩; replace hb := next hb hb2; clear hb2
                go_wp2_with fail
                refine (kDepth s (by omega) w14).mono ?_; rw [HT.out]; simp only [depthI]; rintro e w15 ⟨rfl, hb2⟩; replace hb := next hb hb2; clear hb2
                go_wp2_with fail
                refine (kDepth u (by omega) w15).mono ?_; rw [HU.out]; simp only [depthI]; rintro e w16 ⟨rfl, hb2⟩; replace hb := next hb hb2; clear hb2
                go_wp2_with fail
                all_goals
                  refine (within2_c (sfree T) C w16 (by omega) (by omega) (fun x hx => (HFR.out x).2 (.inl hx))).mono ?_; rintro e w17 ⟨rfl, rfl⟩
                  go_wp2_with fail
                  refine (within2_c (sfree U) C _ (by omega) (by omega) (fun x hx => (HFR.out x).2 (.inr hx))).mono ?_; rintro e w18 ⟨rfl, rfl⟩
                  go_wp2_with fail
                  refine (kValue G lG _).mono ?_; rw [HX.out]; simp only [Option.any_some, Tm.isVal]; rintro e w19 ⟨rfl, hb2⟩; replace hb := next hb hb2; clear hb2
                  go_wp2_with fail
                  go_ret
                  exact ⟨rfl, hb⟩
    · have hm2 : 1048576 < (l2 : Int) := by omega
      go_enter Try.func3, Try.ntmps3
      go_wp2_with fail
      go_ret
      exact ⟨rfl, Below.refl _ _⟩
  · have hl2 : 1048576 < (l : Int) := by omega
    go_enter Try.func3, Try.ntmps3
    go_wp2_with fail
    go_ret
    exact ⟨rfl, Below.refl _ _⟩
end Go.Proofs.Ytpbiijcllghnnaa
