/- Laws over drawn terms: DrawNewName; FnNewName. -/
import Derived.Test.YtdedhejpbnfnaaaDrE
import Derived.Test.YtdedhejpbnfnaaaNew
namespace Go.Proofs.Ytdedhejpbnfnaaa
open Go.RowKit
open Ff
set_option linter.unusedVariables false
attribute [local irreducible] Calls

theorem nrow_at (w : World) (vs : List Value) (t : TypeId) (j : Nat) : (w.alloc (.cells vs.toArray t)).cell? ⟨w.heap.size, j, none⟩ = vs[j]? := by
  show (match (w.heap.push _)[w.heap.size]? with | some (.cells c _ _) => if (none : Option Nat).isSome then none else c[j]? | _ => none) = _
  simp
theorem rows2 (w : World) (xs ys : List Value) (t1 t2 : TypeId) :
    (∀ j, (((w.alloc (.cells xs.toArray t1)).alloc (.cells ys.toArray t2)).drew).cell? ⟨w.heap.size, j, none⟩ = xs[j]?) ∧ (∀ j, (((w.alloc (.cells xs.toArray t1)).alloc (.cells ys.toArray t2)).drew).cell? ⟨w.heap.size + 1, j, none⟩ = ys[j]?) := by
  have hz : (w.alloc (.cells xs.toArray t1)).heap.size = w.heap.size + 1 := by simp
  have hb := ((Below.refl (w.heap.size + 1) (w.alloc (.cells xs.toArray t1))).alloc (by omega) (.cells ys.toArray t2)).drew
  refine ⟨fun j => (hb.cell (p := ⟨w.heap.size, j, none⟩) (by show w.heap.size < _; omega)).trans (nrow_at _ _ _ _), fun j => ?_⟩
  have := nrow_at (w.alloc (.cells xs.toArray t1)) ys t2 j
  rw [hz] at this
  exact this
theorem dg2 {b : Nat} {a : Option Addr} {l c p : Nat} {w0 w : World} (h : DG b a l c w0 p w) (o1 o2 : Obj) : DG b a l c w0 p ((w.alloc o1).alloc o2).drew :=
  h.out (((Below.refl _ _).alloc (Nat.le_refl _) _).alloc (by simp) _).drew
set_option maxHeartbeats 1000000 in
theorem num_r {b : Nat} {a : Option Addr} {l c p : Nat} {w0 W : World} (h : DG b a l c w0 p W) (g : Nat) (ns : List Nat) (hr : ∀ j (v : Nat), ns[j]? = some v → W.cell? ⟨g, j, none⟩ = some (.int .i64 (v : Int))) (hgb : g ≠ b) (m : Nat) (hm : ∀ v ∈ ns, v ≤ m) (hp : p ≤ 1000000) (hn : 1 ≤ ns.length) (hn2 : ns.length ≤ 1000000) :
    Calls Try.prog 9 #[.pointer (some ⟨b, 0, none⟩), .slice (some ⟨g, 0, none⟩) ns.length ns.length] W fun e w' => ∃ k : Nat, k ≤ m ∧ e = .returned (.int .i64 k) ∧ DG b a l c w0 (p + 1) w' ∧ W.grownBy w' (some b) := by
  have C := pick_i h.dr ns.length hp (by omega) (by omega)
  have HR := Lib.hid hr
  clear hr
  go_enter Try.func9, Try.ntmps9
  go_wp2_with fail
  refine C.mono ?_
  rintro e w1 ⟨k, rfl, hk, hD, hg⟩
  obtain ⟨s, hs⟩ : ∃ s, ns[k]? = some s := ⟨_, List.getElem?_eq_getElem (by omega)⟩
  have hc : w1.cell? ⟨g, k, none⟩ = some (.int .i64 (s : Int)) := (hg.cell (HR.out k s hs) (by simp; omega))
  have HS := Lib.hid (List.mem_of_getElem? hs)
  have HD := Lib.hid hD
  have HA := Lib.hid h
  have HM := Lib.hid hm
  clear hs hD h hm
  go_wp2_with fail
  go_ret
  exact ⟨s, HM.out s HS.out, rfl, ⟨HD.out, grownBy_trans HA.out.gr hg⟩, hg⟩
theorem num_d {b : Nat} {a : Option Addr} {l c p : Nat} {w0 w : World} (h : DG b a l c w0 p w) (t : TypeId) (hp : p ≤ 1000000) :
    Calls Try.prog 9 #[.pointer (some ⟨b, 0, none⟩), .slice (some ⟨w.heap.size, 0, none⟩) 5 5] ((w.alloc (.cells #[.int .i64 3, .int .i64 0, .int .i64 1, .int .i64 15, .int .i64 16] t)).drew) fun e w' => ∃ k : Nat, k ≤ 16 ∧ e = .returned (.int .i64 k) ∧ DG b a l c w0 (p + 1) w' :=
  (num_r (W := (w.alloc (.cells #[.int .i64 3, .int .i64 0, .int .i64 1, .int .i64 15, .int .i64 16] t)).drew) (h.out ((Below.refl _ _).alloc (Nat.le_refl _) _).drew) w.heap.size [3, 0, 1, 15, 16]
    (fun j v hj => by
      have := nrow_at w [.int .i64 3, .int .i64 0, .int .i64 1, .int .i64 15, .int .i64 16] t j
      refine Eq.trans this ?_
      rw [show ([.int .i64 3, .int .i64 0, .int .i64 1, .int .i64 15, .int .i64 16] : List Value) = ([3, 0, 1, 15, 16] : List Nat).map (fun (v : Nat) => Value.int .i64 (v : Int)) from rfl, List.getElem?_map, hj]; rfl)
    (by have := h.dr.lt; omega) 16 (by decide) hp (by decide) (by decide)).mono fun e w' ⟨k, h1, h2, h3, _⟩ => ⟨k, h1, h2, h3⟩
abbrev strs4 : List Text := [[], [100], [122], [97]]
theorem num_ab {b : Nat} {a : Option Addr} {l c p : Nat} {w0 w : World} (h : DG b a l c w0 p w) (t t2 : TypeId) (hp : p ≤ 1000000) :
    Calls Try.prog 9 #[.pointer (some ⟨b, 0, none⟩), .slice (some ⟨w.heap.size, 0, none⟩) 5 5] (((w.alloc (.cells #[.int .i64 3, .int .i64 0, .int .i64 1, .int .i64 15, .int .i64 16] t)).alloc (.cells #[.string ⟨#[]⟩, .string ⟨#[100]⟩, .string ⟨#[122]⟩, .string ⟨#[97]⟩] t2)).drew) fun e w' => ∃ k : Nat, k ≤ 16 ∧ e = .returned (.int .i64 k) ∧ DG b a l c w0 (p + 1) w' ∧ Row w' (w.heap.size + 1) strs4 := by
  have R := rows2 w [.int .i64 3, .int .i64 0, .int .i64 1, .int .i64 15, .int .i64 16] [.string ⟨#[]⟩, .string ⟨#[100]⟩, .string ⟨#[122]⟩, .string ⟨#[97]⟩] t t2
  refine (num_r (dg2 h _ _) w.heap.size [3, 0, 1, 15, 16]
    (fun j v hj => by
      refine Eq.trans (R.1 j) ?_
      rw [show ([.int .i64 3, .int .i64 0, .int .i64 1, .int .i64 15, .int .i64 16] : List Value) = ([3, 0, 1, 15, 16] : List Nat).map (fun (v : Nat) => Value.int .i64 (v : Int)) from rfl, List.getElem?_map, hj]; rfl)
    (by have := h.dr.lt; omega) 16 (by decide) hp (by decide) (by decide)).mono fun e w' ⟨k, h1, h2, h3, h4⟩ => ⟨k, h1, h2, h3, fun j s hj => ?_⟩
  refine h4.cell (Eq.trans (R.2 j) ?_) (by have := h.dr.lt; simp; omega)
  rw [show ([.string ⟨#[]⟩, .string ⟨#[100]⟩, .string ⟨#[122]⟩, .string ⟨#[97]⟩] : List Value) = strs4.map (fun s => Value.string ⟨s.toArray⟩) from rfl, List.getElem?_map, hj]; rfl
theorem num_ba {b : Nat} {a : Option Addr} {l c p : Nat} {w0 w : World} (h : DG b a l c w0 p w) (t t2 : TypeId) (hp : p ≤ 1000000) :
    Calls Try.prog 9 #[.pointer (some ⟨b, 0, none⟩), .slice (some ⟨w.heap.size + 1, 0, none⟩) 5 5] (((w.alloc (.cells #[.string ⟨#[]⟩, .string ⟨#[100]⟩, .string ⟨#[122]⟩, .string ⟨#[97]⟩] t2)).alloc (.cells #[.int .i64 3, .int .i64 0, .int .i64 1, .int .i64 15, .int .i64 16] t)).drew) fun e w' => ∃ k : Nat, k ≤ 16 ∧ e = .returned (.int .i64 k) ∧ DG b a l c w0 (p + 1) w' ∧ Row w' w.heap.size strs4 := by
  have R := rows2 w [.string ⟨#[]⟩, .string ⟨#[100]⟩, .string ⟨#[122]⟩, .string ⟨#[97]⟩] [.int .i64 3, .int .i64 0, .int .i64 1, .int .i64 15, .int .i64 16] t2 t
  refine (num_r (dg2 h _ _) (w.heap.size + 1) [3, 0, 1, 15, 16]
    (fun j v hj => by
      refine Eq.trans (R.2 j) ?_
      rw [show ([.int .i64 3, .int .i64 0, .int .i64 1, .int .i64 15, .int .i64 16] : List Value) = ([3, 0, 1, 15, 16] : List Nat).map (fun (v : Nat) => Value.int .i64 (v : Int)) from rfl, List.getElem?_map, hj]; rfl)
    (by have := h.dr.lt; omega) 16 (by decide) hp (by decide) (by decide)).mono fun e w' ⟨k, h1, h2, h3, h4⟩ => ⟨k, h1, h2, h3, fun j s hj => ?_⟩
  refine h4.cell (Eq.trans (R.1 j) ?_) (by have := h.dr.lt; simp; omega)
  rw [show ([.string ⟨#[]⟩, .string ⟨#[100]⟩, .string ⟨#[122]⟩, .string ⟨#[97]⟩] : List Value) = strs4.map (fun s => Value.string ⟨s.toArray⟩) from rfl, List.getElem?_map, hj]; rfl
theorem of_r {b : Nat} {a : Option Addr} {l c p : Nat} {w0 w : World} (h : DG b a l c w0 p w) (g : Nat) (hrow : Row w g strs4) (hgb : g ≠ b) (hp : p ≤ 1000000) :
    Calls Try.prog 10 #[.pointer (some ⟨b, 0, none⟩), .slice (some ⟨g, 0, none⟩) 4 4] w fun e w' => ∃ s : ByteArray, s.size ≤ 1 ∧ e = .returned (.string s) ∧ DG b a l c w0 (p + 1) w' :=
  (of_c h.dr g strs4 4 hrow hgb hp (by decide) (by decide)).mono fun e w' ⟨s, hs, he, h1, h2⟩ => ⟨⟨s.toArray⟩, by rw [size_data]; exact (show ∀ s ∈ strs4, s.length ≤ 1 by decide) s hs, he, h1, grownBy_trans h.gr h2⟩
theorem one2_eq (d c : UInt8) : ([d] == (⟨([c] : Text).toArray⟩ : ByteArray).toList) = decide (d = c) := by
  have e : (⟨([c] : Text).toArray⟩ : ByteArray).toList = [c] := by
    rw [ByteArray.toList_eq]
  rw [e]
  by_cases h : d = c
  · subst h; simp
  · simp [h]
set_option maxRecDepth 100000 in
set_option maxHeartbeats 1000000 in
theorem has2_c (s : Text) (c : UInt8) (w : World) (hl : s.length ≤ 100000) :
    Calls Try.prog 7 #[.string ⟨s.toArray⟩, .string ⟨([c] : Text).toArray⟩] w fun e w' => e = .returned (.bool (decide (c ∈ s))) ∧ w' = w := by
  obtain ⟨N, hN⟩ : ∃ N : ByteArray, (⟨([c] : Text).toArray⟩ : ByteArray) = N := ⟨_, rfl⟩
  have hq : ∀ d, ([d] == N.toList) = decide (d = c) := fun d => by rw [← hN]; exact one2_eq d c
  rw [hN]
  clear hN
  go_enter Try.func7, Try.ntmps7
  go_wp2_with fail
  go_loopw [8] (fun i wr => ∃ (k : Nat), k ≤ s.length ∧ i = .int .i64 k ∧ c ∉ s.take k ∧ wr = w) (fun i _ => s.length - (intOf i).toNat)
  case atStart => exact ⟨0, Nat.zero_le _, rfl, by simp, rfl⟩
  case round =>
    obtain ⟨k, hk, rfl, hn, rfl⟩ := hrel
    have HN := Lib.hid hn
    clear hn
    by_cases hlt : k < s.length
    · obtain ⟨d, hd⟩ : ∃ d, s[k]? = some d := ⟨_, List.getElem?_eq_getElem hlt⟩
      have hx := extract_one s k d hd
      have hq1 := hq d
      have HD := Lib.hid hd
      clear hd hq
      by_cases hc : d = c
      · rw [decide_eq_true hc] at hq1
        have HC := Lib.hid hc
        clear hc
        go_wp2_with fail
        go_ret
        have hm : c ∈ s := by rw [← HC.out]; exact List.mem_of_getElem? HD.out
        exact ⟨by simp [hm], rfl⟩
      · rw [decide_eq_false hc] at hq1
        have HC := Lib.hid hc
        clear hc
        go_wp2_with fail
        refine ⟨⟨k + 1, by omega, by go_num, ?_, trivial⟩, by simp [intOf]; omega⟩
        rw [List.take_add_one, HD.out]
        simp only [Option.toList_some, List.mem_append, List.mem_singleton, not_or]
        exact ⟨HN.out, fun h => HC.out h.symm⟩
    · obtain rfl : k = s.length := by omega
      have hk2 : s.take s.length = s := List.take_of_length_le (Nat.le_refl _)
      rw [hk2] at HN
      go_wp2_with fail
      go_ret
      have := HN.out
      exact ⟨by simp [this], rfl⟩

theorem new_fin {x : ByteArray} {a : Option Addr} {l c p' : Nat} {w w' : World} (hx : x.size ≤ 100) (h : DG w.heap.size a l c w p' w') :
    ∃ (s : Text), Ending.returned (.string x) = .returned (.string ⟨s.toArray⟩) ∧ s.length ≤ 100 ∧ Below w.heap.size w w' := by
  obtain ⟨⟨s⟩⟩ := x
  rw [show (⟨⟨s⟩⟩ : ByteArray) = ⟨s.toArray⟩ from rfl, size_data] at hx
  exact ⟨s, rfl, hx, h.below⟩
set_option maxHeartbeats 2000000 in
theorem drawNewName_c (a : Option Addr) (l c : Nat) (w : World) (h : Src w a l c) :
    Calls Try.prog 4 #[.slice a l c] w fun e w' => ∃ s : Text, e = .returned (.string ⟨s.toArray⟩) ∧ s.length ≤ 100 ∧ Below w.heap.size w w' := by
  go_enter Try.func4, Try.ntmps4
  go_wp2_with fail
  refine (open_c a l c w h).mono ?_; rintro e w1 ⟨l', rfl, hD⟩
  go_wp2_with fail
  have hlt := hD.dr.lt
  go_region_with (first
    | (go_at_call 9; refine (num_d hD _ (by omega)).mono ?_; rintro e w2 ⟨k, hk, rfl, hD2⟩)
    | (go_at_call 9; refine (num_ab hD _ _ (by omega)).mono ?_; rintro e w2 ⟨k, hk, rfl, hD2, hR⟩)
    | (go_at_call 9; refine (num_ba hD _ _ (by omega)).mono ?_; rintro e w2 ⟨k, hk, rfl, hD2, hR⟩)
    | (go_at_call 10; refine (of_g hD2 [[], [100], [122], [97]] _ 1 (by decide) (by omega) (by decide) (by decide)).mono ?_; rintro e w3 ⟨s, hs, rfl, hD3⟩; have g1 : ¬ 9223372036854775807 < k + s.size := (by omega))
    | (go_at_call 10; refine (of_r hD2 _ hR (by omega) (by omega)).mono ?_; rintro e w3 ⟨s, hs, rfl, hD3⟩; have g1 : ¬ 9223372036854775807 < k + s.size := (by omega)))
  all_goals go_wp2_with fail
  all_goals go_ret
  all_goals exact new_fin (by simp only [ByteArray.size_append, ByteArray.size_extract]; omega) hD3
theorem nnext {w w1 w2 : World} (h : Below w.heap.size w w1) (k : Below w1.heap.size w1 w2) : Below w.heap.size w w2 := h.trans (k.mono h.size)
set_option maxRecDepth 100000 in
set_option maxHeartbeats 4000000 in
theorem law_fnNewName (a : Option Addr) (l c : Nat) (w : World) (h : Src w a l c) :
    Calls Try.prog 3 #[.slice a l c] w fun e w' => e = .returned (.bool true) ∧ Below w.heap.size w w' := by
  by_cases hl : l ≤ 1048576
  · have hl2 : (l : Int) ≤ 1048576 := by omega
    go_enter Try.func3, Try.ntmps3
    go_wp2_with fail
    refine (drawNewName_c a l c w h).mono ?_; rintro e w1 ⟨s, rfl, hs, hb⟩
    go_wp2_with fail
    refine (iNewName_c s w1 (by omega)).mono ?_; rintro e w2 ⟨rfl, hb2⟩; replace hb := nnext hb hb2; clear hb2
    rcases hO : newO s with _ | x
    · have HV : newV s = .tuple #[.string ⟨#[]⟩, .bool false] := by unfold newV; rw [hO]
      have HO := Lib.hid hO
      clear hO
      rw [HV]
      go_wp2_with fail
      refine (sNewName_c s w2 (by omega)).mono ?_; rw [HV]; rintro e w3 ⟨rfl, hb2⟩; replace hb := nnext hb hb2; clear hb2
      have HV := Lib.hid HV
      go_wp2_with fail
      go_loopw [8] (fun i wr => ∃ k : Nat, k ≤ 16 ∧ i = .int .u8 (97 + k : Nat) ∧ (∀ d ∈ letters.take k, d ∈ s) ∧ Below w.heap.size w wr) (fun i _ => 113 - (intOf i).toNat)
      case atStart => exact ⟨0, Nat.zero_le _, rfl, by simp, hb⟩
      case round =>
        obtain ⟨k, hk, rfl, hall, hB⟩ := hrel
        have HA := Lib.hid hall
        clear hall
        by_cases hlt : k < 16
        · obtain ⟨d, hc, hcn⟩ := letters_at k hlt
          have hcn2 : (97 + (k : Int)) = (d.toNat : Int) := by rw [hcn]; simp
          have k1 : (convert 22 9 (.slice (some ⟨wr.heap.size, 0, none⟩) 1 1)).run Try.prog (wr.alloc (.cells #[.int .u8 (97 + (k : Int))] 5)) = .ok (.string ⟨[d].toArray⟩) (wr.alloc (.cells #[.int .u8 (97 + (k : Int))] 5)) := by
            rw [hcn2]
            exact str1 _ d _ (cell_new_at _ _ _ _ rfl)
          have hm : d ∈ s := by
            refine Classical.byContradiction fun hn => ?_
            have := find_at hc HA.out hn
            rw [HO.out] at this
            simp at this
          have HC := Lib.hid hc
          have HM := Lib.hid hm
          clear hcn2 hcn hc hm
          go_wp2_with fail
          refine (has2_c s d _ (by omega)).mono ?_; rw [decide_eq_true HM.out]; rintro e w4 ⟨rfl, rfl⟩
          go_wp2_with fail
          refine ⟨⟨k + 1, by omega, by go_num, fun y hy => ?_, hB.alloc hB.size _⟩, by simp [intOf]; omega⟩
          rw [List.take_add_one, HC.out] at hy
          simp only [Option.toList_some, List.mem_append, List.mem_singleton] at hy
          rcases hy with hy | rfl
          · exact HA.out y hy
          · exact HM.out
        · obtain rfl : k = 16 := by omega
          go_wp2_with fail
          go_ret
          exact ⟨rfl, hB⟩
    · have HV : newV s = .tuple #[.string ⟨#[x]⟩, .bool true] := by unfold newV; rw [hO]
      have HO := Lib.hid hO
      clear hO
      rw [HV]
      go_wp2_with fail
      refine (sNewName_c s w2 (by omega)).mono ?_; rw [HV]; rintro e w3 ⟨rfl, hb2⟩; replace hb := nnext hb hb2; clear hb2
      have HV := Lib.hid HV
      go_wp2_with fail
      go_loopw [8] (fun i wr => ∃ k : Nat, k ≤ 16 ∧ i = .int .u8 (97 + k : Nat) ∧ (∀ d ∈ letters.take k, d ∈ s) ∧ Below w.heap.size w wr) (fun i _ => 113 - (intOf i).toNat)
      case atStart => exact ⟨0, Nat.zero_le _, rfl, by simp, hb⟩
      case round =>
        obtain ⟨k, hk, rfl, hall, hB⟩ := hrel
        have HA := Lib.hid hall
        clear hall
        by_cases hlt : k < 16
        · obtain ⟨d, hc, hcn⟩ := letters_at k hlt
          have hcn2 : (97 + (k : Int)) = (d.toNat : Int) := by rw [hcn]; simp
          have k1 : ∀ w' : World, True → (convert 22 9 (.slice (some ⟨w'.heap.size, 0, none⟩) 1 1)).run Try.prog (w'.alloc (.cells #[.int .u8 (97 + (k : Int))] 5)) = .ok (.string ⟨[d].toArray⟩) (w'.alloc (.cells #[.int .u8 (97 + (k : Int))] 5)) := by
            intro w' _
            rw [hcn2]
            exact str1 _ d _ (cell_new_at _ _ _ _ rfl)
          have k2 := k1 wr trivial
          by_cases hm : d ∈ s
          · have HC := Lib.hid hc
            have HM := Lib.hid hm
            clear hcn2 hcn hc hm k1
            go_wp2_with fail
            refine (has2_c s d _ (by omega)).mono ?_; rw [decide_eq_true HM.out]; rintro e w4 ⟨rfl, rfl⟩
            go_wp2_with fail
            refine ⟨⟨k + 1, by omega, by go_num, fun y hy => ?_, hB.alloc hB.size _⟩, by simp [intOf]; omega⟩
            rw [List.take_add_one, HC.out] at hy
            simp only [Option.toList_some, List.mem_append, List.mem_singleton] at hy
            rcases hy with hy | rfl
            · exact HA.out y hy
            · exact HM.out
          · have hxd : some x = some d := HO.out.symm.trans (find_at hc HA.out hm)
            obtain rfl : x = d := by simpa using hxd
            have k3 := k1 (wr.alloc (.cells #[.int .u8 (97 + (k : Int))] 5)) trivial
            have hz : (wr.alloc (.cells #[.int .u8 (97 + (k : Int))] 5)).heap.size = wr.heap.size + 1 := by simp
            rw [hz] at k3
            clear hz
            have HM := Lib.hid hm
            clear hcn2 hcn hc hm k1 hxd
            go_wp2_with fail
            refine (has2_c s x _ (by omega)).mono ?_; rw [decide_eq_false HM.out]; rintro e w4 ⟨rfl, rfl⟩
            go_wp2_with fail
            go_ret
            exact ⟨rfl, (hB.alloc hB.size _).alloc (by have := hB.size; simp; omega) _⟩
        · obtain rfl : k = 16 := by omega
          exfalso
          have := find_none HA.out
          rw [HO.out] at this
          simp at this
  · have hl2 : 1048576 < (l : Int) := by omega
    go_enter Try.func3, Try.ntmps3
    go_wp2_with fail
    go_ret
    exact ⟨rfl, Below.refl _ _⟩
end Go.Proofs.Ytdedhejpbnfnaaa
