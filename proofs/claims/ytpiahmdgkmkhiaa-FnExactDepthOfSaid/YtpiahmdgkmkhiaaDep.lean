/- DepthOf: the model's and the program's. -/
import Derived.Test.YtpiahmdgkmkhiaaValid
import Derived.Test.YtpiahmdgkmkhiaaTmC
namespace Go.Proofs.Ytpiahmdgkmkhiaa
open Go.RowKit
open Ff
set_option linter.unusedVariables false

/-- The model's depth, of a term that lies below B. -/
def SDepthC (n : Nat) : Prop := ∀ (t : Tm) (B : Nat) (v : Value) (w : World), t.depth ≤ n → n ≤ 1000 → Rep (fun g => g < B) w t v → B ≤ w.heap.size →
  Calls Try.prog 40 #[v] w fun e w' => e = .returned (.int .i64 (t.depth : Int)) ∧ Below w.heap.size w w'

set_option maxRecDepth 100000 in
set_option maxHeartbeats 2000000 in
theorem sdepth_step (n : Nat) (ih : SDepthC n) : SDepthC (n + 1) := by
  intro t B v w ht hn hrep hB
  cases hrep with
  | mk _ g cap c hg hc hk =>
  have hkl : t.kids.length ≤ 3 := by cases t <;> simp [Tm.kids]
  have HD := Lib.hid (md_kids t)
  have hm1 : md t.kids + 1 ≤ 1000 := by have := HD.out; omega
  have HC := Lib.hid hc
  have HK := Lib.hid hk
  clear hc hk
  unfold tmHead
  go_enter Try.func40, Try.ntmps40
  go_wp2_with fail
  obtain ⟨W1, hW1⟩ : ∃ W1, w.alloc (.cells #[.int .u8 (kindOf t : Int), .int .i64 (numOf t : Int), .string ⟨(namesOf t).toArray⟩, .slice (some ⟨g, 0, none⟩) t.kids.length cap] 35) = W1 := ⟨_, rfl⟩
  have hb0 : Below w.heap.size w W1 := by rw [← hW1]; exact (Below.refl _ w).alloc (Nat.le_refl _) _
  rw [hW1]
  clear hW1
  go_loopw [3, 9] (fun d i wr => ∃ k : Nat, k ≤ t.kids.length ∧ i = .int .i64 k ∧ d = .int .i64 (md (t.kids.take k) : Nat) ∧ Below w.heap.size w wr) (fun _ i _ => t.kids.length - (intOf i).toNat)
  case atStart => exact ⟨0, Nat.zero_le _, rfl, rfl, hb0⟩
  case round =>
    obtain ⟨k, hkl2, rfl, rfl, hBl⟩ := hrel
    by_cases hlt : k < t.kids.length
    · obtain ⟨s, hs⟩ : ∃ s, t.kids[k]? = some s := ⟨_, List.getElem?_eq_getElem hlt⟩
      have hr := HK.out k s hs
      obtain ⟨x, y, st, aa, l, cc, he⟩ := hr.junk
      have hcells : ∀ j, j < 4 → wr.cell? ⟨g, 4 * k + j, none⟩ = some (c (4 * k + j)) := fun j hj => (hBl.cell (p := ⟨g, 4 * k + j, none⟩) (by show g < w.heap.size; omega)).trans (HC.out (4 * k + j) (by omega))
      have hr2 : Rep (fun g => g < B) w s (.agg #[.int .u8 x, .int .i64 y, .string st, .slice aa l cc]) := by rw [← he]; exact hr
      unfold four at he
      simp only [Value.agg.injEq, Array.mk.injEq, List.cons.injEq, and_true] at he
      obtain ⟨i0, i1, i2, i3⟩ := he
      have e0 : wr.cell? ⟨g, k * 4, none⟩ = some (.int .u8 x) := by rw [← i0]; have := hcells 0 (by omega); rwa [Nat.mul_comm k 4]
      have e1 : wr.cell? ⟨g, k * 4 + 1, none⟩ = some (.int .i64 y) := by rw [← i1]; have := hcells 1 (by omega); rwa [Nat.mul_comm k 4]
      have e2 : wr.cell? ⟨g, k * 4 + 2, none⟩ = some (.string st) := by rw [← i2]; have := hcells 2 (by omega); rwa [Nat.mul_comm k 4]
      have e3 : wr.cell? ⟨g, k * 4 + 3, none⟩ = some (.slice aa l cc) := by rw [← i3]; have := hcells 3 (by omega); rwa [Nat.mul_comm k 4]
      have HS := Lib.hid hs
      have hsz := hBl.size
      have hw2 : Below w.heap.size w (wr.alloc (.cells #[.int .u8 x, .int .i64 y, .string st, .slice aa l cc] 35)) := hBl.alloc hsz _
      have C := ih s B (.agg #[.int .u8 x, .int .i64 y, .string st, .slice aa l cc]) (wr.alloc (.cells #[.int .u8 x, .int .i64 y, .string st, .slice aa l cc] 35)) (by have := kid_depth (List.mem_of_getElem? hs); omega) (by omega) (hr2.keep (fun g' hg' => hw2.block g' (by omega)) (fun g' hg' => hg')) (by simp; omega)
      clear hcells i0 i1 i2 i3 hs hr hr2 HC HK
      go_wp2_with (go_at_call 40; refine C.mono ?_; rintro e w2 ⟨rfl, hb2⟩)
      refine ⟨⟨k + 1, by omega, by go_num, ?_, hw2.trans (hb2.mono (by simp; omega))⟩, by simp [intOf]; omega⟩
      rw [md_take _ _ _ HS.out]
      exact max_int _ _
    · have hk2 : k = t.kids.length := by omega
      have ht : t.kids.take k = t.kids := List.take_of_length_le (by omega)
      rw [ht]
      have HT := Lib.hid hk2
      clear hk2 ht
      go_wp2_with fail
      go_ret
      rw [HD.out]
      exact ⟨by simp, hBl⟩
theorem sdepth_c : ∀ n, SDepthC n
  | 0 => fun t _ _ _ ht _ => absurd ht (by have := t.depth_pos; omega)
  | n + 1 => sdepth_step n (sdepth_c n)

/-- What a text's depth is told as. -/
def depthI (o : Option Tm) : Int := match o with | some t => t.depth | none => -1
set_option maxHeartbeats 1000000 in
theorem sDepthOf_c (s : Text) (w : World) (hl : s.length ≤ 9223372036854775807) :
    Calls Try.prog 17 #[.string ⟨s.toArray⟩] w fun e w' => e = .returned (.int .i64 (depthI (readS s))) ∧ Below w.heap.size w w' := by
  have C := sread_c s w hl
  go_enter Try.func17, Try.ntmps17
  go_wp2_with fail
  refine C.mono ?_
  clear C
  rcases hr : readS s with _ | t
  · rintro e w1 ⟨rfl, hb1⟩
    have HR := Lib.hid hr
    clear hr
    unfold zeroTm
    go_wp2_with fail
    go_ret
    exact ⟨by rw [HR.out]; rfl, hb1.alloc hb1.size _⟩
  · rintro e w1 ⟨v, rfl, hb1, hrep⟩
    have hd := readS_depth hr
    have HR := Lib.hid hr
    clear hr
    obtain ⟨x, y, st, aa, l, cc, rfl⟩ := hrep.junk
    have D := sdepth_c 1000 t w1.heap.size _ (w1.alloc (.cells #[.int .u8 x, .int .i64 y, .string st, .slice aa l cc] 35)) (by omega) (Nat.le_refl _) (hrep.keep (fun g' hg' => Below.heap_alloc _ _ _ hg'.2) (fun g' hg' => hg'.2)) (by simp)
    go_wp2_with (go_at_call 40; refine D.mono ?_; rintro e w2 ⟨rfl, hb2⟩)
    go_ret
    exact ⟨by rw [HR.out]; rfl, (hb1.alloc hb1.size _).trans (hb2.mono (by have := hb1.size; simp; omega))⟩
set_option maxHeartbeats 1000000 in
theorem iDepthOf_c (s : Text) (w : World) (hl : s.length ≤ 9223372036854775807) :
    Calls Try.prog 18 #[.string ⟨s.toArray⟩] w fun e w' => e = .returned (.int .i64 (depthI (readT s))) ∧ Below w.heap.size w w' := by
  have C := read_c s w hl
  go_enter Try.func18, Try.ntmps18
  go_wp2_with fail
  refine C.mono ?_
  clear C
  rcases hr : readT s with _ | t
  · rintro e w1 ⟨rfl, hb1⟩
    have HR := Lib.hid hr
    clear hr
    go_wp2_with fail
    go_ret
    exact ⟨by rw [HR.out]; rfl, hb1⟩
  · rintro e w1 ⟨rfl, hb1⟩
    have hd := readS_depth (readS_eq s ▸ hr)
    have D := depth_c 1000 t (by omega) (Nat.le_refl _) w1
    rw [enc_ty t] at D ⊢
    have HR := Lib.hid hr
    clear hr
    go_wp2_with (go_at_call 41; refine D.mono ?_; rintro e w2 ⟨rfl, hb2⟩)
    go_ret
    exact ⟨by rw [HR.out]; rfl, hb1.trans (hb2.mono hb1.size)⟩

set_option maxHeartbeats 1000000 in
theorem law_depth (s : Text) (w : World) (hl : s.length ≤ 9223372036854775807) :
    Calls Try.prog 5 #[.string ⟨s.toArray⟩] w fun e w' => e = .returned (.bool true) ∧ Below w.heap.size w w' := by
  by_cases h : s.length ≤ 1048576
  · have h2 : (s.length : Int) ≤ 1048576 := by omega
    go_enter Try.func5, Try.ntmps5
    go_wp2_with fail
    refine (sDepthOf_c s _ hl).mono ?_
    rintro e w1 ⟨rfl, hb1⟩
    go_wp2_with fail
    refine (iDepthOf_c s _ hl).mono ?_
    rintro e w2 ⟨rfl, hb2⟩
    rw [readS_eq]
    generalize depthI (readT s) = B
    go_wp2_with fail
    go_ret
    exact ⟨rfl, hb1.trans (hb2.mono hb1.size)⟩
  · have h2 : 1048576 < (s.length : Int) := by omega
    go_enter Try.func5, Try.ntmps5
    go_wp2_with fail
    go_ret
    exact ⟨rfl, Below.refl _ _⟩
end Go.Proofs.Ytpiahmdgkmkhiaa
