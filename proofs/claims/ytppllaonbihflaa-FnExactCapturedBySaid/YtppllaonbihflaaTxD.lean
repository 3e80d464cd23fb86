/- The specification's l1Text. -/
import Derived.Test.YtppllaonbihflaaTxC
namespace Go.Proofs.Ytppllaonbihflaa
open Go.RowKit
open Ff
set_option linter.unusedVariables false

def textTo (l : List Tm) (k : Nat) : Text := (l.take k).flatMap textN
theorem textTo_succ (l : List Tm) (k : Nat) (s : Tm) (h : l[k]? = some s) : textTo l (k + 1) = textTo l k ++ textN s := by
  unfold textTo
  rw [List.take_add_one, h]
  simp
theorem textTo_len (t : Tm) : ∀ k, (textTo t.kids k).length + 3 ≤ 3 * (before t k).length
  | 0 => by simp [textTo, before]
  | k + 1 => by
    have ih := textTo_len t k
    rcases h : t.kids[k]? with _ | s
    · have e1 : textTo t.kids (k + 1) = textTo t.kids k := by unfold textTo; rw [List.take_add_one, h]; simp
      have e2 : before t (k + 1) = before t k := by unfold before; rw [List.take_add_one, h]; simp
      rw [e1, e2]; exact ih
    · rw [textTo_succ _ k s h, before_succ t k s h, List.length_append, List.length_append]
      have := text_len s
      omega
/-- The sign at a term's head. -/
def headN (t : Tm) : UInt8 := UInt8.ofNat (kindOf t)
def tailN (t : Tm) : Text := if kindOf t = 40 then [41] else []
theorem kind_cases {t : Tm} (h : t.good) (h1 : kindOf t ≠ 110) (h2 : kindOf t ≠ 118) : kindOf t = 92 ∨ kindOf t = 64 ∨ kindOf t = 40 ∨ kindOf t = 61 ∨ kindOf t = 63 ∨ kindOf t = 43 ∨ kindOf t = 45 ∨ kindOf t = 42 := by
  cases t with
  | num n => simp [kindOf] at h1
  | var c => simp [kindOf] at h2
  | op s l r => rcases h.1 with h | h | h <;> subst h <;> simp [kindOf]
  | _ => simp [kindOf]
theorem text_shape {t : Tm} (h : t.good) (h1 : kindOf t ≠ 110) (h2 : kindOf t ≠ 118) : textN t = headN t :: (namesOf t ++ textTo t.kids t.kids.length) ++ tailN t := by
  cases t with
  | num n => simp [kindOf] at h1
  | var c => simp [kindOf] at h2
  | op s l r =>
    have hs : UInt8.ofNat s.toNat = s := by simp
    have ht : s.toNat ≠ 40 := by rcases h.1 with h | h | h <;> subst h <;> decide
    simp [textN, headN, tailN, kindOf, namesOf, textTo, Tm.kids, ht]
  | fn c b => simp [textN, headN, tailN, kindOf, namesOf, textTo, Tm.kids]
  | fix f c b => simp [textN, headN, tailN, kindOf, namesOf, textTo, Tm.kids]
  | app f a => simp [textN, headN, tailN, kindOf, namesOf, textTo, Tm.kids]
  | bind c f a => simp [textN, headN, tailN, kindOf, namesOf, textTo, Tm.kids]
  | sel a b c => simp [textN, headN, tailN, kindOf, namesOf, textTo, Tm.kids]
def STextC (n : Nat) : Prop := ∀ (t : Tm) (B : Nat) (v : Value) (w : World), t.depth ≤ n → n ≤ 1000 → (parts t).length ≤ 1000 → Rep (fun g => g < B) w t v → B ≤ w.heap.size → t.good →
  Calls Try.prog 31 #[v] w fun e w' => e = .returned (.string ⟨(textN t).toArray⟩) ∧ Below w.heap.size w w'
set_option maxRecDepth 100000 in
set_option maxHeartbeats 2000000 in
theorem stext_var (d : UInt8) (B : Nat) (v : Value) (w : World) (hrep : Rep (fun g => g < B) w (.var d) v) :
    Calls Try.prog 31 #[v] w fun e w' => e = .returned (.string ⟨(textN (.var d)).toArray⟩) ∧ Below w.heap.size w w' := by
  cases hrep with
  | mk _ g cap cs hg hc hk =>
  clear hc hk
  unfold tmHead
  show Calls Try.prog 31 #[.agg #[.int .u8 118, .int .i64 0, .string ⟨([d] : Text).toArray⟩, .slice (some ⟨g, 0, none⟩) 0 cap]] w _
  go_enter Try.func31, Try.ntmps31
  go_wp2_with fail
  go_ret
  exact ⟨rfl, (Below.refl _ w).alloc (Nat.le_refl _) _⟩
set_option maxRecDepth 100000 in
set_option maxHeartbeats 2000000 in
theorem stext_num (n : Nat) (hn : n ≤ 99) (B : Nat) (v : Value) (w : World) (hrep : Rep (fun g => g < B) w (.num n) v) :
    Calls Try.prog 31 #[v] w fun e w' => e = .returned (.string ⟨(textN (.num n)).toArray⟩) ∧ Below w.heap.size w w' := by
  cases hrep with
  | mk _ g cap cs hg hc hk =>
  clear hc hk
  unfold tmHead
  have C := fun w' => sdec_c n hn w'
  show Calls Try.prog 31 #[.agg #[.int .u8 110, .int .i64 (n : Int), .string ⟨([] : Text).toArray⟩, .slice (some ⟨g, 0, none⟩) 0 cap]] w _
  go_enter Try.func31, Try.ntmps31
  go_wp2_with (go_at_call 62; refine (C _).mono ?_; clear C; rintro e w2 ⟨rfl, hb2⟩)
  go_ret
  exact ⟨rfl, ((Below.refl _ w).alloc (Nat.le_refl _) _).trans (hb2.mono (by simp))⟩
set_option maxRecDepth 100000 in
set_option maxHeartbeats 4000000 in
theorem stext_rest (n : Nat) (ih : STextC n) (t : Tm) (B : Nat) (v : Value) (w : World) (ht : t.depth ≤ n + 1) (hn : n + 1 ≤ 1000) (hp : (parts t).length ≤ 1000) (hrep : Rep (fun g => g < B) w t v) (hB : B ≤ w.heap.size) (hgd : t.good) (h1 : kindOf t ≠ 110) (h2 : kindOf t ≠ 118) :
    Calls Try.prog 31 #[v] w fun e w' => e = .returned (.string ⟨(textN t).toArray⟩) ∧ Below w.heap.size w w' := by
  rw [text_shape hgd h1 h2]
  cases hrep with
  | mk _ g cap cs hg hc hk =>
  have hkl : t.kids.length ≤ 3 := by cases t <;> simp [Tm.kids]
  have HC := Lib.hid hc
  have HK := Lib.hid hk
  clear hc hk
  have hnl := names_len t
  have hkc := kind_cases hgd h1 h2
  have hhd : (kindOf t : Int) = ((headN t).toNat : Int) := by
    unfold headN
    rw [UInt8.toNat_ofNat']
    omega
  have htl : tailN t = if (kindOf t : Int) = 40 then [41] else [] := by
    unfold tailN
    by_cases e : kindOf t = 40
    · rw [if_pos e, if_pos (by omega)]
    · rw [if_neg e, if_neg (by omega)]
  rw [htl]
  have k1 := fun W => strZ hhd W
  unfold tmHead
  have hkd : (kindOf t : Int) ≠ 110 ∧ (kindOf t : Int) ≠ 118 ∧ (kindOf t : Int) ≠ 70 ∧ (kindOf t : Int) ≠ 46 ∧ (kindOf t : Int) ≠ 123 := by omega
  clear hkc hhd htl
  generalize (kindOf t : Int) = kd at k1 hkd ⊢
  obtain ⟨m1, m2, m3, m4, m5⟩ := hkd
  have b1 : (kd == 110) = false := by simp [m1]
  have b2 : (kd == 118) = false := by simp [m2]
  have b3 : (kd == 70) = false := by simp [m3]
  have b4 : (kd == 46) = false := by simp [m4]
  have b5 : (kd == 123) = false := by simp [m5]
  have k2 := k1 (w.alloc (.cells #[.int .u8 kd, .int .i64 (numOf t : Int), .string ⟨(namesOf t).toArray⟩, .slice (some ⟨g, 0, none⟩) t.kids.length cap] 35))
  rw [World.size_alloc] at k2
  clear k1
  have z1 : ¬ 9223372036854775807 < 1 + (namesOf t).length := by omega
  have hstart : (⟨#[headN t]⟩ ++ ⟨(namesOf t).toArray⟩ : ByteArray) = ⟨(headN t :: (namesOf t ++ textTo t.kids 0)).toArray⟩ := by
    apply ba_ext
    simp [ByteArray.data_append, textTo]
  go_enter Try.func31, Try.ntmps31
  go_wp2_with fail
  obtain ⟨W2, hW2⟩ : ∃ W2, (w.alloc (.cells #[.int .u8 kd, .int .i64 (numOf t : Int), .string ⟨(namesOf t).toArray⟩, .slice (some ⟨g, 0, none⟩) t.kids.length cap] 35)).alloc (.cells #[.int .u8 kd] 5) = W2 := ⟨_, rfl⟩
  have c0 : W2.cell? ⟨w.heap.size, 0, none⟩ = some (.int .u8 kd) := by
    rw [← hW2]
    have hb := (Below.refl (w.heap.size + 1) (w.alloc (.cells #[.int .u8 kd, .int .i64 (numOf t : Int), .string ⟨(namesOf t).toArray⟩, .slice (some ⟨g, 0, none⟩) t.kids.length cap] 35))).alloc (by simp) (.cells #[.int .u8 kd] 5)
    exact (hb.cell (p := ⟨w.heap.size, 0, none⟩) (by simp)).trans (cell_new w [.int .u8 kd, .int .i64 (numOf t : Int), .string ⟨(namesOf t).toArray⟩, .slice (some ⟨g, 0, none⟩) t.kids.length cap] 35 0)
  have qB : Below w.heap.size w W2 := by rw [← hW2]; exact ((Below.refl _ w).alloc (Nat.le_refl _) _).alloc (by simp) _
  have qs : w.heap.size + 2 = W2.heap.size := by rw [← hW2]; simp
  rw [hW2]
  clear hW2 k2
  go_loopw [3, 34] (fun o i wr => ∃ k : Nat, k ≤ t.kids.length ∧ i = .int .i64 k ∧ o = .string ⟨(headN t :: (namesOf t ++ textTo t.kids k)).toArray⟩ ∧ Below W2.heap.size W2 wr) (fun _ i _ => t.kids.length - (intOf i).toNat)
  case atStart => exact ⟨0, Nat.zero_le _, rfl, by rw [← hstart], Below.refl _ _⟩
  case round =>
    obtain ⟨k, hkl2, rfl, rfl, hBl⟩ := hrel
    have htl := textTo_len t k
    have hbf := before_le t k
    have hwB := qB.trans (hBl.mono qB.size)
    by_cases hlt : k < t.kids.length
    · obtain ⟨s, hs⟩ : ∃ s, t.kids[k]? = some s := ⟨_, List.getElem?_eq_getElem hlt⟩
      have hr := HK.out k s hs
      obtain ⟨x, y, st, aa, l, cc, he⟩ := hr.junk
      have hcells : ∀ j, j < 4 → wr.cell? ⟨g, 4 * k + j, none⟩ = some (cs (4 * k + j)) := fun j hj => (hwB.cell (p := ⟨g, 4 * k + j, none⟩) (by show g < w.heap.size; omega)).trans (HC.out (4 * k + j) (by omega))
      have hr2 : Rep (fun g => g < B) w s (.agg #[.int .u8 x, .int .i64 y, .string st, .slice aa l cc]) := by rw [← he]; exact hr
      unfold four at he
      simp only [Value.agg.injEq, Array.mk.injEq, List.cons.injEq, and_true] at he
      obtain ⟨i0, i1, i2, i3⟩ := he
      have e0 : wr.cell? ⟨g, k * 4, none⟩ = some (.int .u8 x) := by rw [← i0]; have := hcells 0 (by omega); rwa [Nat.mul_comm k 4]
      have e1 : wr.cell? ⟨g, k * 4 + 1, none⟩ = some (.int .i64 y) := by rw [← i1]; have := hcells 1 (by omega); rwa [Nat.mul_comm k 4]
      have e2 : wr.cell? ⟨g, k * 4 + 2, none⟩ = some (.string st) := by rw [← i2]; have := hcells 2 (by omega); rwa [Nat.mul_comm k 4]
      have e3 : wr.cell? ⟨g, k * 4 + 3, none⟩ = some (.slice aa l cc) := by rw [← i3]; have := hcells 3 (by omega); rwa [Nat.mul_comm k 4]
      have hmem := List.mem_of_getElem? hs
      have hps := parts_kid_le hmem
      have hsl := text_len s
      have hsucc := textTo_succ t.kids k s hs
      have HS := Lib.hid hsucc
      have hsz := hBl.size
      have hw2 : Below W2.heap.size W2 (wr.alloc (.cells #[.int .u8 x, .int .i64 y, .string st, .slice aa l cc] 35)) := hBl.alloc hsz _
      have C := ih s B (.agg #[.int .u8 x, .int .i64 y, .string st, .slice aa l cc]) (wr.alloc (.cells #[.int .u8 x, .int .i64 y, .string st, .slice aa l cc] 35)) (by have := kid_depth hmem; omega) (by omega) (by omega) (hr2.keep (fun g' hg' => (qB.trans (hw2.mono qB.size)).block g' (by omega)) (fun g' hg' => hg')) (by simp; omega) (Tm.kid_good hgd hmem)
      have hround : (⟨(headN t :: (namesOf t ++ textTo t.kids k)).toArray⟩ ++ ⟨(textN s).toArray⟩ : ByteArray) = ⟨(headN t :: (namesOf t ++ textTo t.kids (k + 1))).toArray⟩ := by
        rw [hsucc, str_app2]
        simp
      have HR := Lib.hid hround
      have z3 : ¬ 9223372036854775807 < (headN t :: (namesOf t ++ textTo t.kids k)).length + (textN s).length := by simp; omega
      generalize headN t :: (namesOf t ++ textTo t.kids k) = pref at z3 HR ⊢
      clear hcells i0 i1 i2 i3 hs hr hr2 HC HK hmem hsucc hround hstart
      go_wp2_with (go_at_call 31; refine C.mono ?_; clear C; rintro e w2 ⟨rfl, hb2⟩)
      refine ⟨⟨k + 1, by omega, by go_num, by rw [← HR.out], hw2.trans (hb2.mono (by simp; omega))⟩, by simp [intOf]; omega⟩
    · obtain rfl : k = t.kids.length := by omega
      have c1 := (hBl.cell (p := ⟨w.heap.size, 0, none⟩) (by simp; omega)).trans c0
      have z4 : ¬ 9223372036854775807 < (headN t :: (namesOf t ++ textTo t.kids t.kids.length)).length + 1 := by simp; omega
      clear hstart
      rcases Classical.em (kd = 40) with rfl | h40
      · go_wp2_with fail
        go_ret
        exact ⟨congrArg (fun s => Ending.returned (Value.string s)) (by apply ba_ext; simp [ByteArray.data_append]), hwB⟩
      · go_wp2_with fail
        go_ret
        exact ⟨congrArg (fun s => Ending.returned (Value.string s)) (by apply ba_ext; simp), hwB⟩
theorem stext_c : ∀ n, STextC n
  | 0 => fun t _ _ _ ht => absurd ht (by have := t.depth_pos; omega)
  | n + 1 => by
    intro t B v w ht hn hp hrep hB hgd
    cases t with
    | num m => exact stext_num m hgd B v w hrep
    | var d => exact stext_var d B v w hrep
    | op s l r => exact stext_rest n (stext_c n) _ B v w ht hn hp hrep hB hgd (by rcases hgd.1 with h | h | h <;> subst h <;> simp [kindOf]) (by rcases hgd.1 with h | h | h <;> subst h <;> simp [kindOf])
    | _ => exact stext_rest n (stext_c n) _ B v w ht hn hp hrep hB hgd (by simp [kindOf]) (by simp [kindOf])
end Go.Proofs.Ytppllaonbihflaa
