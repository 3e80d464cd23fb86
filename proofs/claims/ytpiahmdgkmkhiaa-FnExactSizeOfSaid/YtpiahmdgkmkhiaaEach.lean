/- The model's l1Each: all parts of a term, each ahead of those within it. -/
import Derived.Test.YtpiahmdgkmkhiaaDep
import Derived.Maps.AppendAt
namespace Go.Proofs.Ytpiahmdgkmkhiaa
open Go.RowKit
open Ff
set_option linter.unusedVariables false

/-- All parts, each ahead of those within it. -/
def parts : Tm → List Tm
  | .num n => [.num n]
  | .var c => [.var c]
  | .fn c b => .fn c b :: parts b
  | .fix f c b => .fix f c b :: parts b
  | .app f a => .app f a :: (parts f ++ parts a)
  | .bind c v b => .bind c v b :: (parts v ++ parts b)
  | .op s l r => .op s l r :: (parts l ++ parts r)
  | .sel a b c => .sel a b c :: (parts a ++ (parts b ++ parts c))
theorem parts_kids (t : Tm) : parts t = t :: t.kids.flatMap parts := by cases t <;> simp [parts, Tm.kids]
/-- The parts of the first k kids, behind the term itself. -/
def before (t : Tm) (k : Nat) : List Tm := t :: (t.kids.take k).flatMap parts
theorem before_succ (t : Tm) (k : Nat) (s : Tm) (h : t.kids[k]? = some s) : before t (k + 1) = before t k ++ parts s := by
  unfold before
  rw [List.take_add_one, h]
  simp
theorem before_all (t : Tm) : before t t.kids.length = parts t := by rw [parts_kids]; simp [before]
theorem before_le (t : Tm) (k : Nat) : (before t k).length ≤ (parts t).length := by
  have e : parts t = before t k ++ (t.kids.drop k).flatMap parts := by
    rw [parts_kids]
    unfold before
    rw [List.cons_append, ← List.flatMap_append, List.take_append_drop]
  rw [e]
  simp
/-- What the call comes to: a row of the call's own, each part of which stands for a part of the term. -/
def EachPost (t : Tm) (B : Nat) (w : World) (e : Ending) (w' : World) : Prop :=
  ∃ v xs, e = .returned v ∧ Below w.heap.size w w' ∧ w'.ownsRow w.heap.size 35 4 v (parts t).length xs ∧ v ≠ .slice none 0 0 ∧
    ∀ i p, (parts t)[i]? = some p → Rep (fun g => g < B) w' p (four (fun j => (xs[j]?).getD undef) i)
def EachC (n : Nat) : Prop := ∀ (t : Tm) (B : Nat) (v : Value) (w : World), t.depth ≤ n → (parts t).length ≤ 1000 → Rep (fun g => g < B) w t v → B ≤ w.heap.size →
  Calls Try.prog 38 #[v] w (EachPost t B w)
theorem parts_kid_le {t s : Tm} (h : s ∈ t.kids) : (parts s).length ≤ (parts t).length := by
  rw [parts_kids t]
  obtain ⟨a, b, e⟩ := List.append_of_mem h
  rw [e]
  simp
  omega
/-- The cells of terms are one cell each. -/
theorem cells_one {xs : List Value} {l : List Tm} (hl : xs.length = l.length * 4) (h : ∀ i p, l[i]? = some p → Junk (four (fun j => (xs[j]?).getD undef) i)) : ∀ u ∈ xs, u.oneCell' = true := by
  intro u hu
  obtain ⟨j, hj, rfl⟩ := List.getElem_of_mem hu
  have hi : j / 4 < l.length := by omega
  obtain ⟨k, n, st, a, ll, c, e⟩ := h (j / 4) _ (List.getElem?_eq_getElem hi)
  simp only [four, Value.agg.injEq, Array.mk.injEq, List.cons.injEq, and_true] at e
  obtain ⟨e0, e1, e2, e3⟩ := e
  have hx : xs[j]? = some xs[j] := List.getElem?_eq_getElem hj
  have h4 : j = 4 * (j / 4) ∨ j = 4 * (j / 4) + 1 ∨ j = 4 * (j / 4) + 2 ∨ j = 4 * (j / 4) + 3 := by omega
  have key : ∀ v : Value, (xs[j]?).getD undef = v → xs[j] = v := fun v hv => by rw [hx] at hv; exact hv
  rcases h4 with h4 | h4 | h4 | h4
  · rw [← h4] at e0; rw [key _ e0]; rfl
  · rw [← h4] at e1; rw [key _ e1]; rfl
  · rw [← h4] at e2; rw [key _ e2]; rfl
  · rw [← h4] at e3; rw [key _ e3]; rfl
theorem own_shape {W : World} {base : Nat} {e : TypeId} {size : Nat} {v : Value} {n : Nat} {xs : List Value} (h : W.ownsRow base e size v n xs) (hv : v ≠ .slice none 0 0) : ∃ g cap, v = .slice (some ⟨g, 0, none⟩) n cap := by
  obtain ⟨_, ⟨h1, _⟩ | ⟨g, cap, cur, h1, _⟩⟩ := h
  · exact absurd h1 hv
  · exact ⟨g, cap, h1⟩
/-- What holds at a round's head. -/
def EachAt (t : Tm) (B : Nat) (w : World) (k : Nat) (v : Value) (wr : World) : Prop :=
  ∃ xs : List Value, Below w.heap.size w wr ∧ wr.ownsRow w.heap.size 35 4 v (before t k).length xs ∧ v ≠ .slice none 0 0 ∧ ∀ i p, (before t k)[i]? = some p → Rep (fun g => g < B) wr p (four (fun j => (xs[j]?).getD undef) i)
theorem each_start {t : Tm} {B g cap : Nat} {w : World} (h : Rep (fun g => g < B) w t (tmHead t g cap)) (hB : B ≤ w.heap.size) (o : Obj) :
    EachAt t B w 0 (.slice (some ⟨w.heap.size + 1, 0, none⟩) 1 1) ((w.alloc o).alloc (.cells #[.int .u8 (kindOf t : Int), .int .i64 (numOf t : Int), .string ⟨(namesOf t).toArray⟩, .slice (some ⟨g, 0, none⟩) t.kids.length cap] 35)) := by
  have hb := below_two w o (.cells #[.int .u8 (kindOf t : Int), .int .i64 (numOf t : Int), .string ⟨(namesOf t).toArray⟩, .slice (some ⟨g, 0, none⟩) t.kids.length cap] 35)
  have ho := World.ownsRow_lit (base := w.heap.size) (e := 35) (size := 4) (w.alloc o) #[.int .u8 (kindOf t : Int), .int .i64 (numOf t : Int), .string ⟨(namesOf t).toArray⟩, .slice (some ⟨g, 0, none⟩) t.kids.length cap] 1 (by simp) (by simp [maxLen]) (by simp)
  simp only [World.size_alloc] at ho
  refine ⟨_, hb, ho, by simp, fun i p hi => ?_⟩
  have h0 : i = 0 ∧ p = t := by
    cases i with
    | zero => simp [before] at hi; exact ⟨rfl, hi.symm⟩
    | succ i => simp [before] at hi
  obtain ⟨rfl, rfl⟩ := h0
  exact h.keep (fun g' hg' => hb.block g' (by omega)) (fun g' hg' => hg')
theorem each_round {t s : Tm} {B k : Nat} {w wr w2 w3 : World} {v' : Value} {xs xs2 : List Value} (hs : t.kids[k]? = some s) (hB : B ≤ w.heap.size) (hbr : Below w.heap.size w wr) (hrep : ∀ i p, (before t k)[i]? = some p → Rep (fun g => g < B) wr p (four (fun j => (xs[j]?).getD undef) i)) (hlen : xs.length = (before t k).length * 4)
    (hb2 : Below w.heap.size w w2) (hrep2 : ∀ i p, (parts s)[i]? = some p → Rep (fun g => g < B) w2 p (four (fun j => (xs2[j]?).getD undef) i))
    (hown' : w3.ownsRow w.heap.size 35 4 v' ((before t k).length + (parts s).length) (xs ++ xs2)) (hb3 : Below w.heap.size w w3) (hv' : v' ≠ .slice none 0 0) : EachAt t B w (k + 1) v' w3 := by
  have e := before_succ t k s hs
  refine ⟨_, hb3, by rw [e, List.length_append]; exact hown', hv', fun i p hi => ?_⟩
  rw [e] at hi
  by_cases hlt : i < (before t k).length
  · rw [List.getElem?_append_left hlt] at hi
    have e4 : four (fun j => ((xs ++ xs2)[j]?).getD undef) i = four (fun j => (xs[j]?).getD undef) i := by
      unfold four
      simp only [List.getElem?_append_left (show 4 * i < xs.length by omega), List.getElem?_append_left (show 4 * i + 1 < xs.length by omega), List.getElem?_append_left (show 4 * i + 2 < xs.length by omega), List.getElem?_append_left (show 4 * i + 3 < xs.length by omega)]
    rw [e4]
    exact (hrep i p hi).keep (fun g' hg' => (hb3.block g' (by omega)).trans (hbr.block g' (by omega)).symm) (fun g' hg' => hg')
  · obtain ⟨d, rfl⟩ : ∃ d, i = (before t k).length + d := ⟨i - (before t k).length, by omega⟩
    rw [List.getElem?_append_right (by omega)] at hi
    simp only [Nat.add_sub_cancel_left] at hi
    have e4 : four (fun j => ((xs ++ xs2)[j]?).getD undef) ((before t k).length + d) = four (fun j => (xs2[j]?).getD undef) d := by
      unfold four
      have q : ∀ r, 4 * ((before t k).length + d) + r = xs.length + (4 * d + r) := by intro r; omega
      have q0 := q 0
      simp only [Nat.add_zero] at q0
      simp only [q0, Nat.add_assoc, List.getElem?_append_right (Nat.le_add_right _ _), Nat.add_sub_cancel_left]
    rw [e4]
    exact (hrep2 d p hi).keep (fun g' hg' => (hb3.block g' (by omega)).trans (hb2.block g' (by omega)).symm) (fun g' hg' => hg')

set_option maxRecDepth 100000 in
set_option maxHeartbeats 2000000 in
theorem each_step (n : Nat) (ih : EachC n) : EachC (n + 1) := by
  intro t B v w ht hn hrep hB
  have hrep0 := hrep
  cases hrep with
  | mk _ g cap c hg hc hk =>
  have hkl : t.kids.length ≤ 3 := by cases t <;> simp [Tm.kids]
  obtain ⟨i0, hi, hz0, hz1, hz2⟩ := info_parts Try.infoTerm
  have HC := Lib.hid hc
  have HK := Lib.hid hk
  clear hc hk
  unfold tmHead
  go_enter Try.func38, Try.ntmps38
  go_wp2_with fail
  have hst := each_start hrep0 hB (.cells #[.int .u8 (kindOf t : Int), .int .i64 (numOf t : Int), .string ⟨(namesOf t).toArray⟩, .slice (some ⟨g, 0, none⟩) t.kids.length cap] 35)
  go_loopw [3, 11] (fun v i wr => ∃ k : Nat, k ≤ t.kids.length ∧ i = .int .i64 k ∧ EachAt t B w k v wr) (fun _ i _ => t.kids.length - (intOf i).toNat)
  case atStart => exact ⟨0, Nat.zero_le _, rfl, hst⟩
  case round =>
    clear hst
    obtain ⟨k, hkl2, rfl, hat⟩ := hrel
    by_cases hlt : k < t.kids.length
    · obtain ⟨s, hs⟩ : ∃ s, t.kids[k]? = some s := ⟨_, List.getElem?_eq_getElem hlt⟩
      obtain ⟨xs, hBl, hown, hv, hreps⟩ := hat
      have hr := HK.out k s hs
      obtain ⟨x, y, st, aa, l, cc, he⟩ := hr.junk
      have hcells : ∀ j, j < 4 → wr.cell? ⟨g, 4 * k + j, none⟩ = some (c (4 * k + j)) := fun j hj => (hBl.cell (p := ⟨g, 4 * k + j, none⟩) (by show g < w.heap.size; omega)).trans (HC.out (4 * k + j) (by omega))
      have hr2 : Rep (fun g => g < B) w s (.agg #[.int .u8 x, .int .i64 y, .string st, .slice aa l cc]) := by rw [← he]; exact hr
      unfold four at he
      simp only [Value.agg.injEq, Array.mk.injEq, List.cons.injEq, and_true] at he
      obtain ⟨i0', i1, i2, i3⟩ := he
      have e0 : wr.cell? ⟨g, k * 4, none⟩ = some (.int .u8 x) := by rw [← i0']; have := hcells 0 (by omega); rwa [Nat.mul_comm k 4]
      have e1 : wr.cell? ⟨g, k * 4 + 1, none⟩ = some (.int .i64 y) := by rw [← i1]; have := hcells 1 (by omega); rwa [Nat.mul_comm k 4]
      have e2 : wr.cell? ⟨g, k * 4 + 2, none⟩ = some (.string st) := by rw [← i2]; have := hcells 2 (by omega); rwa [Nat.mul_comm k 4]
      have e3 : wr.cell? ⟨g, k * 4 + 3, none⟩ = some (.slice aa l cc) := by rw [← i3]; have := hcells 3 (by omega); rwa [Nat.mul_comm k 4]
      have HS := Lib.hid hs
      have hsz := hBl.size
      have hmem := List.mem_of_getElem? hs
      have hpl := parts_kid_le hmem
      have hbl := before_le t (k + 1)
      have hbs := before_succ t k s hs
      have hbl2 : (before t k).length + (parts s).length ≤ 1000 := by rw [hbs, List.length_append] at hbl; omega
      have hw2 : Below w.heap.size w (wr.alloc (.cells #[.int .u8 x, .int .i64 y, .string st, .slice aa l cc] 35)) := hBl.alloc hsz _
      have C := ih s B (.agg #[.int .u8 x, .int .i64 y, .string st, .slice aa l cc]) (wr.alloc (.cells #[.int .u8 x, .int .i64 y, .string st, .slice aa l cc] 35)) (by have := kid_depth hmem; omega) (by omega) (hr2.keep (fun g' hg' => hw2.block g' (by omega)) (fun g' hg' => hg')) (by simp; omega)
      have HO := Lib.hid hown
      have HV := Lib.hid hv
      have HR := Lib.hid hreps
      clear hcells i0' i1 i2 i3 hs hr hr2 HC HK hbl hbs hpl hmem hown hv hreps hrep0
      go_wp2_with fail
      refine C.mono ?_
      clear C
      rintro e w2 ⟨v2, xs2, rfl, hb2, hown2, hv2, hrep2⟩
      obtain ⟨g2, cap2, rfl⟩ := own_shape hown2 hv2
      have hb2w : Below w.heap.size w w2 := hw2.trans (hb2.mono (by simp; omega))
      have hgb : (wr.alloc (.cells #[.int .u8 x, .int .i64 y, .string st, .slice aa l cc] 35)).grownBy w2 none := ⟨hb2.os, hb2.tape, hb2.output, hb2.size, fun j hj _ => hb2.block j hj⟩
      obtain ⟨gv, hgv, hgv1, hgv2⟩ := own_ne_nil HO.out HV.out
      have hown1 := (HO.out.alloc (.cells #[.int .u8 x, .int .i64 y, .string st, .slice aa l cc] 35)).kept hgb (.inr (by rw [hgv]; simp))
      have q1 := hown2.cells (g := g2) rfl
      have q2 := cells_one hown2.1 (fun i p hi => (hrep2 i p hi).junk)
      have q3 : (before t k).length + (parts s).length ≤ maxLen := by unfold maxLen; omega
      have q4 : ((before t k).length + (parts s).length) * 56 ≤ 140737488355328 := by omega
      have q5 : w.heap.size ≤ w2.heap.size := hb2w.size
      have q6 := hown2.1
      have HR2 := Lib.hid hrep2
      have HO2 := Lib.hid hown2
      have H1 := Lib.hid hown1
      have Q1 := Lib.hid q1
      have Q2 := Lib.hid q2
      have Q6 := Lib.hid q6
      have HGV := Lib.hid hgv
      clear hrep2 hown2 hown1 q1 q2 q6 hgv hv2
      go_wp2_with (at_builtin; refine wpList_append_own_at _ rfl _ _ 33 rfl w.heap.size 35 i0 _ 4 56 Try.underlying33 hi hz0 hz1 hz2 rfl (by decide) _ _ _ rfl H1.out ⟨g2, 0, none⟩ (parts s).length cap2 xs2 rfl Q6.out Q1.out Q2.out q3 q4 q5 ?_; intro v' w3 hown' hgrow hnil hwhere; have HN := Lib.hid hnil; have HW := Lib.hid hwhere; clear hnil hwhere)
      refine ⟨⟨k + 1, by omega, by go_num, each_round HS.out hB hBl HR.out HO.out.1 hb2w HR2.out hown' (hb2w.grown (row := some gv) (by have hg3 := hgrow; have hgv3 := HGV.out; first | exact hgv3 ▸ hg3 | (rw [hgv3] at hg3; exact hg3)) q5 (fun j hj => by injection hj with hj; omega)) (fun e => HV.out (HN.out.1 e).1)⟩, by simp [intOf]; omega⟩
    · obtain rfl : k = t.kids.length := by omega
      obtain ⟨xs, hBl, hown, hv, hreps⟩ := hat
      rw [before_all] at hown hreps
      have HO := Lib.hid hown
      have HR := Lib.hid hreps
      clear hown hreps
      go_wp2_with fail
      go_ret
      exact ⟨_, xs, rfl, hBl, HO.out, hv, HR.out⟩
theorem each_c : ∀ n, EachC n
  | 0 => fun t _ _ _ ht _ => absurd ht (by have := t.depth_pos; omega)
  | n + 1 => each_step n (each_c n)
end Go.Proofs.Ytpiahmdgkmkhiaa
