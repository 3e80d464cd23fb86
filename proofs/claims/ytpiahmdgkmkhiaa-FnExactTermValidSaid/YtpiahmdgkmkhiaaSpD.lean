/- The model's l1Long and l1Read: what a text is as a term, or none. -/
import Derived.Test.YtpiahmdgkmkhiaaSpC
import Derived.Test.YtpiahmdgkmkhiaaTmB
import Derived.Test.YtpiahmdgkmkhiaaRead
namespace Go.Proofs.Ytpiahmdgkmkhiaa
open Go.RowKit
open Ff
set_option linter.unusedVariables false

theorem readS_eq (s : Text) : readS s = readT s := by
  unfold readS readT
  split
  · rcases h1 : parse 24 s with _ | ⟨t, r⟩
    · rcases h2 : parse (s.length + 1) s with _ | ⟨t, r⟩
      · rfl
      · by_cases hd : t.depth ≤ 24
        · rw [(parse_any _ _ _ _ h2).2 24 hd] at h1; cases h1
        · simp [hd]
    · have hd := parse_depth _ _ _ _ h1
      obtain ⟨hl, ha⟩ := parse_any _ _ _ _ h1
      rw [ha (s.length + 1) (by omega)]
      simp [hd]
  · rfl

theorem Fz.keepNe {h b : Nat} {W W' : World} (f : Fz h W) (hg : W.grownBy W' (some b)) (hb : b ≠ h) : Fz h W' := by
  have s := f.sz
  have s1 := hg.size
  have e1 : W'.heap[h]? = W.heap[h]? := hg.block h (by omega) (by simp; omega)
  have c1 : ∀ j, W'.cell? ⟨h, j, none⟩ = W.cell? ⟨h, j, none⟩ := fun j => World.cell?_of_block (a := ⟨h, j, none⟩) e1
  have f1 : ∀ j, W'.frozen? ⟨h, j, none⟩ = W.frozen? ⟨h, j, none⟩ := fun j => World.frozen?_of_block (a := ⟨h, j, none⟩) e1
  exact ⟨(c1 _).trans f.p0, (c1 _).trans f.p1, (c1 _).trans f.p2, (c1 _).trans f.p3, (f1 _).trans f.q0, (f1 _).trans f.q1, (f1 _).trans f.q2, (f1 _).trans f.q3, by omega⟩
theorem Fz.keepBelow {h B : Nat} {W W' : World} (f : Fz h W) (hg : Below B W W') (hb : h < B) : Fz h W' := by
  have s := f.sz
  have s1 := hg.size
  have c1 : ∀ j, W'.cell? ⟨h, j, none⟩ = W.cell? ⟨h, j, none⟩ := fun j => hg.cell (p := ⟨h, j, none⟩) hb
  have f1 : ∀ j, W'.frozen? ⟨h, j, none⟩ = W.frozen? ⟨h, j, none⟩ := fun j => hg.frozen (p := ⟨h, j, none⟩) hb
  exact ⟨(c1 _).trans f.p0, (c1 _).trans f.p1, (c1 _).trans f.p2, (c1 _).trans f.p3, (f1 _).trans f.q0, (f1 _).trans f.q1, (f1 _).trans f.q2, (f1 _).trans f.q3, by omega⟩
/-- The zero value of the model's terms. -/
def zeroTm : Value := .agg #[.int .u8 0, .int .i64 0, .string ⟨#[]⟩, .slice none 0 0]
/-- What the reading of a text comes to. -/
def LongPost (w : World) : Option Tm → Ending → World → Prop
  | some t, e, w' => ∃ v, e = .returned (.tuple #[v, .bool true]) ∧ Below w.heap.size w w' ∧ Rep (New w w') w' t v
  | none, e, w' => e = .returned (.tuple #[zeroTm, .bool false]) ∧ Below w.heap.size w w'

set_option maxRecDepth 100000 in
set_option maxHeartbeats 4000000 in
theorem long_c2 (s : Text) (w : World) (hl : s.length ≤ 120) :
    Calls Try.prog 55 #[.string ⟨s.toArray⟩] w (LongPost w ((parse 24 s).bind fun x => if x.2 = [] then some x.1 else none)) := by
  have S0 : SR (w.heap.size + 1) s ((0 : Nat) : Int) false 0 ((w.alloc (.cells #[.int .u8 0, .int .i64 0, .string ⟨#[]⟩, .slice none 0 0] 35)).alloc (.cells #[.string ⟨s.toArray⟩, .int .i64 0, .bool false, .int .i64 0, .bool false, .bool false] 81)) := by
    constructor <;> simp [go_sem]
  have G0 : Good (w.heap.size + 1) s s (24 - ((24 : Nat) : Int)) ((w.alloc (.cells #[.int .u8 0, .int .i64 0, .string ⟨#[]⟩, .slice none 0 0] 35)).alloc (.cells #[.string ⟨s.toArray⟩, .int .i64 0, .bool false, .int .i64 0, .bool false, .bool false] 81)) := ⟨0, Nat.zero_le _, rfl, S0⟩
  have C := sterm_c 24 (Nat.le_refl _) (w.heap.size + 1) s s _ G0 (by omega)
  clear G0 S0
  go_enter Try.func55, Try.ntmps55
  go_wp2_with fail
  refine C.mono ?_
  clear C
  rcases hp : parse 24 s with _ | ⟨t, r⟩
  · rintro e w1 ⟨v, rfl, hg, ⟨a, d, ha, hsr⟩, k, n, st, aa, l, c, rfl⟩
    have Z := (((Fz_new w).keepNe (b := w.heap.size + 1) (grownBy_alloc (World.grownBy.refl _ _) _) (by omega)).keepNe hg (by omega)).keepNe (b := w.heap.size + 1) (grownBy_alloc (World.grownBy.refl _ _) (.cells #[.int .u8 k, .int .i64 n, .string st, .slice aa l c] 35)) (by omega)
    have A := hsr.alloc (.cells #[.int .u8 k, .int .i64 n, .string st, .slice aa l c] 35)
    have hgs := hg.size
    have hb1 : Below w.heap.size w w1 := (below_two w _ _).trans (below_of_grown hg (by omega) (by simp; omega))
    obtain ⟨p0, p1, p2, p3, q0, q1, q2, q3, sz⟩ := id Z
    obtain ⟨c0, c1, c2, c3, c4, c5, f1, f2, f3⟩ := id A
    have E := Lib.hid (show ((parse 24 s).bind fun x => if x.2 = [] then some x.1 else none) = none by rw [hp]; rfl)
    clear hp
    go_wp2_with fail
    rw [E.out]
    refine bodyPost_ret (v := .tuple #[zeroTm, .bool false]) (by simp [results, Try.results55, go_sem, zeroTm, p0, p1, p2, p3]) rfl ?_
    exact ⟨rfl, ((((hb1.alloc (by have := hb1.size; omega) _).setCell (p := ⟨w.heap.size, 0, none⟩) (Nat.le_refl _) _).setCell (p := ⟨w.heap.size, 1, none⟩) (Nat.le_refl _) _).setCell (p := ⟨w.heap.size, 2, none⟩) (Nat.le_refl _) _).setCell (p := ⟨w.heap.size, 3, none⟩) (Nat.le_refl _) _⟩
  · rintro e w1 ⟨v, rfl, hg, ⟨a, ha, hd, hsr⟩, hrep⟩
    obtain ⟨k, n, st, aa, l, c, rfl⟩ := hrep.junk
    have Z := (((Fz_new w).keepNe (b := w.heap.size + 1) (grownBy_alloc (World.grownBy.refl _ _) _) (by omega)).keepNe hg (by omega)).keepNe (b := w.heap.size + 1) (grownBy_alloc (World.grownBy.refl _ _) (.cells #[.int .u8 k, .int .i64 n, .string st, .slice aa l c] 35)) (by omega)
    have A := hsr.alloc (.cells #[.int .u8 k, .int .i64 n, .string st, .slice aa l c] 35)
    have hgs := hg.size
    have hb1 : Below w.heap.size w w1 := (below_two w _ _).trans (below_of_grown hg (by omega) (by simp; omega))
    obtain ⟨p0, p1, p2, p3, q0, q1, q2, q3, sz⟩ := id Z
    obtain ⟨c0, c1, c2, c3, c4, c5, f1, f2, f3⟩ := id A
    have hbf := fun x0 x1 x2 x3 => ((((hb1.alloc (by have := hb1.size; omega) (.cells #[.int .u8 k, .int .i64 n, .string st, .slice aa l c] 35)).setCell (p := ⟨w.heap.size, 0, none⟩) (Nat.le_refl _) x0).setCell (p := ⟨w.heap.size, 1, none⟩) (Nat.le_refl _) x1).setCell (p := ⟨w.heap.size, 2, none⟩) (Nat.le_refl _) x2).setCell (p := ⟨w.heap.size, 3, none⟩) (Nat.le_refl _) x3
    cases r with
    | cons x r =>
      have hq : ((a : Int) != (s.length : Int)) = true := by
        rw [bne_iff_ne]
        intro h9
        have : a = s.length := by omega
        rw [this] at hd
        simp at hd
      have hq2 : (a != s.length) = true := by rw [bne_iff_ne]; intro h9; rw [h9] at hd; simp at hd
      have HD := Lib.hid hd
      have E := Lib.hid (show ((parse 24 s).bind fun x => if x.2 = [] then some x.1 else none) = none by rw [hp]; rfl)
      clear hd hp
      go_wp2_with fail
      rw [E.out]
      refine bodyPost_ret (v := .tuple #[zeroTm, .bool false]) (by simp [results, Try.results55, go_sem, zeroTm, p0, p1, p2, p3]) rfl ?_
      exact ⟨rfl, hbf _ _ _ _⟩
    | nil =>
      have he : a = s.length := by
        have := congrArg List.length hd
        simp at this
        omega
      have hq : ((a : Int) != (s.length : Int)) = false := by rw [he]; simp
      have hq2 : (a != s.length) = false := by rw [he]; simp
      have HD := Lib.hid hd
      have E := Lib.hid (show ((parse 24 s).bind fun x => if x.2 = [] then some x.1 else none) = some t by rw [hp]; rfl)
      have HE := Lib.hid he
      clear hd hp he
      go_wp2_with fail
      rw [E.out]
      refine bodyPost_ret (v := .tuple #[.agg #[.int .u8 k, .int .i64 n, .string st, .slice aa l c], .bool true]) (by simp [results, Try.results55, go_sem, p0, p1, p2, p3]) rfl ?_
      refine ⟨_, rfl, hbf _ _ _ _, ?_⟩
      refine hrep.keep (fun g' hg' => ?_) (fun g' hg' => ⟨by have := hg'.1; simp at this; omega, ?_⟩)
      · have h1 := hg'.1
        have h2 := hg'.2
        simp at h1
        exact (Wf_heap _ _ _ _ _ _ _ (by omega)).trans (Below.heap_alloc _ _ _ h2)
      · have h2 := hg'.2
        simp [World.setCell]
        omega

set_option maxRecDepth 100000 in
set_option maxHeartbeats 4000000 in
theorem sread_c (s : Text) (w : World) (hl : s.length ≤ 9223372036854775807) :
    Calls Try.prog 36 #[.string ⟨s.toArray⟩] w (LongPost w (readS s)) := by
  by_cases h : s.length ≤ 120
  · have C := long_c2 s (w.alloc (.cells #[.int .u8 0, .int .i64 0, .string ⟨#[]⟩, .slice none 0 0] 35)) h
    have e : readS s = (parse 24 s).bind fun x => if x.2 = [] then some x.1 else none := by simp only [readS, if_pos h]
    rw [← e] at C
    go_enter Try.func36, Try.ntmps36
    go_wp2_with fail
    refine C.mono ?_
    have Z := Fz_new w
    have hb0 : Below w.heap.size w (w.alloc (.cells #[.int .u8 0, .int .i64 0, .string ⟨#[]⟩, .slice none 0 0] 35)) := (Below.refl _ w).alloc (Nat.le_refl _) _
    clear C e
    rcases hr : readS s with _ | t
    · rintro e w1 ⟨rfl, hb1⟩
      unfold zeroTm
      have HR := Lib.hid hr
      clear hr
      have hb2 := hb0.trans (hb1.mono (by simp))
      obtain ⟨p0, p1, p2, p3, q0, q1, q2, q3, sz⟩ := Z.keepBelow hb1 (by simp)
      go_wp2_with fail
      refine bodyPost_ret (v := .tuple #[zeroTm, .bool false]) (by simp [results, Try.results36, go_sem, zeroTm, p0, p1, p2, p3]) rfl ?_
      rw [HR.out]
      exact ⟨rfl, (((hb2.setCell (p := ⟨w.heap.size, 0, none⟩) (Nat.le_refl _) _).setCell (p := ⟨w.heap.size, 1, none⟩) (Nat.le_refl _) _).setCell (p := ⟨w.heap.size, 2, none⟩) (Nat.le_refl _) _).setCell (p := ⟨w.heap.size, 3, none⟩) (Nat.le_refl _) _⟩
    · rintro e w1 ⟨v, rfl, hb1, hrep⟩
      obtain ⟨k, n, st, aa, l, c, rfl⟩ := hrep.junk
      have HR := Lib.hid hr
      clear hr
      have hb2 := hb0.trans (hb1.mono (by simp))
      obtain ⟨p0, p1, p2, p3, q0, q1, q2, q3, sz⟩ := Z.keepBelow hb1 (by simp)
      go_wp2_with fail
      refine bodyPost_ret (v := .tuple #[.agg #[.int .u8 k, .int .i64 n, .string st, .slice aa l c], .bool true]) (by simp [results, Try.results36, go_sem, p0, p1, p2, p3]) rfl ?_
      rw [HR.out]
      refine ⟨_, rfl, (((hb2.setCell (p := ⟨w.heap.size, 0, none⟩) (Nat.le_refl _) _).setCell (p := ⟨w.heap.size, 1, none⟩) (Nat.le_refl _) _).setCell (p := ⟨w.heap.size, 2, none⟩) (Nat.le_refl _) _).setCell (p := ⟨w.heap.size, 3, none⟩) (Nat.le_refl _) _, ?_⟩
      refine hrep.keep (fun g' hg' => ?_) (fun g' hg' => ⟨by have := hg'.1; simp at this; omega, ?_⟩)
      · have h1 := hg'.1
        simp at h1
        exact Wf_heap _ _ _ _ _ _ _ (by omega)
      · have h2 := hg'.2
        simp [World.setCell]
        omega
  · have e : readS s = none := by simp only [readS, if_neg h]
    rw [e]
    have hlt : 120 < (s.length : Int) := by omega
    go_enter Try.func36, Try.ntmps36
    go_wp2_with fail
    refine bodyPost_ret (v := .tuple #[zeroTm, .bool false]) (by simp [results, Try.results36, go_sem, zeroTm]) rfl ?_
    exact ⟨rfl, (Below.refl _ w).alloc (Nat.le_refl _) _⟩
end Go.Proofs.Ytpiahmdgkmkhiaa
