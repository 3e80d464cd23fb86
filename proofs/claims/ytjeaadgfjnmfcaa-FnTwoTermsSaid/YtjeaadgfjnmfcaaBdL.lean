/- BoundOf: the model's and the program's. -/
import Derived.Test.YtjeaadgfjnmfcaaBdI
import Derived.Test.YtjeaadgfjnmfcaaBnd
import Derived.Test.YtjeaadgfjnmfcaaFrL
namespace Go.Proofs.Ytjeaadgfjnmfcaa
open Go.RowKit
open Ff
set_option linter.unusedVariables false

theorem readS_parts' {s : Text} {t : Tm} (h : readS s = some t) : (parts t).length ≤ 120 := readS_parts h
theorem parts_good {t s : Tm} (h : t.good) (hs : s ∈ parts t) : s.good := by
  induction t with
  | num n => simp only [parts, List.mem_singleton] at hs; subst hs; exact h
  | var c => simp only [parts, List.mem_singleton] at hs; subst hs; exact h
  | fn c b ih => simp only [parts, List.mem_cons] at hs; rcases hs with rfl | hs; exact h; exact ih h.2 hs
  | fix f c b ih => simp only [parts, List.mem_cons] at hs; rcases hs with rfl | hs; exact h; exact ih h.2.2.2 hs
  | app f a h1 h2 => simp only [parts, List.mem_cons, List.mem_append] at hs; rcases hs with rfl | hs | hs; exact h; exact h1 h.1 hs; exact h2 h.2 hs
  | bind c f a h1 h2 => simp only [parts, List.mem_cons, List.mem_append] at hs; rcases hs with rfl | hs | hs; exact h; exact h1 h.2.1 hs; exact h2 h.2.2 hs
  | op c f a h1 h2 => simp only [parts, List.mem_cons, List.mem_append] at hs; rcases hs with rfl | hs | hs; exact h; exact h1 h.2.1 hs; exact h2 h.2.2 hs
  | sel a b c h1 h2 h3 => simp only [parts, List.mem_cons, List.mem_append] at hs; rcases hs with rfl | hs | hs | hs; exact h; exact h1 h.1 hs; exact h2 h.2.1 hs; exact h3 h.2.2 hs

set_option maxRecDepth 100000 in
set_option maxHeartbeats 1000000 in
theorem sBoundOf_c (s : Text) (w : World) (hl : s.length ≤ 9223372036854775807) :
    Calls Try.prog 20 #[.string ⟨s.toArray⟩] w fun e w' => e = .returned (txtP sbound (readS s)) ∧ Below w.heap.size w w' := by
  have C := sread_c s w hl
  go_enter Try.func20, Try.ntmps20
  go_wp2_with fail
  refine C.mono ?_
  clear C
  rcases hr : readS s with _ | t
  · rintro e w1 ⟨rfl, hb1⟩
    have HR := Lib.hid hr
    clear hr
    unfold zeroTm
    go_wp2_with fail
    go_ret2
    exact ⟨by rw [HR.out]; rfl, hb1.alloc hb1.size _⟩
  · rintro e w1 ⟨v, rfl, hb1, hrep⟩
    have hd := readS_depth hr
    have hgd := readS_good hr
    have HR := Lib.hid hr
    clear hr
    obtain ⟨x, y, st, aa, l, cc, rfl⟩ := hrep.junk
    have D := bound_c t w1.heap.size _ (w1.alloc (.cells #[.int .u8 x, .int .i64 y, .string st, .slice aa l cc] 49)) (by omega) (by have := readS_parts' HR.out; omega) (hrep.keep (fun g' hg' => Below.heap_alloc _ _ _ hg'.2) (fun g' hg' => hg'.2)) (by simp)
    clear hrep
    go_wp2_with (go_at_call 48; refine D.mono ?_; clear D; rintro e w2 ⟨rfl, hb2⟩)
    go_ret2
    exact ⟨by rw [HR.out]; rfl, (hb1.alloc hb1.size _).trans (hb2.mono (by have := hb1.size; simp; omega))⟩
set_option maxRecDepth 100000 in
set_option maxHeartbeats 1000000 in
theorem iBoundOf_c (s : Text) (w : World) (hl : s.length ≤ 9223372036854775807) :
    Calls Try.prog 18 #[.string ⟨s.toArray⟩] w fun e w' => e = .returned (txtP sbound (readT s)) ∧ Below w.heap.size w w' := by
  have C := read_c s w hl
  go_enter Try.func18, Try.ntmps18
  go_wp2_with fail
  refine C.mono ?_
  clear C
  rcases hr : readT s with _ | t
  · rintro e w1 ⟨rfl, hb1⟩
    have HR := Lib.hid hr
    clear hr
    go_wp2_with fail
    go_ret2
    exact ⟨by rw [HR.out]; rfl, hb1⟩
  · rintro e w1 ⟨rfl, hb1⟩
    have hs := readS_eq s ▸ hr
    have D := boundIn_c t (fun s h => parts_good (readS_good hs) h) (by have := readS_parts hs; omega) w1
    have hf := bound_names t
    rw [enc_ty t] at D ⊢
    have HR := Lib.hid hr
    have HF := Lib.hid hf
    clear hr hs hf
    go_wp2_with (first
      | (go_at_call 46; refine D.mono ?_; clear D; rintro e w2 ⟨b, k, rfl, hbw, hk, hT, hb2⟩)
      | (go_at_call 42; refine (inOrder_c b k (cntB (parts t)) w2 hT).mono ?_; rintro e w3 ⟨rfl, hb3⟩))
    go_ret2
    exact ⟨by rw [HR.out, txtP, HF.out]; rfl, hb1.trans ((hb2.trans (hb3.mono hb2.size)).mono hb1.size)⟩
end Go.Proofs.Ytjeaadgfjnmfcaa
