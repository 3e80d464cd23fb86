/- FreeOf, IsClosed: the model's and the program's. -/
import Derived.Test.YtjeaadgfjnmfcaaFrI
import Derived.Test.YtjeaadgfjnmfcaaOrd
import Derived.Test.YtjeaadgfjnmfcaaSize
namespace Go.Proofs.Ytjeaadgfjnmfcaa
open Go.RowKit
open Ff
set_option linter.unusedVariables false

/-- A text and whether there is one, of a term that is read. -/
def txtP (f : Tm → Text) (o : Option Tm) : Value := match o with
  | some t => .tuple #[.string ⟨(f t).toArray⟩, .bool true]
  | none => .tuple #[.string ⟨#[]⟩, .bool false]
theorem txtP_shape (f : Tm → Text) (o : Option Tm) : ∃ (s : ByteArray) (b : Bool), txtP f o = .tuple #[.string s, .bool b] := by
  cases o <;> exact ⟨_, _, rfl⟩

set_option maxRecDepth 100000 in
set_option maxHeartbeats 1000000 in
theorem sFreeOf_c (s : Text) (w : World) (hl : s.length ≤ 9223372036854775807) :
    Calls Try.prog 19 #[.string ⟨s.toArray⟩] w fun e w' => e = .returned (txtP sfree (readS s)) ∧ Below w.heap.size w w' := by
  have C := sread_c s w hl
  go_enter Try.func19, Try.ntmps19
  go_wp2_with fail
  refine C.mono ?_
  clear C
  rcases hr : readS s with _ | t
  · rintro e w1 ⟨rfl, hb1⟩
    have HR := Lib.hid hr
    clear hr
    unfold zeroTm
    go_wp2_with fail
    go_ret2
    exact ⟨by rw [HR.out]; rfl, hb1.alloc hb1.size _⟩
  · rintro e w1 ⟨v, rfl, hb1, hrep⟩
    have hd := readS_depth hr
    have hgd := readS_good hr
    have HR := Lib.hid hr
    clear hr
    obtain ⟨x, y, st, aa, l, cc, rfl⟩ := hrep.junk
    have D := free_c 1000 t w1.heap.size _ (w1.alloc (.cells #[.int .u8 x, .int .i64 y, .string st, .slice aa l cc] 49)) (by omega) (by omega) (hrep.keep (fun g' hg' => Below.heap_alloc _ _ _ hg'.2) (fun g' hg' => hg'.2)) (by simp) hgd
    clear hrep
    go_wp2_with (go_at_call 47; refine D.mono ?_; clear D; rintro e w2 ⟨rfl, hb2⟩)
    go_ret2
    exact ⟨by rw [HR.out]; rfl, (hb1.alloc hb1.size _).trans (hb2.mono (by have := hb1.size; simp; omega))⟩
set_option maxRecDepth 100000 in
set_option maxHeartbeats 1000000 in
theorem iFreeOf_c (s : Text) (w : World) (hl : s.length ≤ 9223372036854775807) :
    Calls Try.prog 11 #[.string ⟨s.toArray⟩] w fun e w' => e = .returned (txtP sfree (readT s)) ∧ Below w.heap.size w w' := by
  have C := read_c s w hl
  go_enter Try.func11, Try.ntmps11
  go_wp2_with fail
  refine C.mono ?_
  clear C
  rcases hr : readT s with _ | t
  · rintro e w1 ⟨rfl, hb1⟩
    have HR := Lib.hid hr
    clear hr
    go_wp2_with fail
    go_ret2
    exact ⟨by rw [HR.out]; rfl, hb1⟩
  · rintro e w1 ⟨rfl, hb1⟩
    have hs := readS_eq s ▸ hr
    have D := freeIn_c 1000 t w1 (by have := readS_depth hs; omega) (by omega) (by have := readS_parts hs; omega) (readS_good hs)
    have hf := free_names (readS_good hs)
    rw [enc_ty t] at D ⊢
    have HR := Lib.hid hr
    have HF := Lib.hid hf
    clear hr hs hf
    go_wp2_with (first
      | (go_at_call 41; refine D.mono ?_; clear D; rintro e w2 ⟨b, k, rfl, hbw, hk, hT, hb2⟩)
      | (go_at_call 42; refine (inOrder_c b k (cntF t) w2 hT).mono ?_; rintro e w3 ⟨rfl, hb3⟩))
    go_ret2
    exact ⟨by rw [HR.out, txtP, HF.out]; rfl, hb1.trans ((hb2.trans (hb3.mono hb2.size)).mono hb1.size)⟩
def closedB (o : Option Tm) : Bool := match o with | some t => decide (sfree t = []) | none => false
theorem str_nil (t : Text) : ((⟨t.toArray⟩ : ByteArray) == ⟨#[]⟩) = decide (t = []) := by
  cases t with
  | nil => rfl
  | cons c r => rfl
set_option maxRecDepth 100000 in
set_option maxHeartbeats 1000000 in
theorem iIsClosed_c (s : Text) (w : World) (hl : s.length ≤ 9223372036854775807) :
    Calls Try.prog 21 #[.string ⟨s.toArray⟩] w fun e w' => e = .returned (.bool (closedB (readT s))) ∧ Below w.heap.size w w' := by
  have C := read_c s w hl
  go_enter Try.func21, Try.ntmps21
  go_wp2_with fail
  refine C.mono ?_
  clear C
  rcases hr : readT s with _ | t
  · rintro e w1 ⟨rfl, hb1⟩
    have HR := Lib.hid hr
    clear hr
    go_wp2_with fail
    go_ret
    exact ⟨by rw [HR.out]; rfl, hb1⟩
  · rintro e w1 ⟨rfl, hb1⟩
    have hs := readS_eq s ▸ hr
    have D := freeIn_c 1000 t w1 (by have := readS_depth hs; omega) (by omega) (by have := readS_parts hs; omega) (readS_good hs)
    have hf := free_nil (readS_good hs)
    have hp := readS_parts hs
    rw [enc_ty t] at D ⊢
    have HR := Lib.hid hr
    have HF := Lib.hid hf
    clear hr hs hf
    go_wp2_with (go_at_call 41; refine D.mono ?_; clear D; rintro e w2 ⟨b, k, rfl, hbw, hk, hT, hb2⟩; obtain ⟨n, hn0, hnk, hlen⟩ := hT.len; have H0 := Lib.hid hn0; clear hn0)
    go_ret
    refine ⟨?_, hb1.trans (hb2.mono hb1.size)⟩
    rw [HR.out, closedB]
    congr 2
    have hn0 := H0.out
    rw [← HF.out] at hn0
    by_cases e : n = 0
    · subst e
      simp [hn0.1 rfl]
    · have e2 : ¬ sfree t = [] := fun h => e (hn0.2 h)
      simp [e2]
      omega
end Go.Proofs.Ytjeaadgfjnmfcaa
