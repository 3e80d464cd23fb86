/- CountFree: the model's and the program's. -/
import Derived.Test.YtgkjgdobbegkaaaCtA
import Derived.Test.YtgkjgdobbegkaaaFrL
namespace Go.Proofs.Ytgkjgdobbegkaaa
open Go.RowKit
open Ff
set_option linter.unusedVariables false

/-- A name, alone. -/
def nameOf : Text → Option UInt8
  | [c] => if isNam c = true then some c else none
  | _ => none
theorem name_some {s : Text} {c : UInt8} (h : nameOf s = some c) : s = [c] ∧ isNam c = true := by
  unfold nameOf at h
  split at h
  · split at h
    · rename_i h2; injection h with h; subst h; exact ⟨rfl, h2⟩
    · cases h
  · cases h
theorem name_one (c : UInt8) : (nameOf [c]).isSome = isNam c := by
  simp only [nameOf]
  cases isNam c <;> simp
theorem name_long {s : Text} (h : s.length ≠ 1) : (nameOf s).isSome = false := by
  unfold nameOf
  split
  · simp at h
  · rfl
set_option maxHeartbeats 1000000 in
theorem iName_c (s : Text) (w : World) (hl : s.length ≤ 9223372036854775807) :
    Calls Try.prog 28 #[.string ⟨s.toArray⟩] w fun e w' => e = .returned (.bool (nameOf s).isSome) ∧ w = w' := by
  by_cases h : s.length = 1
  · obtain ⟨c, rfl⟩ := List.length_eq_one_iff.1 h
    rw [name_one]
    go_enter Try.func28, Try.ntmps28
    go_wp2_with (go_at_call 44; refine (isName_c c _).mono ?_; rintro e w' ⟨rfl, rfl⟩)
    go_ret
    exact ⟨rfl, rfl⟩
  · have h2 : ¬ ((s.length : Int) = 1) := by omega
    rw [name_long h]
    clear h
    go_enter Try.func28, Try.ntmps28
    go_wp2_with fail
    go_ret
    exact ⟨rfl, rfl⟩
set_option maxHeartbeats 1000000 in
theorem sName_c (s : Text) (w : World) (hl : s.length ≤ 9223372036854775807) :
    Calls Try.prog 31 #[.string ⟨s.toArray⟩] w fun e w' => e = .returned (.bool (nameOf s).isSome) ∧ w = w' := by
  by_cases h : s.length = 1
  · obtain ⟨c, rfl⟩ := List.length_eq_one_iff.1 h
    rw [name_one]
    go_enter Try.func31, Try.ntmps31
    go_wp2_with (go_at_call 48; refine (l1Letter_c c _).mono ?_; rintro e w' ⟨rfl, rfl⟩)
    go_ret
    exact ⟨rfl, rfl⟩
  · have h2 : ¬ ((s.length : Int) = 1) := by omega
    rw [name_long h]
    clear h
    go_enter Try.func31, Try.ntmps31
    go_wp2_with fail
    go_ret
    exact ⟨rfl, rfl⟩
/-- What the two texts are told as. -/
def cntI (o : Option Tm) (m : Option UInt8) : Int := match o, m with
  | some t, some c => (cntF t c : Int)
  | _, _ => -1
theorem cntI_none (m : Option UInt8) : cntI none m = -1 := by cases m <;> rfl
theorem cntI_none2 (o : Option Tm) : cntI o none = -1 := by cases o <;> rfl
set_option maxRecDepth 100000 in
set_option maxHeartbeats 1000000 in
theorem sCountFree_c (s n : Text) (w : World) (hl : s.length ≤ 9223372036854775807) (hl2 : n.length ≤ 9223372036854775807) :
    Calls Try.prog 9 #[.string ⟨s.toArray⟩, .string ⟨n.toArray⟩] w fun e w' => e = .returned (.int .i64 (cntI (readS s) (nameOf n))) ∧ Below w.heap.size w w' := by
  have C := sread_c s w hl
  have N := fun w' => sName_c n w' hl2
  go_enter Try.func9, Try.ntmps9
  go_wp2_with fail
  refine C.mono ?_
  clear C
  rcases hr : readS s with _ | t
  · rintro e w1 ⟨rfl, hb1⟩
    have HR := Lib.hid hr
    clear hr N
    unfold zeroTm
    go_wp2_with fail
    go_ret
    exact ⟨by rw [HR.out, cntI_none]; rfl, hb1.alloc hb1.size _⟩
  · rintro e w1 ⟨v, rfl, hb1, hrep⟩
    have hd := readS_depth hr
    have hgd := readS_good hr
    have hp := readS_parts hr
    have HR := Lib.hid hr
    clear hr
    obtain ⟨x, y, st, aa, l, cc, rfl⟩ := hrep.junk
    rcases hn : nameOf n with _ | c
    · simp only [hn, Option.isSome_none] at N
      have HN := Lib.hid hn
      clear hn hrep
      go_wp2_with (go_at_call 31; refine (N _).mono ?_; clear N; rintro e w2 ⟨rfl, rfl⟩)
      go_ret
      exact ⟨by rw [HN.out, cntI_none2]; rfl, hb1.alloc hb1.size _⟩
    · simp only [hn, Option.isSome_some] at N
      have HN := Lib.hid hn
      obtain ⟨rfl, _⟩ := name_some hn
      clear hn
      have D := count_c 1000 t c w1.heap.size _ (w1.alloc (.cells #[.int .u8 x, .int .i64 y, .string st, .slice aa l cc] 46)) (by omega) (by omega) (by omega) (hrep.keep (fun g' hg' => Below.heap_alloc _ _ _ hg'.2) (fun g' hg' => hg'.2)) (by simp) hgd
      clear hrep
      go_wp2_with (first
        | (go_at_call 31; refine (N _).mono ?_; clear N; rintro e w2 ⟨rfl, rfl⟩)
        | (go_at_call 32; refine D.mono ?_; clear D; rintro e w2 ⟨rfl, hb2⟩))
      go_ret
      exact ⟨by rw [HR.out, HN.out]; rfl, (hb1.alloc hb1.size _).trans (hb2.mono (by have := hb1.size; simp; omega))⟩
set_option maxRecDepth 100000 in
set_option maxHeartbeats 1000000 in
theorem iCountFree_c (s n : Text) (w : World) (hl : s.length ≤ 9223372036854775807) (hl2 : n.length ≤ 9223372036854775807) :
    Calls Try.prog 8 #[.string ⟨s.toArray⟩, .string ⟨n.toArray⟩] w fun e w' => e = .returned (.int .i64 (cntI (readT s) (nameOf n))) ∧ Below w.heap.size w w' := by
  have C := read_c s w hl
  have N := fun w' => iName_c n w' hl2
  go_enter Try.func8, Try.ntmps8
  go_wp2_with fail
  refine C.mono ?_
  clear C
  rcases hr : readT s with _ | t
  · rintro e w1 ⟨rfl, hb1⟩
    have HR := Lib.hid hr
    clear hr N
    go_wp2_with fail
    go_ret
    exact ⟨by rw [HR.out, cntI_none]; rfl, hb1⟩
  · rintro e w1 ⟨rfl, hb1⟩
    have hs := readS_eq s ▸ hr
    have D := freeIn_c 1000 t w1.drew (by have := readS_depth hs; omega) (by omega) (by have := readS_parts hs; omega) (readS_good hs)
    rw [enc_ty t] at D ⊢
    have HR := Lib.hid hr
    clear hr hs
    rcases hn : nameOf n with _ | c
    · simp only [hn, Option.isSome_none] at N
      have HN := Lib.hid hn
      clear hn D
      go_wp2_with (go_at_call 28; refine (N _).mono ?_; clear N; rintro e w2 ⟨rfl, rfl⟩)
      go_ret
      exact ⟨by rw [HN.out, cntI_none2]; rfl, hb1⟩
    · simp only [hn, Option.isSome_some] at N
      have HN := Lib.hid hn
      obtain ⟨rfl, _⟩ := name_some hn
      clear hn
      go_wp2_with (go_at_call 28; refine (N _).mono ?_; clear N; rintro e w2 ⟨rfl, rfl⟩)
      have s0 := (Below.refl w1.heap.size w1).drew
      go_region_held3 (fun w' => Below w1.heap.size w1 w')
        (first | assumption | go_keep)
        (first | (go_at_call 29; refine D.mono ?_; clear D; rintro e w2 ⟨b, k, rfl, hbw, hk, hT, hb2⟩; have s1 := s0.trans hb2; have hlook : (Instr.lookup 42 (.map (some b)) (.int .u8 (((⟨([c] : Text).toArray⟩ : ByteArray)[0]'(by simp [ByteArray.size])).toNat : Int)) false).run Try.prog w2 = .ok (.int .i64 (cntF t c : Int)) w2 := hT.look c))
      all_goals go_wp2_with fail
      all_goals go_ret
      all_goals exact ⟨by rw [HR.out, HN.out]; rfl, hb1.trans (s1.mono hb1.size)⟩
end Go.Proofs.Ytgkjgdobbegkaaa
