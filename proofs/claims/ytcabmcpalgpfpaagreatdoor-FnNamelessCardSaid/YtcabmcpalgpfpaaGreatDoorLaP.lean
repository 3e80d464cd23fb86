import Derived.Test.YtcabmcpalgpfpaaGreatDoorLaA
import Derived.Test.YtcabmcpalgpfpaaGreatDoorPuW
import Derived.Test.YtcabmcpalgpfpaaGreatDoorMPe
import Derived.Test.YtcabmcpalgpfpaaGreatDoorPtC
/- Laws over drawn terms: DrawPut; FnPut. -/
namespace Go.Proofs.YtcabmcpalgpfpaaGreatDoor
open Go.RowKit
open Ff
set_option linter.unusedVariables false
attribute [local irreducible] Calls

set_option maxHeartbeats 2000000 in
theorem some_c {b : Nat} {a : Option Addr} {l c p : Nat} {w0 w : World} (hD : DG b a l c w0 p w) (hp : p ≤ 10000) :
    Calls Tryz.prog 14 #[.pointer (some ⟨b, 0, none⟩)] w fun e w' => ∃ (s : Text) (p' : Nat), e = .returned (.string ⟨s.toArray⟩) ∧ s.length ≤ 5000 ∧ p' ≤ p + 4001 ∧ DG b a l c w0 p' w' := by
  go_enter Tryz.func14, Tryz.ntmps14
  go_wp2_with fail
  refine (pick_g hD _ (by omega) (by omega) (by omega)).mono ?_; rintro e w1 ⟨k1, rfl, hk1, hD1⟩
  go_wp2_with fail
  · refine (of_g hD1 [[92, 97, 92, 97, 97], [61, 97, 97, 61, 97, 97, 97], [92, 98, 40, 97, 98, 41], [64, 97, 98, 40, 97, 98, 41], [92, 97, 92, 98, 40, 97, 98, 41], [61, 98, 43, 97, 98, 40, 98, 97, 41], [40, 92, 97, 97, 92, 97, 97, 41], [64, 98, 97, 40, 99, 97, 41], [92, 99, 61, 98, 40, 97, 99, 41, 98]] _ 9 (by decide) (by omega) (by decide) (by decide)).mono ?_; rintro e w2 ⟨s, hs, rfl, hD2⟩
    go_wp2_with fail
    go_ret
    obtain ⟨⟨s⟩⟩ := s
    rw [show (⟨⟨s⟩⟩ : ByteArray) = ⟨s.toArray⟩ from rfl, size_data] at hs
    exact ⟨s, _, rfl, by omega, by omega, hD2⟩
  · refine (any_c _ _ _ _ _ _ _ hD1 (by omega)).mono ?_; rintro e w2 ⟨s, p', rfl, hs, hp', hD2⟩
    go_wp2_with fail
    go_ret
    exact ⟨s, p', rfl, hs, by omega, hD2⟩
set_option maxRecDepth 100000 in
set_option maxHeartbeats 1000000 in
theorem allIn_c (s t : Text) (w : World) (hs : s.length ≤ 100000) (ht : t.length ≤ 100000) (h : ∀ y ∈ s, y ∈ t) :
    Calls Tryz.prog 13 #[.string ⟨s.toArray⟩, .string ⟨t.toArray⟩] w fun e w' => e = .returned (.bool true) ∧ w' = w := by
  have H := Lib.hid h
  clear h
  go_enter Tryz.func13, Tryz.ntmps13
  go_wp2_with fail
  go_loopw [8] (fun i wr => ∃ (k : Nat), k ≤ s.length ∧ i = .int .i64 k ∧ wr = w) (fun i _ => s.length - (intOf i).toNat)
  case atStart => exact ⟨0, Nat.zero_le _, rfl, rfl⟩
  case round =>
    obtain ⟨k, hk, rfl, rfl⟩ := hrel
    by_cases hlt : k < s.length
    · obtain ⟨d, hd⟩ : ∃ d, s[k]? = some d := ⟨_, List.getElem?_eq_getElem hlt⟩
      have hx := extract_one s k d hd
      have C := has_c t d wr ht
      rw [decide_eq_true (H.out d (List.mem_of_getElem? hd))] at C
      clear hd
      go_wp2_with (go_at_call 30; refine C.mono ?_; clear C; rintro e w2 ⟨rfl, rfl⟩)
      exact ⟨⟨k + 1, by omega, by go_num, trivial⟩, by simp [intOf]; omega⟩
    · obtain rfl : k = s.length := by omega
      go_wp2_with fail
      go_ret
      exact ⟨rfl, rfl⟩
/-- What is known of a term that has been put. -/
structure PutFacts (s n u : Text) (R T U : Tm) (x : UInt8) : Prop where
  rt : readS s = some T
  ru : readS u = some U
  one : n = [x]
  nam : nameOf n = some x
  rr : readS (textN R) = some R
  cnt : ∀ y, cntF R y = (if y = x then 0 else cntF T y) + cntF T x * cntF U y
  many : (parts R).length + cntF T x = (parts T).length + cntF T x * (parts U).length
  same : cntF T x = 0 → R = T
theorem put_facts {s n u : Text} {R : Tm} (h : putO s n u = some R) : ∃ T U x, PutFacts s n u R T U x := by
  unfold putO at h
  rcases ht : readS s with _ | T
  · rw [ht] at h; cases h
  rcases hu : readS u with _ | U
  · rw [ht, hu] at h; cases h
  rcases hn : nameOf n with _ | x
  · rw [ht, hu, hn] at h; cases h
  rw [ht, hu, hn] at h
  simp only [Option.bind_some] at h
  split at h
  · rename_i hc
    injection h with h
    subst h
    obtain ⟨tg, td, tp⟩ := read_facts ht
    obtain ⟨ug, ud, up⟩ := read_facts hu
    have C := cnt_ok T.depth
    refine ⟨T, U, x, ht, hu, (name_some hn).1, hn, ?_, C.cnt x U T (Nat.le_refl _) tg ug hc.1, C.parts x U T (Nat.le_refl _) tg ug hc.1, fun h0 => by rw [subS_none _ _ _ _ h0]⟩
    have G := subS_grown ug T.depth x T
    have hf := hc.2
    unfold fitsT at hf
    simp only [Bool.and_eq_true, decide_eq_true_eq] at hf
    exact text_readS (G.good tg) hf.2 hf.1
  · cases h
end Go.Proofs.YtcabmcpalgpfpaaGreatDoor
