import Derived.Test.YtcabmcpalgpfpaaGreatLaA
import Derived.Test.YtcabmcpalgpfpaaGreatPuW
import Derived.Test.YtcabmcpalgpfpaaGreatMPe
import Derived.Test.YtcabmcpalgpfpaaGreatPtC
/- Laws over drawn terms: DrawPut; FnPut. -/
namespace Go.Proofs.YtcabmcpalgpfpaaGreat
open Go.RowKit
open Ff
set_option linter.unusedVariables false
attribute [local irreducible] Calls

set_option maxHeartbeats 2000000 in
theorem some_c {b : Nat} {a : Option Addr} {l c p : Nat} {w0 w : World} (hD : DG b a l c w0 p w) (hp : p ≤ 10000) :
    Calls Tryz.prog 20 #[.pointer (some ⟨b, 0, none⟩)] w fun e w' => ∃ (s : Text) (p' : Nat), e = .returned (.string ⟨s.toArray⟩) ∧ s.length ≤ 5000 ∧ p' ≤ p + 4001 ∧ DG b a l c w0 p' w' := by
  go_enter Tryz.func20, Tryz.ntmps20
  go_wp2_with fail
  refine (pick_g hD _ (by omega) (by omega) (by omega)).mono ?_; rintro e w1 ⟨k1, rfl, hk1, hD1⟩
  go_wp2_with fail
  · refine (of_g hD1 [[92, 97, 92, 97, 97], [61, 97, 97, 61, 97, 97, 97], [92, 98, 40, 97, 98, 41], [64, 97, 98, 40, 97, 98, 41], [92, 97, 92, 98, 40, 97, 98, 41], [61, 98, 43, 97, 98, 40, 98, 97, 41], [40, 92, 97, 97, 92, 97, 97, 41], [64, 98, 97, 40, 99, 97, 41], [92, 99, 61, 98, 40, 97, 99, 41, 98]] _ 9 (by decide) (by omega) (by decide) (by decide)).mono ?_; rintro e w2 ⟨s, hs, rfl, hD2⟩
    go_wp2_with fail
    go_ret
    obtain ⟨⟨s⟩⟩ := s
    rw [show (⟨⟨s⟩⟩ : ByteArray) = ⟨s.toArray⟩ from rfl, size_data] at hs
    exact ⟨s, _, rfl, by omega, by omega, hD2⟩
  · refine (any_c _ _ _ _ _ _ _ hD1 (by omega)).mono ?_; rintro e w2 ⟨s, p', rfl, hs, hp', hD2⟩
    go_wp2_with fail
    go_ret
    exact ⟨s, p', rfl, hs, by omega, hD2⟩
set_option maxHeartbeats 2000000 in
theorem drawPut_c (a : Option Addr) (l c : Nat) (w : World) (h : Src w a l c) :
    Calls Tryz.prog 13 #[.slice a l c] w fun e w' => ∃ s n u : Text, e = .returned (.tuple #[.string ⟨s.toArray⟩, .string ⟨n.toArray⟩, .string ⟨u.toArray⟩]) ∧ s.length ≤ 5000 ∧ n.length ≤ 2 ∧ u.length ≤ 5000 ∧ Below w.heap.size w w' := by
  go_enter Tryz.func13, Tryz.ntmps13
  go_wp2_with fail
  refine (open_c a l c w h).mono ?_; rintro e w1 ⟨l', rfl, hD⟩
  go_wp2_with fail
  refine (some_c hD (by omega)).mono ?_; rintro e w2 ⟨s, p2, rfl, hs, hp2, hD2⟩
  go_wp2_with fail
  refine (word_c hD2 (by omega)).mono ?_; rintro e w3 ⟨n, rfl, hn, hD3⟩
  go_wp2_with fail
  refine (of_g hD3 [[97], [98], [97], [101], n] _ 2 (by intro s hs; simp only [List.mem_cons, List.not_mem_nil, or_false] at hs; rcases hs with rfl | rfl | rfl | rfl | rfl <;> first | (simp; done) | omega) (by omega) (by simp) (by simp)).mono ?_; rintro e w4 ⟨n2, hn2, rfl, hD4⟩
  go_wp2_with fail
  refine (any_c _ _ _ _ _ _ _ hD4 (by omega)).mono ?_; rintro e w5 ⟨u, p5, rfl, hu, hp5, hD5⟩
  go_wp2_with fail
  refine (of_g hD5 [[98], [49], [92, 98, 98], [40, 98, 99, 41], [97], u] _ 5000 (by intro s hs; simp only [List.mem_cons, List.not_mem_nil, or_false] at hs; rcases hs with rfl | rfl | rfl | rfl | rfl | rfl <;> first | (simp; done) | omega) (by omega) (by simp) (by simp)).mono ?_; rintro e w6 ⟨u2, hu2, rfl, hD6⟩
  go_wp2_with fail
  refine bodyPost_ret (v := .tuple #[.string ⟨s.toArray⟩, .string n2, .string u2]) (by simp [results, Tryz.results13, go_sem]) rfl ?_
  obtain ⟨⟨n2⟩⟩ := n2
  obtain ⟨⟨u2⟩⟩ := u2
  rw [show (⟨⟨n2⟩⟩ : ByteArray) = ⟨n2.toArray⟩ from rfl, size_data] at hn2
  rw [show (⟨⟨u2⟩⟩ : ByteArray) = ⟨u2.toArray⟩ from rfl, size_data] at hu2
  exact ⟨s, n2, u2, rfl, hs, hn2, hu2, hD6.below⟩
/-- What is known of a term that has been put. -/
structure PutFacts (s n u : Text) (R T U : Tm) (x : UInt8) : Prop where
  rt : readS s = some T
  ru : readS u = some U
  one : n = [x]
  nam : nameOf n = some x
  rr : readS (textN R) = some R
  cnt : ∀ y, cntF R y = (if y = x then 0 else cntF T y) + cntF T x * cntF U y
  many : (parts R).length + cntF T x = (parts T).length + cntF T x * (parts U).length
  same : cntF T x = 0 → R = T
theorem put_facts {s n u : Text} {R : Tm} (h : putO s n u = some R) : ∃ T U x, PutFacts s n u R T U x := by
  unfold putO at h
  rcases ht : readS s with _ | T
  · rw [ht] at h; cases h
  rcases hu : readS u with _ | U
  · rw [ht, hu] at h; cases h
  rcases hn : nameOf n with _ | x
  · rw [ht, hu, hn] at h; cases h
  rw [ht, hu, hn] at h
  simp only [Option.bind_some] at h
  split at h
  · rename_i hc
    injection h with h
    subst h
    obtain ⟨tg, td, tp⟩ := read_facts ht
    obtain ⟨ug, ud, up⟩ := read_facts hu
    have C := cnt_ok T.depth
    refine ⟨T, U, x, ht, hu, (name_some hn).1, hn, ?_, C.cnt x U T (Nat.le_refl _) tg ug hc.1, C.parts x U T (Nat.le_refl _) tg ug hc.1, fun h0 => by rw [subS_none _ _ _ _ h0]⟩
    have G := subS_grown ug T.depth x T
    have hf := hc.2
    unfold fitsT at hf
    simp only [Bool.and_eq_true, decide_eq_true_eq] at hf
    exact text_readS (G.good tg) hf.2 hf.1
  · cases h
end Go.Proofs.YtcabmcpalgpfpaaGreat
