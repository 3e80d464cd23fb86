import Derived.Test.YtcabmcpalgpfpaaGreatLaP
import Derived.Test.YtcabmcpalgpfpaaGreatRnH
import Derived.Test.YtcabmcpalgpfpaaGreatRnB
import Derived.Test.YtcabmcpalgpfpaaGreatRnK
import Derived.Test.YtcabmcpalgpfpaaGreatMUd
import Derived.Test.YtcabmcpalgpfpaaGreatNw
/- Laws over drawn terms: DrawRename; FnRename. -/
namespace Go.Proofs.YtcabmcpalgpfpaaGreat
open Go.RowKit
open Ff
set_option linter.unusedVariables false
attribute [local irreducible] Calls

set_option maxHeartbeats 2000000 in
theorem drawRename_c (a : Option Addr) (l c : Nat) (w : World) (h : Src w a l c) :
    Calls Tryz.prog 6 #[.slice a l c] w fun e w' => ∃ s n m : Text, e = .returned (.tuple #[.string ⟨s.toArray⟩, .string ⟨n.toArray⟩, .string ⟨m.toArray⟩]) ∧ s.length ≤ 5000 ∧ n.length ≤ 2 ∧ m.length ≤ 2 ∧ Below w.heap.size w w' := by
  go_enter Tryz.func6, Tryz.ntmps6
  go_wp2_with fail
  refine (open_c a l c w h).mono ?_; rintro e w1 ⟨l', rfl, hD⟩
  go_wp2_with fail
  refine (some_c hD (by omega)).mono ?_; rintro e w2 ⟨s, p2, rfl, hs, hp2, hD2⟩
  go_wp2_with fail
  refine (word_c hD2 (by omega)).mono ?_; rintro e w3 ⟨n, rfl, hn, hD3⟩
  go_wp2_with fail
  refine (of_g hD3 [[97], [98], [99], [97], n] _ 2 (by intro s hs; simp only [List.mem_cons, List.not_mem_nil, or_false] at hs; rcases hs with rfl | rfl | rfl | rfl | rfl <;> first | (simp; done) | omega) (by omega) (by simp) (by simp)).mono ?_; rintro e w4 ⟨n2, hn2, rfl, hD4⟩
  go_wp2_with fail
  refine (word_c hD4 (by omega)).mono ?_; rintro e w5 ⟨m, rfl, hm, hD5⟩
  go_wp2_with fail
  refine (of_g hD5 [[98], [112], [100], [97], m] _ 2 (by intro s hs; simp only [List.mem_cons, List.not_mem_nil, or_false] at hs; rcases hs with rfl | rfl | rfl | rfl | rfl <;> first | (simp; done) | omega) (by omega) (by simp) (by simp)).mono ?_; rintro e w6 ⟨m2, hm2, rfl, hD6⟩
  go_wp2_with fail
  refine bodyPost_ret (v := .tuple #[.string ⟨s.toArray⟩, .string n2, .string m2]) (by simp [results, Tryz.results6, go_sem]) rfl ?_
  obtain ⟨⟨n2⟩⟩ := n2
  obtain ⟨⟨m2⟩⟩ := m2
  rw [show (⟨⟨n2⟩⟩ : ByteArray) = ⟨n2.toArray⟩ from rfl, size_data] at hn2
  rw [show (⟨⟨m2⟩⟩ : ByteArray) = ⟨m2.toArray⟩ from rfl, size_data] at hm2
  exact ⟨s, n2, m2, rfl, hs, hn2, hm2, hD6.below⟩
/-- What is known of a renamed term. -/
theorem renO_some {s n m : Text} {R : Tm} (h : renO s n m = some R) : ∃ t, readS s = some t ∧ readS (textN R) = some R ∧ sameO s (textN R) = true ∧ sfree R = sfree t ∧ (parts R).length = (parts t).length ∧ (textN R).length = s.length ∧ unqO (textN R) = unqO s := by
  rcases hr : readS s with _ | t
  · unfold renO at h; rw [hr] at h; cases h
  rcases hn : nameOf n with _ | x
  · unfold renO at h; rw [hr, hn] at h; cases h
  rcases hm : nameOf m with _ | y
  · unfold renO at h; rw [hr, hn, hm] at h; cases h
  obtain ⟨rfl, hx⟩ := name_some hn
  obtain ⟨rfl, hy⟩ := name_some hm
  obtain ⟨tg, td, tp⟩ := read_facts hr
  obtain ⟨r0, h1, rfl, hlen⟩ := readS_some hr
  have F : RenFacts t R := by
    unfold renO at h
    rw [hr, hn, hm] at h
    simp only [Option.bind_some] at h
    by_cases hxb : x ∈ bindsOf t
    · rw [if_neg (fun e => e hxb)] at h
      by_cases hxy : x = y
      · rw [if_pos hxy] at h
        injection h with h
        subst h
        exact ⟨tg, rfl, rfl, rfl, rfl⟩
      · rw [if_neg hxy] at h
        by_cases hyb : y ∈ bindsOf t
        · rw [if_pos hyb] at h; cases h
        · rw [if_neg hyb] at h
          split at h
          · rename_i hc
            injection h with h
            subst h
            exact ren_facts tg td hxb hy hyb hc.1 hc.2
          · cases h
    · rw [if_pos hxb] at h; cases h
  have hst : s.length = (textN t).length := by
    have h2 := parse_text 24 s [] t h1
    rw [List.append_nil] at h2
    rw [← h2]
  have hR : readS (textN R) = some R := text_readS F.good (by rw [F.deep]; exact td) (by rw [F.long, ← hst]; exact hlen)
  have hsame : sameO s (textN R) = true := by
    unfold sameO
    rw [hr, hR]
    have hn : nlT 24 noF t = nlT 24 noF R := by unfold nlT; rw [F.same]
    exact decide_eq_true hn
  obtain ⟨u1, u2⟩ := same_unq (by rw [F.deep]; exact td) td F.good tg F.same
  refine ⟨t, rfl, hR, hsame, u1, F.many, by rw [F.long, hst], ?_⟩
  rw [(unqO_facts hR).1, (unqO_facts hr).1, u2]
set_option maxRecDepth 100000 in
set_option maxHeartbeats 8000000 in
theorem law_fnRename (a : Option Addr) (l c : Nat) (w : World) (h : Src w a l c) :
    Calls Tryz.prog 3 #[.slice a l c] w fun e w' => e = .returned (.bool true) ∧ Below w.heap.size w w' := by
  by_cases hl : l ≤ 1048576
  · have hl2 : ¬ 1048576 < (l : Int) := by omega
    go_enter Tryz.func3, Tryz.ntmps3
    go_wp2_with fail
    refine (drawRename_c a l c w h).mono ?_; rintro e w1 ⟨s, n, m, rfl, hs, hn, hm, hb⟩
    have I := fun W => iRename_c s n m W (by omega) (by omega) (by omega)
    have S := fun W => sRename_c s n m W (by omega) (by omega) (by omega)
    rcases hO : renO s n m with _ | R
    · rw [hO] at I S
      simp only [textO, Option.isSome_none] at I S
      clear hO
      go_wp2_with fail
      refine (I _).mono ?_; rintro e w2 ⟨rfl, hb2⟩; replace hb := next hb hb2; clear hb2 I
      go_wp2_with fail
      refine (S _).mono ?_; rintro e w3 ⟨rfl, hb2⟩; replace hb := next hb hb2; clear hb2 S
      go_wp2_with fail
      go_ret
      exact ⟨rfl, hb⟩
    · obtain ⟨t, f1, f2, f3, f4, f5, f6, _⟩ := renO_some hO
      rw [hO] at I S
      simp only [textO, Option.isSome_some] at I S
      have A1 := fun W => kFree s (by omega) W
      have A2 := fun W => kFree (textN R) (by omega) W
      have A3 := fun W => iSame_c s (textN R) W (by omega) (by omega)
      have A4 := fun W => kSize s (by omega) W
      have A5 := fun W => kSize (textN R) (by omega) W
      rw [f1] at A1 A4
      rw [f2] at A2 A5
      simp only [f3] at A3
      simp only [txtP, sizeI, f4, f5] at A1 A2 A4 A5
      clear hO f1 f2 f3 f4 f5
      generalize textN R = r at *
      generalize sfree t = fr at *
      generalize (parts t).length = pl at *
      have hls : (r.length : Int) = (s.length : Int) := by omega
      go_wp2_with fail
      refine (I _).mono ?_; rintro e w2 ⟨rfl, hb2⟩; replace hb := next hb hb2; clear hb2 I
      go_wp2_with fail
      refine (S _).mono ?_; rintro e w3 ⟨rfl, hb2⟩; replace hb := next hb hb2; clear hb2 S
      go_wp2_with fail
      refine (A1 _).mono ?_; rintro e w4 ⟨rfl, hb2⟩; replace hb := next hb hb2; clear hb2 A1
      go_wp2_with fail
      refine (A2 _).mono ?_; rintro e w5 ⟨rfl, hb2⟩; replace hb := next hb hb2; clear hb2 A2
      go_wp2_with fail
      refine (A3 _).mono ?_; rintro e w6 ⟨rfl, hb2⟩; replace hb := next hb hb2; clear hb2 A3
      go_wp2_with fail
      refine (A5 _).mono ?_; rintro e w7 ⟨rfl, hb2⟩; replace hb := next hb hb2; clear hb2 A5
      go_wp2_with fail
      refine (A4 _).mono ?_; rintro e w8 ⟨rfl, hb2⟩; replace hb := next hb hb2; clear hb2 A4
      go_wp2_with fail
      go_ret
      exact ⟨rfl, hb⟩
  · have hl2 : 1048576 < (l : Int) := by omega
    go_enter Tryz.func3, Tryz.ntmps3
    go_wp2_with fail
    go_ret
    exact ⟨rfl, Below.refl _ w⟩
end Go.Proofs.YtcabmcpalgpfpaaGreat
