import Derived.Test.YtcabmcpalgpfpaaGreatPuJ
import Derived.Test.YtcabmcpalgpfpaaGreatPuW
/- The program's Put. -/
namespace Go.Proofs.YtcabmcpalgpfpaaGreat
open Go.RowKit
open Ff
set_option linter.unusedVariables false

set_option maxRecDepth 100000 in
set_option maxHeartbeats 4000000 in
theorem iPut_c (s n s2 : Text) (w : World) (hl : s.length ≤ 9223372036854775807) (hl2 : n.length ≤ 9223372036854775807) (hl3 : s2.length ≤ 9223372036854775807) :
    Calls Tryz.prog 14 #[.string ⟨s.toArray⟩, .string ⟨n.toArray⟩, .string ⟨s2.toArray⟩] w fun e w' => e = .returned (.tuple #[.string ⟨(textO (putO s n s2)).toArray⟩, .bool (putO s n s2).isSome]) ∧ Below w.heap.size w w' := by
  have C1 := read_c s w hl
  have C2 := fun w' => read_c s2 w' hl3
  have N := fun w' => iName_c n w' hl2
  rw [← readS_eq] at C1
  simp only [← readS_eq] at C2
  obtain ⟨O, hO⟩ : ∃ O, O = putO s n s2 := ⟨_, rfl⟩
  rw [← hO]
  unfold putO at hO
  rcases hr : readS s with _ | t
  · rw [hr] at hO C1
    obtain rfl : O = none := hO
    clear hr
    go_enter Tryz.func14, Tryz.ntmps14
    go_wp2_with fail
    refine C1.mono ?_
    clear C1
    rintro e w1 ⟨rfl, hb1⟩
    go_wp2_with fail
    refine (C2 _).mono ?_
    clear C2
    rcases hr2 : readS s2 with _ | u
    · clear hr2
      rintro e w2 ⟨rfl, hb2⟩
      go_wp2_with fail
      go_ret2
      exact ⟨rfl, hb1.trans (hb2.mono hb1.size)⟩
    · clear hr2
      obtain ⟨un, uv, huv⟩ := enc_gen u
      rintro e w2 ⟨rfl, hb2⟩
      rw [huv]
      clear huv
      go_wp2_with fail
      go_ret2
      exact ⟨rfl, hb1.trans (hb2.mono hb1.size)⟩
  · rw [hr] at hO C1
    obtain ⟨tg, td, tp⟩ := read_facts hr
    clear hr
    simp only [Option.bind_some] at hO
    have HO := Lib.hid hO
    clear hO
    obtain ⟨tn, tv, htv⟩ := enc_gen t
    go_enter Tryz.func14, Tryz.ntmps14
    go_wp2_with fail
    refine C1.mono ?_
    clear C1
    rintro e w1 ⟨rfl, hb1⟩
    rw [htv]
    have HTV := Lib.hid htv
    clear htv
    go_wp2_with fail
    refine (C2 _).mono ?_
    clear C2
    rcases hr2 : readS s2 with _ | u
    · have hO := HO.out
      rw [hr2] at hO
      obtain rfl : O = none := hO
      clear hr2 HO
      rintro e w2 ⟨rfl, hb2⟩
      go_wp2_with fail
      go_ret2
      exact ⟨rfl, hb1.trans (hb2.mono hb1.size)⟩
    · have hO := HO.out
      rw [hr2] at hO
      simp only [Option.bind_some] at hO
      obtain ⟨ug, ud, up⟩ := read_facts hr2
      clear hr2 HO
      obtain ⟨un, uv, huv⟩ := enc_gen u
      rintro e w2 ⟨rfl, hb2⟩
      rw [huv]
      have hB : Below w.heap.size w w2 := hb1.trans (hb2.mono hb1.size)
      rcases hn : nameOf n with _ | x
      · rw [hn] at hO N
        obtain rfl : O = none := hO
        clear hn huv
        go_wp2_with (go_at_call 24; refine (N _).mono ?_; clear N; rintro e w3 ⟨rfl, rfl⟩)
        go_ret2
        exact ⟨rfl, hB⟩
      · rw [hn] at hO N
        simp only [Option.bind_some] at hO
        obtain ⟨rfl, hx⟩ := name_some hn
        clear hn
        have KS := put_c x u t w2 (by omega) tg ug (by omega) (by omega) (.inl (by omega))
        rw [HTV.out, huv] at KS
        clear huv
        have G := subS_grown ug t.depth x t
        have g1 := G.many
        have g2 := G.deep
        have g3 := G.good tg
        have g4 : (parts t).length * (parts u).length ≤ 120 * 120 := Nat.mul_le_mul tp up
        generalize subS t.depth x u t = r at *
        have HO := Lib.hid hO
        have KW := fun W => writeTerm_c r.1 W (by omega) (by omega) g3
        obtain ⟨F, hF⟩ : ∃ F, F = fitsT r.1 := ⟨_, rfl⟩
        simp only [← hF] at KW
        obtain ⟨X, hX⟩ : ∃ X, X = (if F = true then textN r.1 else []) := ⟨_, rfl⟩
        simp only [← hX] at KW
        have HX := Lib.hid hX
        have HF := Lib.hid hF
        clear hX hF
        obtain ⟨rn, rv, hrv⟩ := enc_gen r.1
        have HRV := Lib.hid hrv
        have hrt : Value.iface (ty r.1) (pl r.1) = .iface rn rv := by rw [← enc_ty]; exact hrv
        rw [hrt] at KW
        clear hO G hrv hrt
        cases hok : r.2
        · obtain rfl : O = none := by rw [HO.out]; simp [hok]
          have KS2 : Calls Tryz.prog 45 #[.iface tn tv, bv x, .iface un uv] w2 fun e w' => e = .returned (.tuple #[.nilIface, .bool false]) ∧ Below w2.heap.size w2 w' := KS.mono fun e w' h => by
            obtain ⟨⟨h1, _⟩ | ⟨_, h1⟩, h2⟩ := h
            · rw [hok] at h1; cases h1
            · exact ⟨h1, h2⟩
          clear HO KS hok KW
          go_wp2_with (first
            | (go_at_call 24; refine (N _).mono ?_; clear N; rintro e w3 ⟨rfl, rfl⟩)
            | (go_at_call 45; refine KS2.mono ?_; clear KS2; rintro e w4 ⟨rfl, hb4⟩))
          go_ret2
          exact ⟨rfl, hB.trans (hb4.mono hB.size)⟩
        · have KS2 : Calls Tryz.prog 45 #[.iface tn tv, bv x, .iface un uv] w2 fun e w' => e = .returned (.tuple #[.iface rn rv, .bool true]) ∧ Below w2.heap.size w2 w' := KS.mono fun e w' h => by
            obtain ⟨⟨_, h1⟩ | ⟨h1, _⟩, h2⟩ := h
            · exact ⟨by rw [h1, HRV.out], h2⟩
            · rw [hok] at h1; cases h1
          have hO2 : O = if fitsT r.1 = true then some r.1 else none := by rw [HO.out]; simp [hok]
          have HO2 := Lib.hid hO2
          clear HO KS hok hO2
          go_wp2_with (first
            | (go_at_call 24; refine (N _).mono ?_; clear N; rintro e w3 ⟨rfl, rfl⟩)
            | (go_at_call 45; refine KS2.mono ?_; clear KS2; rintro e w4 ⟨rfl, hb4⟩)
            | (go_at_call 46; refine (KW _).mono ?_; clear KW; rintro e w5 ⟨rfl, hb5⟩))
          go_ret2
          rw [HO2.out]
          refine ⟨?_, (hB.trans (hb4.mono hB.size)).trans (hb5.mono (by have := hB.size; have := hb4.size; omega))⟩
          show Ending.returned (.tuple #[.string ⟨X.toArray⟩, .bool F]) = _
          have hf := HF.out
          have hx9 := HX.out
          rw [hx9, ← hf]
          cases F <;> rfl
end Go.Proofs.YtcabmcpalgpfpaaGreat
