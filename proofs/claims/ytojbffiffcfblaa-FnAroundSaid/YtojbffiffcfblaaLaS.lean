import Derived.Test.YtojbffiffcfblaaLaP
import Derived.Test.YtojbffiffcfblaaUh
import Derived.Test.YtojbffiffcfblaaMNf
import Derived.Test.YtojbffiffcfblaaMNu
/- Laws over drawn terms: DrawSameTerm; FnAround. -/
namespace Go.Proofs.Ytojbffiffcfblaa
open Go.RowKit
open Ff
set_option linter.unusedVariables false
attribute [local irreducible] Calls

theorem unq_short (s : Text) : (textO (unqO s)).length ≤ 5000 := by
  rcases hr : readS s with _ | t
  · have hO : unqO s = none := by unfold unqO; rw [hr]; rfl
    rw [hO]; simp [textO]
  · obtain ⟨hO, hA⟩ := unqO_facts hr
    obtain ⟨tg, td, tp⟩ := read_facts hr
    rw [hO]
    rcases ho : unqT 24 id (sfree t) t with _ | r
    · simp [textO]
    · have A := hA r ho
      have := text_len r.1
      rw [A.many] at this
      show (textN r.1).length ≤ 5000
      omega
set_option maxHeartbeats 2000000 in
theorem drawSame_c (a : Option Addr) (l c : Nat) (w : World) (h : Src w a l c) :
    Calls Try.prog 4 #[.slice a l c] w fun e w' => ∃ s u : Text, e = .returned (.tuple #[.string ⟨s.toArray⟩, .string ⟨u.toArray⟩]) ∧ s.length ≤ 5000 ∧ u.length ≤ 5000 ∧ Below w.heap.size w w' := by
  go_enter Try.func4, Try.ntmps4
  go_wp2_with fail
  refine (open_c a l c w h).mono ?_; rintro e w1 ⟨l', rfl, hD⟩
  go_wp2_with fail
  refine (some_c hD (by omega)).mono ?_; rintro e w2 ⟨s, p2, rfl, hs, hp2, hD2⟩
  go_wp2_with fail
  refine (pick_g hD2 _ (by omega) (by omega) (by omega)).mono ?_; rintro e w3 ⟨k1, rfl, hk1, hD3⟩
  go_wp2_with fail
  · have K := sUnq_c s w3 (by omega)
    have hz := unq_short s
    generalize textO (unqO s) = u at *
    refine K.mono ?_; rintro e w4 ⟨rfl, hb4⟩
    go_wp2_with fail
    refine bodyPost_ret (v := .tuple #[.string ⟨s.toArray⟩, .string ⟨u.toArray⟩]) (by simp [results, Try.results4, go_sem]) rfl ?_
    exact ⟨s, u, rfl, hs, hz, next hD3.below hb4⟩
  · refine (some_c hD3 (by omega)).mono ?_; rintro e w4 ⟨u, p4, rfl, hu, hp4, hD4⟩
    go_wp2_with fail
    refine bodyPost_ret (v := .tuple #[.string ⟨s.toArray⟩, .string ⟨u.toArray⟩]) (by simp [results, Try.results4, go_sem]) rfl ?_
    exact ⟨s, u, rfl, hs, hu, hD4.below⟩
theorem str_cells {W : World} {B : Nat} {cs : List Value} {t : TypeId} (h : W.heap[B]? = some (.cells cs.toArray t (0, 0))) : ∀ j u, cs[j]? = some u → W.cell? ⟨B, j, none⟩ = some u := fun j u hu => by
  simp [World.cell?, h, hu]
set_option maxRecDepth 100000 in
set_option maxHeartbeats 8000000 in
theorem law_fnAround (a : Option Addr) (l c : Nat) (w : World) (h : Src w a l c) :
    Calls Try.prog 3 #[.slice a l c] w fun e w' => e = .returned (.bool true) ∧ Below w.heap.size w w' := by
  by_cases hl : l ≤ 1048576
  · have hl2 : ¬ 1048576 < (l : Int) := by omega
    go_enter Try.func3, Try.ntmps3
    go_wp2_with fail
    refine (drawSame_c a l c w h).mono ?_; rintro e w1 ⟨s, u, rfl, hs, hu, hb⟩
    have C1 := fun W => iSame_c s u W (by omega) (by omega)
    have C2 := fun W => sSame_c s u W (by omega) (by omega)
    rcases hB : sameO s u with _ | _
    · rw [hB] at C1 C2
      clear hB
      go_wp2_with fail
      refine (C1 _).mono ?_; rintro e w2 ⟨rfl, hb2⟩; replace hb := next hb hb2; clear hb2
      go_wp2_with fail
      refine (C2 _).mono ?_; rintro e w3 ⟨rfl, hb2⟩; replace hb := next hb hb2; clear hb2 C2
      go_wp2_with fail
      refine (C1 _).mono ?_; rintro e w4 ⟨rfl, hb2⟩; replace hb := next hb hb2; clear hb2 C1
      go_wp2_with fail
      go_ret
      exact ⟨rfl, hb⟩
    · rw [hB] at C1 C2
      have HB := Lib.hid hB
      clear hB
      go_wp2_with fail
      refine (C1 _).mono ?_; rintro e w2 ⟨rfl, hb2⟩; replace hb := next hb hb2; clear hb2
      go_wp2_with fail
      refine (C2 _).mono ?_; rintro e w3 ⟨rfl, hb2⟩; replace hb := next hb hb2; clear hb2 C2
      go_wp2_with fail
      refine (C1 _).mono ?_; rintro e w4 ⟨rfl, hb2⟩; replace hb := next hb hb2; clear hb2 C1
      go_wp2_with fail
      have z0 : ∀ (k : Nat) (p : Text), preS[k]? = some p → (w4.alloc (.cells #[.string ⟨#[92, 97]⟩, .string ⟨#[64, 98, 97]⟩, .string ⟨#[43, 49]⟩, .string ⟨#[61, 99, 50]⟩, .string ⟨#[63, 48]⟩] 9)).cell? ⟨w4.heap.size, k, none⟩ = some (.string ⟨p.toArray⟩) := fun k p hp =>
        (str_cells (t := 9) (cs := preS.map fun p : Text => Value.string (⟨p.toArray⟩ : ByteArray)) (World.alloc_heap_new w4 (.cells (preS.map fun p : Text => Value.string (⟨p.toArray⟩ : ByteArray)).toArray 9)) k (.string ⟨p.toArray⟩) (by rw [List.getElem?_map, hp]; rfl) :)
      have hb0 := hb.alloc hb.size (.cells #[.string ⟨#[92, 97]⟩, .string ⟨#[64, 98, 97]⟩, .string ⟨#[43, 49]⟩, .string ⟨#[61, 99, 50]⟩, .string ⟨#[63, 48]⟩] 9)
      have hz0 : w4.heap.size < (w4.alloc (.cells #[.string ⟨#[92, 97]⟩, .string ⟨#[64, 98, 97]⟩, .string ⟨#[43, 49]⟩, .string ⟨#[61, 99, 50]⟩, .string ⟨#[63, 48]⟩] 9)).heap.size := by simp
      generalize w4.alloc (.cells #[.string ⟨#[92, 97]⟩, .string ⟨#[64, 98, 97]⟩, .string ⟨#[43, 49]⟩, .string ⟨#[61, 99, 50]⟩, .string ⟨#[63, 48]⟩] 9) = W0 at *
      have HZ := Lib.hid z0
      clear z0
      go_loopw [30] (fun ix wr => ∃ k : Nat, k ≤ 5 ∧ ix = .int .i64 k ∧ Below W0.heap.size W0 wr) (fun ix _ => 5 - (intOf ix).toNat)
      case atStart => exact ⟨0, by omega, rfl, Below.refl _ _⟩
      case round =>
        obtain ⟨k, hk, rfl, hBl⟩ := hrel
        have hsz := hBl.size
        by_cases hlt : k < 5
        · obtain ⟨p, hp⟩ : ∃ p, preS[k]? = some p := ⟨_, List.getElem?_eq_getElem hlt⟩
          have ck := (hBl.cell (p := ⟨w4.heap.size, k, none⟩) hz0).trans (HZ.out k p hp)
          have hI0 : (0 : Int) ≤ (k : Int) := by omega
          have hI1 : (k : Int) < 5 := by omega
          have hlaw := fun h1 h2 => around_law HB.out hp h1 h2
          have hkc : (k = 4 ∧ p = [63, 48]) ∨ (k ≠ 4 ∧ (p = [92, 97] ∨ p = [64, 98, 97] ∨ p = [43, 49] ∨ p = [61, 99, 50])) := by
            rcases (by omega : k = 0 ∨ k = 1 ∨ k = 2 ∨ k = 3 ∨ k = 4) with h | h | h | h | h <;> subst h <;> simp [preS] at hp <;> subst hp <;> simp
          clear hp
          rcases hkc with ⟨hk4, rfl⟩ | ⟨hk4, h | h | h | h⟩
          · have es : sufS k = [49] := by unfold sufS; rw [if_pos hk4]
            rw [es] at hlaw
            have e1 : (⟨#[63, 48]⟩ ++ ⟨s.toArray⟩ : ByteArray) = ⟨([63, 48] ++ s).toArray⟩ := str_app2 [63, 48] s
            have e2 : (⟨#[63, 48]⟩ ++ ⟨u.toArray⟩ : ByteArray) = ⟨([63, 48] ++ u).toArray⟩ := str_app2 [63, 48] u
            have e3 : (⟨([63, 48] ++ s).toArray⟩ ++ ⟨#[49]⟩ : ByteArray) = ⟨([63, 48] ++ s ++ [49]).toArray⟩ := str_app2 ([63, 48] ++ s) [49]
            have e4 : (⟨([63, 48] ++ u).toArray⟩ ++ ⟨#[49]⟩ : ByteArray) = ⟨([63, 48] ++ u ++ [49]).toArray⟩ := str_app2 ([63, 48] ++ u) [49]
            have z1 : ¬ 9223372036854775807 < 2 + s.length := by omega
            have z2 : ¬ 9223372036854775807 < 2 + u.length := by omega
            have z3 : ¬ 9223372036854775807 < ([63, 48] ++ s).length + 1 := by simp; omega
            have z4 : ¬ 9223372036854775807 < ([63, 48] ++ u).length + 1 := by simp; omega
            have HK4 := Lib.hid hk4
            clear hk4 es
            have V1 := fun W => kValid ([63, 48] ++ s ++ [49]) (by simp; omega) W
            have V2 := fun W => kValid ([63, 48] ++ u ++ [49]) (by simp; omega) W
            have S1 := fun W => iSame_c ([63, 48] ++ s ++ [49]) ([63, 48] ++ u ++ [49]) W (by simp; omega) (by simp; omega)
            rcases h1 : (readS ([63, 48] ++ s ++ [49])).isSome with _ | _
            · rw [h1] at V1
              clear h1 V2 S1 hlaw
              go_wp2_with (go_at_call 7; refine (V1 _).mono ?_; clear V1; rintro e v1 ⟨rfl, b1⟩)
              exact ⟨⟨k + 1, by omega, by go_num, hBl.trans (b1.mono hsz)⟩, by simp [intOf]; omega⟩
            · rcases h2 : (readS ([63, 48] ++ u ++ [49])).isSome with _ | _
              · rw [h1] at V1
                rw [h2] at V2
                clear h1 h2 S1 hlaw
                go_wp2_with (go_at_call 7; first | (refine (V1 _).mono ?_; clear V1; rintro e v1 ⟨rfl, b1⟩) | (refine (V2 _).mono ?_; clear V2; rintro e v2 ⟨rfl, b2⟩))
                have B1 := hBl.trans (b1.mono hsz)
                exact ⟨⟨k + 1, by omega, by go_num, B1.trans (b2.mono B1.size)⟩, by simp [intOf]; omega⟩
              · have h3 := hlaw h1 h2
                rw [h1] at V1
                rw [h2] at V2
                simp only [h3] at S1
                clear h1 h2 h3 hlaw
                go_wp2_with (first | (go_at_call 7; first | (refine (V1 _).mono ?_; clear V1; rintro e v1 ⟨rfl, b1⟩) | (refine (V2 _).mono ?_; clear V2; rintro e v2 ⟨rfl, b2⟩)) | (go_at_call 5; refine (S1 _).mono ?_; clear S1; rintro e v3 ⟨rfl, b3⟩))
                have B1 := hBl.trans (b1.mono hsz)
                have B2 := B1.trans (b2.mono B1.size)
                exact ⟨⟨k + 1, by omega, by go_num, B2.trans (b3.mono B2.size)⟩, by simp [intOf]; omega⟩
          · subst h
            have es : sufS k = [] := by unfold sufS; rw [if_neg hk4]
            rw [es, List.append_nil, List.append_nil] at hlaw
            have e1 : (⟨#[92, 97]⟩ ++ ⟨s.toArray⟩ : ByteArray) = ⟨([92, 97] ++ s).toArray⟩ := str_app2 [92, 97] s
            have e2 : (⟨#[92, 97]⟩ ++ ⟨u.toArray⟩ : ByteArray) = ⟨([92, 97] ++ u).toArray⟩ := str_app2 [92, 97] u
            have z1 : ¬ 9223372036854775807 < 2 + s.length := by omega
            have z2 : ¬ 9223372036854775807 < 2 + u.length := by omega
            have HK4 := Lib.hid hk4
            clear hk4 es
            have V1 := fun W => kValid ([92, 97] ++ s) (by simp; omega) W
            have V2 := fun W => kValid ([92, 97] ++ u) (by simp; omega) W
            have S1 := fun W => iSame_c ([92, 97] ++ s) ([92, 97] ++ u) W (by simp; omega) (by simp; omega)
            rcases h1 : (readS ([92, 97] ++ s)).isSome with _ | _
            · rw [h1] at V1
              clear h1 V2 S1 hlaw
              go_wp2_with (go_at_call 7; refine (V1 _).mono ?_; clear V1; rintro e v1 ⟨rfl, b1⟩)
              exact ⟨⟨k + 1, by omega, by go_num, hBl.trans (b1.mono hsz)⟩, by simp [intOf]; omega⟩
            · rcases h2 : (readS ([92, 97] ++ u)).isSome with _ | _
              · rw [h1] at V1
                rw [h2] at V2
                clear h1 h2 S1 hlaw
                go_wp2_with (go_at_call 7; first | (refine (V1 _).mono ?_; clear V1; rintro e v1 ⟨rfl, b1⟩) | (refine (V2 _).mono ?_; clear V2; rintro e v2 ⟨rfl, b2⟩))
                have B1 := hBl.trans (b1.mono hsz)
                exact ⟨⟨k + 1, by omega, by go_num, B1.trans (b2.mono B1.size)⟩, by simp [intOf]; omega⟩
              · have h3 := hlaw h1 h2
                rw [h1] at V1
                rw [h2] at V2
                simp only [h3] at S1
                clear h1 h2 h3 hlaw
                go_wp2_with (first | (go_at_call 7; first | (refine (V1 _).mono ?_; clear V1; rintro e v1 ⟨rfl, b1⟩) | (refine (V2 _).mono ?_; clear V2; rintro e v2 ⟨rfl, b2⟩)) | (go_at_call 5; refine (S1 _).mono ?_; clear S1; rintro e v3 ⟨rfl, b3⟩))
                have B1 := hBl.trans (b1.mono hsz)
                have B2 := B1.trans (b2.mono B1.size)
                exact ⟨⟨k + 1, by omega, by go_num, B2.trans (b3.mono B2.size)⟩, by simp [intOf]; omega⟩
          · subst h
            have es : sufS k = [] := by unfold sufS; rw [if_neg hk4]
            rw [es, List.append_nil, List.append_nil] at hlaw
            have e1 : (⟨#[64, 98, 97]⟩ ++ ⟨s.toArray⟩ : ByteArray) = ⟨([64, 98, 97] ++ s).toArray⟩ := str_app2 [64, 98, 97] s
            have e2 : (⟨#[64, 98, 97]⟩ ++ ⟨u.toArray⟩ : ByteArray) = ⟨([64, 98, 97] ++ u).toArray⟩ := str_app2 [64, 98, 97] u
            have z1 : ¬ 9223372036854775807 < 3 + s.length := by omega
            have z2 : ¬ 9223372036854775807 < 3 + u.length := by omega
            have HK4 := Lib.hid hk4
            clear hk4 es
            have V1 := fun W => kValid ([64, 98, 97] ++ s) (by simp; omega) W
            have V2 := fun W => kValid ([64, 98, 97] ++ u) (by simp; omega) W
            have S1 := fun W => iSame_c ([64, 98, 97] ++ s) ([64, 98, 97] ++ u) W (by simp; omega) (by simp; omega)
            rcases h1 : (readS ([64, 98, 97] ++ s)).isSome with _ | _
            · rw [h1] at V1
              clear h1 V2 S1 hlaw
              go_wp2_with (go_at_call 7; refine (V1 _).mono ?_; clear V1; rintro e v1 ⟨rfl, b1⟩)
              exact ⟨⟨k + 1, by omega, by go_num, hBl.trans (b1.mono hsz)⟩, by simp [intOf]; omega⟩
            · rcases h2 : (readS ([64, 98, 97] ++ u)).isSome with _ | _
              · rw [h1] at V1
                rw [h2] at V2
                clear h1 h2 S1 hlaw
                go_wp2_with (go_at_call 7; first | (refine (V1 _).mono ?_; clear V1; rintro e v1 ⟨rfl, b1⟩) | (refine (V2 _).mono ?_; clear V2; rintro e v2 ⟨rfl, b2⟩))
                have B1 := hBl.trans (b1.mono hsz)
                exact ⟨⟨k + 1, by omega, by go_num, B1.trans (b2.mono B1.size)⟩, by simp [intOf]; omega⟩
              · have h3 := hlaw h1 h2
                rw [h1] at V1
                rw [h2] at V2
                simp only [h3] at S1
                clear h1 h2 h3 hlaw
                go_wp2_with (first | (go_at_call 7; first | (refine (V1 _).mono ?_; clear V1; rintro e v1 ⟨rfl, b1⟩) | (refine (V2 _).mono ?_; clear V2; rintro e v2 ⟨rfl, b2⟩)) | (go_at_call 5; refine (S1 _).mono ?_; clear S1; rintro e v3 ⟨rfl, b3⟩))
                have B1 := hBl.trans (b1.mono hsz)
                have B2 := B1.trans (b2.mono B1.size)
                exact ⟨⟨k + 1, by omega, by go_num, B2.trans (b3.mono B2.size)⟩, by simp [intOf]; omega⟩
          · subst h
            have es : sufS k = [] := by unfold sufS; rw [if_neg hk4]
            rw [es, List.append_nil, List.append_nil] at hlaw
            have e1 : (⟨#[43, 49]⟩ ++ ⟨s.toArray⟩ : ByteArray) = ⟨([43, 49] ++ s).toArray⟩ := str_app2 [43, 49] s
            have e2 : (⟨#[43, 49]⟩ ++ ⟨u.toArray⟩ : ByteArray) = ⟨([43, 49] ++ u).toArray⟩ := str_app2 [43, 49] u
            have z1 : ¬ 9223372036854775807 < 2 + s.length := by omega
            have z2 : ¬ 9223372036854775807 < 2 + u.length := by omega
            have HK4 := Lib.hid hk4
            clear hk4 es
            have V1 := fun W => kValid ([43, 49] ++ s) (by simp; omega) W
            have V2 := fun W => kValid ([43, 49] ++ u) (by simp; omega) W
            have S1 := fun W => iSame_c ([43, 49] ++ s) ([43, 49] ++ u) W (by simp; omega) (by simp; omega)
            rcases h1 : (readS ([43, 49] ++ s)).isSome with _ | _
            · rw [h1] at V1
              clear h1 V2 S1 hlaw
              go_wp2_with (go_at_call 7; refine (V1 _).mono ?_; clear V1; rintro e v1 ⟨rfl, b1⟩)
              exact ⟨⟨k + 1, by omega, by go_num, hBl.trans (b1.mono hsz)⟩, by simp [intOf]; omega⟩
            · rcases h2 : (readS ([43, 49] ++ u)).isSome with _ | _
              · rw [h1] at V1
                rw [h2] at V2
                clear h1 h2 S1 hlaw
                go_wp2_with (go_at_call 7; first | (refine (V1 _).mono ?_; clear V1; rintro e v1 ⟨rfl, b1⟩) | (refine (V2 _).mono ?_; clear V2; rintro e v2 ⟨rfl, b2⟩))
                have B1 := hBl.trans (b1.mono hsz)
                exact ⟨⟨k + 1, by omega, by go_num, B1.trans (b2.mono B1.size)⟩, by simp [intOf]; omega⟩
              · have h3 := hlaw h1 h2
                rw [h1] at V1
                rw [h2] at V2
                simp only [h3] at S1
                clear h1 h2 h3 hlaw
                go_wp2_with (first | (go_at_call 7; first | (refine (V1 _).mono ?_; clear V1; rintro e v1 ⟨rfl, b1⟩) | (refine (V2 _).mono ?_; clear V2; rintro e v2 ⟨rfl, b2⟩)) | (go_at_call 5; refine (S1 _).mono ?_; clear S1; rintro e v3 ⟨rfl, b3⟩))
                have B1 := hBl.trans (b1.mono hsz)
                have B2 := B1.trans (b2.mono B1.size)
                exact ⟨⟨k + 1, by omega, by go_num, B2.trans (b3.mono B2.size)⟩, by simp [intOf]; omega⟩
          · subst h
            have es : sufS k = [] := by unfold sufS; rw [if_neg hk4]
            rw [es, List.append_nil, List.append_nil] at hlaw
            have e1 : (⟨#[61, 99, 50]⟩ ++ ⟨s.toArray⟩ : ByteArray) = ⟨([61, 99, 50] ++ s).toArray⟩ := str_app2 [61, 99, 50] s
            have e2 : (⟨#[61, 99, 50]⟩ ++ ⟨u.toArray⟩ : ByteArray) = ⟨([61, 99, 50] ++ u).toArray⟩ := str_app2 [61, 99, 50] u
            have z1 : ¬ 9223372036854775807 < 3 + s.length := by omega
            have z2 : ¬ 9223372036854775807 < 3 + u.length := by omega
            have HK4 := Lib.hid hk4
            clear hk4 es
            have V1 := fun W => kValid ([61, 99, 50] ++ s) (by simp; omega) W
            have V2 := fun W => kValid ([61, 99, 50] ++ u) (by simp; omega) W
            have S1 := fun W => iSame_c ([61, 99, 50] ++ s) ([61, 99, 50] ++ u) W (by simp; omega) (by simp; omega)
            rcases h1 : (readS ([61, 99, 50] ++ s)).isSome with _ | _
            · rw [h1] at V1
              clear h1 V2 S1 hlaw
              go_wp2_with (go_at_call 7; refine (V1 _).mono ?_; clear V1; rintro e v1 ⟨rfl, b1⟩)
              exact ⟨⟨k + 1, by omega, by go_num, hBl.trans (b1.mono hsz)⟩, by simp [intOf]; omega⟩
            · rcases h2 : (readS ([61, 99, 50] ++ u)).isSome with _ | _
              · rw [h1] at V1
                rw [h2] at V2
                clear h1 h2 S1 hlaw
                go_wp2_with (go_at_call 7; first | (refine (V1 _).mono ?_; clear V1; rintro e v1 ⟨rfl, b1⟩) | (refine (V2 _).mono ?_; clear V2; rintro e v2 ⟨rfl, b2⟩))
                have B1 := hBl.trans (b1.mono hsz)
                exact ⟨⟨k + 1, by omega, by go_num, B1.trans (b2.mono B1.size)⟩, by simp [intOf]; omega⟩
              · have h3 := hlaw h1 h2
                rw [h1] at V1
                rw [h2] at V2
                simp only [h3] at S1
                clear h1 h2 h3 hlaw
                go_wp2_with (first | (go_at_call 7; first | (refine (V1 _).mono ?_; clear V1; rintro e v1 ⟨rfl, b1⟩) | (refine (V2 _).mono ?_; clear V2; rintro e v2 ⟨rfl, b2⟩)) | (go_at_call 5; refine (S1 _).mono ?_; clear S1; rintro e v3 ⟨rfl, b3⟩))
                have B1 := hBl.trans (b1.mono hsz)
                have B2 := B1.trans (b2.mono B1.size)
                exact ⟨⟨k + 1, by omega, by go_num, B2.trans (b3.mono B2.size)⟩, by simp [intOf]; omega⟩
        · obtain rfl : k = 5 := by omega
          go_wp2_with fail
          go_ret
          exact ⟨rfl, hb0.trans (hBl.mono hb0.size)⟩
  · have hl2 : 1048576 < (l : Int) := by omega
    go_enter Try.func3, Try.ntmps3
    go_wp2_with fail
    go_ret
    exact ⟨rfl, Below.refl _ _⟩
end Go.Proofs.Ytojbffiffcfblaa
