import Derived.Test.YtcabmcpalgpfpaaMRc
import Derived.Test.YtcabmcpalgpfpaaMPe
import Derived.Deep.QuietTactic
import Derived.BigQuiet
/- The specification's Rename: its first guards. -/
namespace Go.Proofs.Ytcabmcpalgpfpaa
open Go.RowKit
open Ff
set_option linter.unusedVariables false
attribute [local irreducible] Calls

set_option maxRecDepth 100000 in
set_option maxHeartbeats 8000000 in
theorem sRename_no (s n m : Text) (w : World) (hl : s.length ≤ 9223372036854775807) (hl2 : n.length ≤ 9223372036854775807) (hl3 : m.length ≤ 9223372036854775807)
    (hno : ∀ t x y, readS s = some t → nameOf n = some x → nameOf m = some y → x ∈ bindsOf t → x ≠ y ∧ y ∈ bindsOf t) :
    Calls Try.prog 4 #[.string ⟨s.toArray⟩, .string ⟨n.toArray⟩, .string ⟨m.toArray⟩] w fun e w' => e = .returned (.tuple #[.string ⟨(textO (renO s n m)).toArray⟩, .bool (renO s n m).isSome]) ∧ Below w.heap.size w w' := by
  have C1 := sread_c s w hl
  have N1 := fun W => (sName_c n W hl2).mono fun e w' h => (⟨h.1, h.2.symm⟩ : e = .returned (.bool (nameOf n).isSome) ∧ w' = W)
  have N2 := fun W => (sName_c m W hl3).mono fun e w' h => (⟨h.1, h.2.symm⟩ : e = .returned (.bool (nameOf m).isSome) ∧ w' = W)
  obtain ⟨O, hO⟩ : ∃ O, O = renO s n m := ⟨_, rfl⟩
  rw [← hO]
  have HNO := Lib.hid hno
  clear hno
  rcases hr : readS s with _ | t
  · unfold renO at hO
    rw [hr] at hO C1
    obtain rfl : O = none := hO
    clear hr
    go_enter Try.func4, Try.ntmps4
    go_wp2_with fail
    refine C1.mono ?_
    clear C1
    rintro e w1 ⟨rfl, hb1⟩
    unfold zeroTm
    go_wp2_with fail
    have hB := hb1.alloc hb1.size (tmO 0 0 ⟨#[]⟩ none 0 0)
    go_quiet (fail)
    go_wp2_with fail
    go_ret2
    exact ⟨rfl, hB.trans ⟨rfl, rfl, rfl, Nat.le_refl _, fun _ _ => rfl⟩⟩
  · rw [hr] at C1
    obtain ⟨tg, td, tp⟩ := read_facts hr
    go_enter Try.func4, Try.ntmps4
    go_wp2_with fail
    refine C1.mono ?_
    clear C1
    rintro e w1 ⟨v1, rfl, hb1, hrep1⟩
    rcases hn : nameOf n with _ | x
    · obtain rfl : O = none := by rw [hO]; unfold renO; rw [hr, hn]; rfl
      rw [hn] at N1
      obtain ⟨x0, x1, x2, x3, x4, x5, rfl⟩ := hrep1.junk
      obtain ⟨a0, a1, a2, a3, _⟩ := cells4 (alloc_here w1 (tmO x0 x1 x2 x3 x4 x5))
      have hB := hb1.alloc hb1.size (tmO x0 x1 x2 x3 x4 x5)
      clear hn hr hO hrep1
      go_wp2_with fail
      go_quiet ((go_at_call 7; exact Calls.quiet_of_same (N1 _)))
      go_wp2_with fail
      go_ret2
      exact ⟨rfl, hB.trans ⟨rfl, rfl, rfl, Nat.le_refl _, fun _ _ => rfl⟩⟩
    · rcases hm : nameOf m with _ | y
      · obtain rfl : O = none := by rw [hO]; unfold renO; rw [hr, hn, hm]; rfl
        rw [hn] at N1
        rw [hm] at N2
        obtain ⟨x0, x1, x2, x3, x4, x5, rfl⟩ := hrep1.junk
        obtain ⟨a0, a1, a2, a3, _⟩ := cells4 (alloc_here w1 (tmO x0 x1 x2 x3 x4 x5))
        have hB := hb1.alloc hb1.size (tmO x0 x1 x2 x3 x4 x5)
        obtain ⟨rfl, hx⟩ := name_some hn
        clear hn hm hr hO hrep1
        go_wp2_with fail
        go_quiet ((go_at_call 7; first | exact Calls.quiet_of_same (N1 _) | exact Calls.quiet_of_same (N2 _)))
        go_wp2_with fail
        go_ret2
        exact ⟨rfl, hB.trans ⟨rfl, rfl, rfl, Nat.le_refl _, fun _ _ => rfl⟩⟩
      · have HN2 := Lib.hid (HNO.out t x y hr hn hm)
        clear HNO
        obtain ⟨rfl, hx⟩ := name_some hn
        obtain ⟨rfl, hy⟩ := name_some hm
        rw [renO_eq hr hn hm] at hO
        rw [hn] at N1
        rw [hm] at N2
        simp only [Option.isSome_some] at N1 N2
        clear hr hn hm
        cases hrep1 with
        | mk _ g cap c hgS hc hkr =>
        unfold tmHead
        have hB := hb1.alloc hb1.size (tmO (kindOf t) (numOf t) ⟨(namesOf t).toArray⟩ (some ⟨g, 0, none⟩) t.kids.length cap)
        obtain ⟨a0, a1, a2, a3, _⟩ := cells4 (alloc_here w1 (tmO (kindOf t) (numOf t) ⟨(namesOf t).toArray⟩ (some ⟨g, 0, none⟩) t.kids.length cap))
        by_cases hv : ∃ d, t = .var d
        · obtain ⟨d, rfl⟩ := hv
          obtain rfl : O = none := by rw [hO]; simp [bindsOf]
          simp only [kindOf, namesOf, numOf, Tm.kids, List.length_nil] at a0 a1 a2 a3 hB ⊢
          clear hO hc hkr hb1
          go_wp2_with fail
          go_quiet ((go_at_call 7; first | exact Calls.quiet_of_same (N1 _) | exact Calls.quiet_of_same (N2 _)))
          go_wp2_with fail
          go_ret2
          exact ⟨rfl, hB.trans ⟨rfl, rfl, rfl, Nat.le_refl _, fun _ _ => rfl⟩⟩
        · have hv' : ∀ c, t ≠ .var c := fun d ed => hv ⟨d, ed⟩
          have hnm : namesOf t = bindsOf t := by cases t <;> first | rfl | exact absurd rfl (hv' _)
          have hkd : ((kindOf t : Int) == 118) = false := by
            rw [beq_eq_false_iff_ne]
            cases t with
            | op s l r => rcases tg.1 with h | h | h <;> subst h <;> simp [kindOf]
            | var c => exact absurd rfl (hv' c)
            | _ => simp [kindOf]
          rw [hnm] at a2 hB ⊢
          have hlen : (bindsOf t).length ≤ 2 := by cases t <;> simp [bindsOf]
          have F1 := fun W => find_c (bindsOf t) x W (by omega)
          have F2 := fun W => find_c (bindsOf t) y W (by omega)
          by_cases hxb : x ∈ bindsOf t
          rotate_left
          · obtain rfl : O = none := by rw [hO]; simp [hxb]
            simp only [findI_none hxb] at F1
            clear hO hxb hc hkr hb1
            generalize (kindOf t : Int) = kd at *
            generalize (numOf t : Int) = nu at *
            generalize bindsOf t = ns at *
            generalize t.kids.length = kl at *
            go_wp2_with fail
            go_quiet ((first | (go_at_call 7; first | exact Calls.quiet_of_same (N1 _) | exact Calls.quiet_of_same (N2 _)) | (go_at_call 8; exact Calls.quiet_of_same (F1 _))))
            go_wp2_with fail
            go_ret2
            exact ⟨rfl, hB.trans ⟨rfl, rfl, rfl, Nat.le_refl _, fun _ _ => rfl⟩⟩
          · have hb : bindsOf t ≠ [] := by intro e; rw [e] at hxb; cases hxb
            have hF1 : ¬ findI x (bindsOf t) < 0 := fun h => (findI_mem _ _).1 h hxb
            by_cases hxy : x = y
            · exact absurd hxy (HN2.out hxb).1
            · have hxyb : (x == y) = false := by rw [beq_eq_false_iff_ne]; exact hxy
              by_cases hyb : y ∈ bindsOf t
              · obtain rfl : O = none := by rw [hO]; simp [hxy, hyb]
                have hF2 : 0 ≤ findI y (bindsOf t) := by
                  have h2 : ¬ findI y (bindsOf t) < 0 := fun h => (findI_mem _ _).1 h hyb
                  omega
                clear hO hxb hc hkr hb1 hyb hb
                generalize findI x (bindsOf t) = i1 at *
                generalize findI y (bindsOf t) = i2 at *
                generalize (kindOf t : Int) = kd at *
                generalize (numOf t : Int) = nu at *
                generalize bindsOf t = ns at *
                generalize t.kids.length = kl at *
                go_wp2_with fail
                go_quiet ((first | (go_at_call 7; first | exact Calls.quiet_of_same (N1 _) | exact Calls.quiet_of_same (N2 _)) | (go_at_call 8; first | exact Calls.quiet_of_same (F1 _) | exact Calls.quiet_of_same (F2 _))))
                go_wp2_with fail
                go_ret2
                exact ⟨rfl, hB.trans ⟨rfl, rfl, rfl, Nat.le_refl _, fun _ _ => rfl⟩⟩
              · exact absurd (HN2.out hxb).2 hyb
end Go.Proofs.Ytcabmcpalgpfpaa
