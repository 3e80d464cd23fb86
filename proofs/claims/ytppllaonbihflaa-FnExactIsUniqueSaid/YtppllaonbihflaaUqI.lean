/- IsUnique: the program's, and the statement's walk. -/
import Derived.Test.YtppllaonbihflaaUqS
import Derived.Test.YtppllaonbihflaaBdI
namespace Go.Proofs.Ytppllaonbihflaa
open Go.RowKit
open Ff
set_option linter.unusedVariables false

theorem fresh_iff : ∀ (l seen : Text), freshL seen l = true ↔ ∀ c, l.count c ≤ 1 ∧ (l.count c ≠ 0 → c ∉ seen) := by
  intro l
  induction l with
  | nil => intro seen; simp [freshL]
  | cons a r ih =>
    intro seen
    simp only [freshL, Bool.and_eq_true, decide_eq_true_eq, ih]
    constructor
    · rintro ⟨ha, h⟩ c
      obtain ⟨h1, h2⟩ := h c
      by_cases e : c = a
      · subst e
        have h0 : List.count c r = 0 := by
          apply Classical.byContradiction
          intro hn
          exact h2 hn (by simp)
        rw [List.count_cons_self]
        exact ⟨by omega, fun _ => ha⟩
      · have e2 : ¬ a = c := fun h => e h.symm
        rw [List.count_cons_of_ne e2]
        exact ⟨h1, fun hn hm => h2 hn (by simp [hm])⟩
    · intro h
      refine ⟨(h a).2 (by rw [List.count_cons_self]; omega), fun c => ?_⟩
      obtain ⟨h1, h2⟩ := h c
      by_cases e : c = a
      · subst e
        rw [List.count_cons_self] at h1
        exact ⟨by omega, fun hn => absurd (by omega) hn⟩
      · have e2 : ¬ a = c := fun h => e h.symm
        rw [List.count_cons_of_ne e2] at h1 h2
        exact ⟨h1, fun hn hm => by simp at hm; rcases hm with hm | hm; exact h2 hn hm; exact e hm⟩
theorem uniq_iff {t : Tm} (h : t.good) : uniqT t = true ↔ ∀ c, cntB (parts t) c ≤ 1 ∧ (cntB (parts t) c ≠ 0 → cntF t c = 0) := by
  unfold uniqT
  rw [fresh_iff]
  have e : ∀ c, List.count c (allB (parts t)) = cntB (parts t) c := fun c => rfl
  simp only [e]
  constructor
  · intro h1 c
    refine ⟨(h1 c).1, fun hn => ?_⟩
    apply Classical.byContradiction
    intro h0
    exact (h1 c).2 hn ((mem_free h c).2 h0)
  · intro h1 c
    exact ⟨(h1 c).1, fun hn hm => (mem_free h c).1 hm ((h1 c).2 hn)⟩
theorem parts_good' {t s : Tm} (h : t.good) (hs : s ∈ parts t) : s.good := by
  induction t with
  | num n => simp only [parts, List.mem_singleton] at hs; subst hs; exact h
  | var c => simp only [parts, List.mem_singleton] at hs; subst hs; exact h
  | fn c b ih => simp only [parts, List.mem_cons] at hs; rcases hs with rfl | hs; exact h; exact ih h.2 hs
  | fix f c b ih => simp only [parts, List.mem_cons] at hs; rcases hs with rfl | hs; exact h; exact ih h.2.2.2 hs
  | app f a h1 h2 => simp only [parts, List.mem_cons, List.mem_append] at hs; rcases hs with rfl | hs | hs; exact h; exact h1 h.1 hs; exact h2 h.2 hs
  | bind c f a h1 h2 => simp only [parts, List.mem_cons, List.mem_append] at hs; rcases hs with rfl | hs | hs; exact h; exact h1 h.2.1 hs; exact h2 h.2.2 hs
  | op c f a h1 h2 => simp only [parts, List.mem_cons, List.mem_append] at hs; rcases hs with rfl | hs | hs; exact h; exact h1 h.2.1 hs; exact h2 h.2.2 hs
  | sel a b c h1 h2 h3 => simp only [parts, List.mem_cons, List.mem_append] at hs; rcases hs with rfl | hs | hs | hs; exact h; exact h1 h.1 hs; exact h2 h.2.1 hs; exact h3 h.2.2 hs

set_option maxRecDepth 100000 in
set_option maxHeartbeats 2000000 in
theorem iIsUnique_c (s : Text) (w : World) (hl : s.length ≤ 9223372036854775807) :
    Calls Try.prog 19 #[.string ⟨s.toArray⟩] w fun e w' => e = .returned (.bool (uniqB (readT s))) ∧ Below w.heap.size w w' := by
  have C := read_c s w hl
  go_enter Try.func19, Try.ntmps19
  go_wp2_with fail
  refine C.mono ?_
  clear C
  rcases hr : readT s with _ | t
  · rintro e w1 ⟨rfl, hb1⟩
    have HR := Lib.hid hr
    clear hr
    go_wp2_with fail
    go_ret
    exact ⟨by rw [HR.out]; rfl, hb1⟩
  · rintro e w1 ⟨rfl, hb1⟩
    have hs := readS_eq s ▸ hr
    have D := freeIn_c 1000 t w1 (by have := readS_depth hs; omega) (by omega) (by have := readS_parts hs; omega) (readS_good hs)
    have D2 := fun w2 => boundIn_c t (fun s h => parts_good' (readS_good hs) h) (by have := readS_parts hs; omega) w2
    have hu := uniq_iff (readS_good hs)
    have hcb := fun c => cntB_le (parts t) c
    have hcf := fun c => cnt_le t c
    have hp := readS_parts hs
    rw [enc_ty t] at D D2 ⊢
    have HR := Lib.hid hr
    have HU := Lib.hid hu
    clear hr hs hu
    go_wp2_with (first
      | (go_at_call 40; refine D.mono ?_; clear D; rintro e w2 ⟨b, k, rfl, hbw, hk, hT, hb2⟩)
      | (go_at_call 51; refine (D2 w2).mono ?_; clear D2; rintro e w3 ⟨b2, k2, rfl, hbw2, hk2, hT2, hb3⟩)
      | (at_range; refine wpList_range_tally rfl _ rfl rfl hT2 ?_; intro w4 cnt0 hu0 hc0 hg4 hs4))
    go_frame
    have hl2 := hT.lt
    have hl3 := hT2.lt
    have hT4 := (hT.below hb3).kept hg4 (by simp)
    have hB4 : Below w.heap.size w w4 := (hb1.trans ((hb2.trans (hb3.mono hb2.size)).mono hb1.size)).grown hg4 (by have := hb1.size; have := hb2.size; have := hb3.size; omega) (fun j hj => by cases hj)
    have hz := hb3.size
    have hz1 := hb1.size
    have hz2 := hb2.size
    go_loopw [6] (fun _ wr => ∃ left cnt, Under wr b2 w3.heap.size k2 (cntB (parts t)) left cnt ∧ Tally wr b k (cntF t) ∧ (∀ c, left c = false → cntB (parts t) c ≤ 1 ∧ (cntB (parts t) c ≠ 0 → cntF t c = 0)) ∧ w4.grownBy wr (some w3.heap.size))
      (fun _ wr => wr.rangeLeft b2 w3.heap.size)
    case atStart => exact ⟨_, cnt0, hu0, hT4, fun c hc => by simp at hc; omega, World.grownBy.refl _ _⟩
    case round =>
      obtain ⟨left, cnt, hun, htn, hok, hgr⟩ := hrel
      have HOK := Lib.hid hok
      clear hok
      have hBr : Below w.heap.size w wr := hB4.grown hgr hB4.size (fun j hj => by cases hj; omega)
      go_wp2_with (at_next; refine wpList_next_tally rfl _ rfl rfl hun ?_ ?_)
      · intro hl0
        go_wp2
        go_ret
        refine ⟨?_, hBr⟩
        rw [HR.out]
        show _ = Ending.returned (.bool (uniqT t))
        rw [HU.out.2 (fun c => HOK.out c (hl0 c))]
        rfl
      · intro c w5 cnt1 hlc hmc hu1 hlt hg1 hs1 hen
        have hT5 := htn.kept hg1 (fun e => by have := Option.some.inj e; omega)
        have hlook := hT5.look c
        have hcb1 := hcb c
        have hcf1 := hcf c
        have hB5 : Below w.heap.size w w5 := hBr.grown hg1 hBr.size (fun j hj => by cases hj; omega)
        by_cases h1 : 1 < cntB (parts t) c
        · go_wp2_with fail
          go_ret
          refine ⟨?_, hB5⟩
          rw [HR.out]
          show _ = Ending.returned (.bool (uniqT t))
          have e : uniqT t = false := by
            rw [Bool.eq_false_iff]
            intro h
            have := (HU.out.1 h c).1
            omega
          rw [e]
          rfl
        · by_cases h2 : 0 < cntF t c
          · go_wp2_with fail
            go_ret
            refine ⟨?_, hB5⟩
            rw [HR.out]
            show _ = Ending.returned (.bool (uniqT t))
            have e : uniqT t = false := by
              rw [Bool.eq_false_iff]
              intro h
              have := (HU.out.1 h c).2 hmc
              omega
            rw [e]
            rfl
          · go_wp2_with fail
            refine ⟨⟨_, cnt1, hu1, hT5, fun x hx => ?_, hgr.andThen hg1 (fun j hj => Or.inr hj)⟩, by rw [hu1.left_eq, hun.left_eq]; exact hlt⟩
            by_cases e : x = c
            · subst e
              exact ⟨by omega, fun _ => by omega⟩
            · exact HOK.out x (by simpa [e] using hx)
set_option maxHeartbeats 1000000 in
theorem law_unique (s : Text) (w : World) (hl : s.length ≤ 9223372036854775807) :
    Calls Try.prog 7 #[.string ⟨s.toArray⟩] w fun e w' => e = .returned (.bool true) ∧ Below w.heap.size w w' := by
  by_cases h : s.length ≤ 1048576
  · have h2 : (s.length : Int) ≤ 1048576 := by omega
    have C1 := sIsUnique_c s w hl
    have C2 := fun w => iIsUnique_c s w hl
    rw [readS_eq] at C1
    generalize uniqB (readT s) = b at C1 C2
    go_enter Try.func7, Try.ntmps7
    cases b
    all_goals
      go_wp2_with (first
        | (go_at_call 18; refine C1.mono ?_; clear C1; rintro e w1 ⟨rfl, hb1⟩)
        | (go_at_call 19; refine (C2 w1).mono ?_; clear C2; rintro e w2 ⟨rfl, hb2⟩))
      go_ret
      exact ⟨rfl, hb1.trans (hb2.mono hb1.size)⟩
  · have h2 : 1048576 < (s.length : Int) := by omega
    go_enter Try.func7, Try.ntmps7
    go_wp2_with fail
    go_ret
    exact ⟨rfl, Below.refl _ _⟩
end Go.Proofs.Ytppllaonbihflaa
