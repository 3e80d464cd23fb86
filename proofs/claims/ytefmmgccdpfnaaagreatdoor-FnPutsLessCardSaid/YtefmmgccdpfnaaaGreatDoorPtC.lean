import Derived.Test.YtefmmgccdpfnaaaGreatDoorMPt
import Derived.Test.YtefmmgccdpfnaaaGreatDoorMPg
import Derived.Test.YtefmmgccdpfnaaaGreatDoorMPs
/- How often names stand free where a term has been put, and how many parts there are then. No program in sight. -/
namespace Go.Proofs.YtefmmgccdpfnaaaGreatDoor
open Ff
set_option linter.unusedVariables false

theorem mem_set_dif {ns : Text} (h : Dif ns) {k : Nat} {c d : UInt8} (hc : ns[k]? = some c) (y : UInt8) : y ∈ ns.set k d ↔ y = d ∨ (y ∈ ns ∧ y ≠ c) := by
  have hk := (List.getElem?_eq_some_iff.1 hc).1
  constructor
  · intro hy
    obtain ⟨i, hi⟩ := List.getElem?_of_mem hy
    rw [List.getElem?_set] at hi
    by_cases hki : k = i
    · subst hki
      rw [if_pos rfl] at hi
      split at hi
      · exact .inl (Option.some.inj hi).symm
      · exact absurd hk ‹_›
    · rw [if_neg hki] at hi
      refine .inr ⟨List.mem_of_getElem? hi, fun e => ?_⟩
      subst e
      rcases Nat.lt_or_gt_of_ne hki with h1 | h1
      · exact h k i y h1 hc hi
      · exact h i k y h1 hi hc
  · rintro (rfl | ⟨hy, hne⟩)
    · exact List.mem_of_getElem? (i := k) (by rw [List.getElem?_set, if_pos rfl, if_pos hk])
    · obtain ⟨i, hi⟩ := List.getElem?_of_mem hy
      have hki : k ≠ i := fun e => by subst e; rw [hc] at hi; exact hne (Option.some.inj hi).symm
      exact List.mem_of_getElem? (i := i) (by rw [List.getElem?_set, if_neg hki]; exact hi)
theorem not_free {t : Tm} (hg : t.good) {y : UInt8} (h : y ∉ sfree t) : cntF t y = 0 := by
  have := mem_free hg y
  by_cases h0 : cntF t y = 0
  · exact h0
  · exact absurd (this.2 (by omega)) h
/-- What putting does to counts and parts, at one depth. -/
structure CntOk (n : Nat) : Prop where
  cnt : ∀ (x : UInt8) (u t : Tm), t.depth ≤ n → t.good → u.good → (subS n x u t).2 = true → ∀ y, cntF (subS n x u t).1 y = (if y = x then 0 else cntF t y) + cntF t x * cntF u y
  parts : ∀ (x : UInt8) (u t : Tm), t.depth ≤ n → t.good → u.good → (subS n x u t).2 = true → (parts (subS n x u t).1).length + cntF t x = (parts t).length + cntF t x * (parts u).length
/-- A binder's names and body after so many names: what stands free in the whole stays. -/
structure StepOk (fr : Text) (x : UInt8) (ns : Text) (b : Tm) (k : Nat) (s : Bs) : Prop where
  same : ∀ y, (if y ∈ s.ns then 0 else cntF s.b y) = (if y ∈ ns then 0 else cntF b y)
  out : x ∉ s.ns
  far : ∀ j c, j < k → s.ns[j]? = some c → c ∉ fr
  stay : s.left = false
theorem step_ok {n : Nat} (ih : CntOk n) {fr : Text} {x : UInt8} {ns : Text} {b : Tm} (hb : b.depth ≤ n) (hg : b.good) (hn : ∀ c ∈ ns, isNam c = true) (hd : Dif ns) (hx : x ∉ ns) : ∀ k, k ≤ ns.length → (stepsS (subS n) fr x ns b k).ok = true → StepOk fr x ns b k (stepsS (subS n) fr x ns b k)
  | 0, _, _ => ⟨fun _ => rfl, hx, fun j c h => by omega, rfl⟩
  | k + 1, hk, hok => by
    have K := stepsS_keep (fun y d t hd => subS_like n y d t hd) fr x ns b k
    have hok' : (stepsS (subS n) fr x ns b k).ok = true := by
      cases h : (stepsS (subS n) fr x ns b k).ok
      · have := stepsS_bad (subS n) fr x ns b k h 1
        rw [this] at hok; cases hok
      · rfl
    have S := step_ok ih (fr := fr) hb hg hn hd hx k (by omega) hok'
    generalize hs : stepsS (subS n) fr x ns b k = s at *
    have e : stepsS (subS n) fr x ns b (k + 1) = stepS (subS n) fr x k s := by rw [stepsS, hs]
    rw [e] at hok ⊢
    unfold stepS at hok ⊢
    rw [if_neg (by rw [S.stay]; decide)] at hok ⊢
    obtain ⟨c, hc⟩ : ∃ c, s.ns[k]? = some c := ⟨_, List.getElem?_eq_getElem (by rw [K.len]; omega)⟩
    rw [hc] at hok ⊢
    simp only at hok ⊢
    by_cases hcf : c ∈ fr
    · rw [if_pos hcf] at hok ⊢
      rcases hnew : newO (fr ++ sfree s.b ++ s.ns ++ [x]) with _ | d
      · rw [hnew] at hok; cases hok
      · rw [hnew] at hok
        simp only at hok ⊢
        obtain ⟨hdn, hdm⟩ := newO_nam hnew
        have hd1 : d ∉ fr := fun h => hdm (by simp [h])
        have hd2 : d ∉ sfree s.b := fun h => hdm (by simp [h])
        have hd3 : d ∉ s.ns := fun h => hdm (by simp [h])
        have hd4 : d ≠ x := fun h => hdm (by simp [h])
        have hdif := K.nod hd
        have hgs := K.like.good hg
        rw [hok', Bool.true_and] at hok
        have C := ih.cnt c (.var d) s.b (by rw [K.like.deep]; exact hb) hgs hdn hok
        have hd0 := not_free hgs hd2
        have hcm : c ∈ s.ns := List.mem_of_getElem? hc
        refine ⟨fun y => ?_, ?_, fun j c' hj hc' => ?_, rfl⟩
        · rw [← S.same y, C y]
          have hm := mem_set_dif hdif hc (d := d) y
          simp only [cntF]
          by_cases h1 : y = d
          · subst h1
            rw [if_pos (hm.2 (.inl rfl)), if_neg hd3, hd0]
          · by_cases h2 : y = c
            · subst h2
              have hne : y ∉ s.ns.set k d := fun h => by
                rcases hm.1 h with h | h
                · exact h1 h
                · exact h.2 rfl
              rw [if_neg hne, if_pos rfl, if_neg h1, if_pos hcm]
              simp
            · by_cases h3 : y ∈ s.ns
              · rw [if_pos (hm.2 (.inr ⟨h3, h2⟩)), if_pos h3]
              · have hne : y ∉ s.ns.set k d := fun h => by
                  rcases hm.1 h with h | h
                  · exact h1 h
                  · exact h3 h.1
                rw [if_neg hne, if_neg h2, if_neg h1, if_neg h3]
                simp
        · intro h
          rcases (mem_set_dif hdif hc (d := d) x).1 h with h | h
          · exact hd4 h.symm
          · exact S.out h.1
        · rw [List.getElem?_set] at hc'
          by_cases hkj : k = j
          · subst hkj
            rw [if_pos rfl] at hc'
            split at hc'
            · rw [← Option.some.inj hc']; exact hd1
            · cases hc'
          · rw [if_neg hkj] at hc'
            exact S.far j c' (by omega) hc'
    · rw [if_neg hcf] at hok ⊢
      refine ⟨S.same, S.out, fun j c' hj hc' => ?_, S.stay⟩
      by_cases hkj : k = j
      · subst hkj
        rw [hc] at hc'
        rw [← Option.some.inj hc']; exact hcf
      · exact S.far j c' (by omega) hc'
theorem und_cnt {n : Nat} (ih : CntOk n) {x : UInt8} {ns : Text} {b u : Tm} (hb : b.depth ≤ n) (hg : b.good) (hu : u.good) (hn : ∀ c ∈ ns, isNam c = true) (hd : Dif ns) (hok : (undS (subS n) ns b x u).2.2 = true) :
    (∀ y, (if y ∈ (undS (subS n) ns b x u).1 then 0 else cntF (undS (subS n) ns b x u).2.1 y) = (if y = x then 0 else (if y ∈ ns then 0 else cntF b y)) + (if x ∈ ns then 0 else cntF b x) * cntF u y) ∧
    (parts (undS (subS n) ns b x u).2.1).length + (if x ∈ ns then 0 else cntF b x) = (parts b).length + (if x ∈ ns then 0 else cntF b x) * (parts u).length := by
  by_cases h : x ∈ ns ∨ cntF b x = 0
  · rw [undS_none _ _ _ _ _ h]
    have h0 : (if x ∈ ns then 0 else cntF b x) = 0 := by
      rcases h with h | h
      · rw [if_pos h]
      · rw [h]; split <;> rfl
    refine ⟨fun y => ?_, by rw [h0]; simp⟩
    rw [h0]
    by_cases hyx : y = x
    · subst hyx
      simp [h0]
    · simp [hyx]
  · have hxn : x ∉ ns := fun e => h (.inl e)
    have E := undS_ok (subS n) ns b x u h
    rw [E.1, Bool.and_eq_true] at hok
    have S := step_ok ih (fr := sfree u) hb hg hn hd hxn ns.length (Nat.le_refl _) hok.1
    have K := stepsS_keep (fun y d t hd => subS_like n y d t hd) (sfree u) x ns b ns.length
    rw [E.2 hok.1]
    generalize stepsS (subS n) (sfree u) x ns b ns.length = s at *
    simp only
    have hgs := K.like.good hg
    have C := ih.cnt x u s.b (by rw [K.like.deep]; exact hb) hgs hu hok.2
    have P := ih.parts x u s.b (by rw [K.like.deep]; exact hb) hgs hu hok.2
    have hxe : cntF s.b x = cntF b x := by
      have := S.same x
      rwa [if_neg S.out, if_neg hxn] at this
    rw [if_neg hxn]
    refine ⟨fun y => ?_, by rw [hxe, K.like.many] at P; exact P⟩
    by_cases hy : y ∈ s.ns
    · rw [if_pos hy]
      have h1 := S.same y
      rw [if_pos hy] at h1
      have h2 : cntF u y = 0 := by
        refine not_free hu ?_
        obtain ⟨j, hj⟩ := List.getElem?_of_mem hy
        exact S.far j y (by have := (List.getElem?_eq_some_iff.1 hj).1; have := K.len; omega) hj
      rw [← h1, h2]
      simp
    · rw [if_neg hy, C y, hxe]
      have h1 := S.same y
      rw [if_neg hy] at h1
      rw [← h1]
theorem cnt_ok : ∀ n, CntOk n
  | 0 => ⟨fun x u t hd => absurd hd (by have := t.depth_pos; omega), fun x u t hd => absurd hd (by have := t.depth_pos; omega)⟩
  | n + 1 => by
    have ih := cnt_ok n
    have both : ∀ (x : UInt8) (u t : Tm), t.depth ≤ n + 1 → t.good → u.good → (subS (n + 1) x u t).2 = true →
        (∀ y, cntF (subS (n + 1) x u t).1 y = (if y = x then 0 else cntF t y) + cntF t x * cntF u y) ∧ (parts (subS (n + 1) x u t).1).length + cntF t x = (parts t).length + cntF t x * (parts u).length := by
      intro x u t hd hg hu hok
      cases t with
      | num k => exact ⟨fun y => by simp [subS, cntF], by simp [subS, cntF]⟩
      | var c =>
        by_cases h : c = x
        · subst h
          refine ⟨fun y => ?_, by simp [subS, cntF, parts]; omega⟩
          by_cases hy : y = c <;> simp [subS, cntF, hy]
        · have h' : ¬ x = c := fun e => h e.symm
          refine ⟨fun y => ?_, by simp [subS, cntF, h, h']⟩
          by_cases hy : y = x
          · subst hy
            simp [subS, cntF, h, h']
          · simp [subS, cntF, h, h', hy]
      | fn c b =>
        have hd' : b.depth ≤ n := by simp only [Tm.depth] at hd; omega
        simp only [subS] at hok ⊢
        obtain ⟨c', e⟩ := one_of (undS_len n [c] b x u)
        obtain ⟨h1, h2⟩ := und_cnt ih hd' hg.2 hu (ns := [c]) (by simpa using hg.1) (by intro i j y hij h1 h2; rcases j with _ | j; omega; simp at h2) hok
        rw [e] at h1
        rw [e]
        refine ⟨fun y => ?_, ?_⟩
        · simp only [cntF, List.headD_cons]
          exact h1 y
        · simp only [cntF, parts, List.length_cons]
          omega
      | fix f c b =>
        have hd' : b.depth ≤ n := by simp only [Tm.depth] at hd; omega
        simp only [subS] at hok ⊢
        obtain ⟨f', c', e⟩ := two_of' (undS_len n [f, c] b x u)
        obtain ⟨h1, h2⟩ := und_cnt ih hd' hg.2.2.2 hu (ns := [f, c]) (fun y hy => by simp only [List.mem_cons, List.not_mem_nil, or_false] at hy; rcases hy with rfl | rfl; exact hg.1; exact hg.2.1) (binds_dif (t := .fix f c b) hg) hok
        rw [e] at h1
        rw [e]
        refine ⟨fun y => ?_, ?_⟩
        · simp only [cntF, List.headD_cons, List.drop_succ_cons, List.drop_zero]
          exact h1 y
        · simp only [cntF, parts, List.length_cons]
          omega
      | app f a =>
        simp only [Tm.depth] at hd
        simp only [subS, Bool.and_eq_true] at hok ⊢
        have c1 := ih.cnt x u f (by omega) hg.1 hu hok.1
        have c2 := ih.cnt x u a (by omega) hg.2 hu hok.2
        have p1 := ih.parts x u f (by omega) hg.1 hu hok.1
        have p2 := ih.parts x u a (by omega) hg.2 hu hok.2
        refine ⟨fun y => ?_, ?_⟩
        · simp only [cntF, c1, c2, Nat.add_mul]
          split <;> omega
        · simp only [cntF, parts, List.length_cons, List.length_append, Nat.add_mul]
          omega
      | bind c v b =>
        simp only [Tm.depth] at hd
        simp only [subS, Bool.and_eq_true] at hok ⊢
        obtain ⟨c', e⟩ := one_of (undS_len n [c] b x u)
        obtain ⟨h1, h2⟩ := und_cnt ih (show b.depth ≤ n by omega) hg.2.2 hu (ns := [c]) (by simpa using hg.1) (by intro i j y hij h1 h2; rcases j with _ | j; omega; simp at h2) hok.2
        have c1 := ih.cnt x u v (by omega) hg.2.1 hu hok.1
        have p1 := ih.parts x u v (by omega) hg.2.1 hu hok.1
        rw [e] at h1
        rw [e]
        refine ⟨fun y => ?_, ?_⟩
        · show (cntF (subS n x u v).1 y + (if y ∈ [c'] then 0 else cntF (undS (subS n) [c] b x u).2.1 y)) = _
          rw [h1 y, c1]
          simp only [cntF, Nat.add_mul]
          by_cases hyx : y = x
          · rw [if_pos hyx, if_pos hyx, if_pos hyx]; omega
          · rw [if_neg hyx, if_neg hyx, if_neg hyx]; omega
        · simp only [cntF, parts, List.length_cons, List.length_append, Nat.add_mul]
          omega
      | op o l r =>
        simp only [Tm.depth] at hd
        simp only [subS, Bool.and_eq_true] at hok ⊢
        have c1 := ih.cnt x u l (by omega) hg.2.1 hu hok.1
        have c2 := ih.cnt x u r (by omega) hg.2.2 hu hok.2
        have p1 := ih.parts x u l (by omega) hg.2.1 hu hok.1
        have p2 := ih.parts x u r (by omega) hg.2.2 hu hok.2
        refine ⟨fun y => ?_, ?_⟩
        · simp only [cntF, c1, c2, Nat.add_mul]
          split <;> omega
        · simp only [cntF, parts, List.length_cons, List.length_append, Nat.add_mul]
          omega
      | sel a b c =>
        simp only [Tm.depth] at hd
        simp only [subS, Bool.and_eq_true] at hok ⊢
        have c1 := ih.cnt x u a (by omega) hg.1 hu hok.1.1
        have c2 := ih.cnt x u b (by omega) hg.2.1 hu hok.1.2
        have c3 := ih.cnt x u c (by omega) hg.2.2 hu hok.2
        have p1 := ih.parts x u a (by omega) hg.1 hu hok.1.1
        have p2 := ih.parts x u b (by omega) hg.2.1 hu hok.1.2
        have p3 := ih.parts x u c (by omega) hg.2.2 hu hok.2
        refine ⟨fun y => ?_, ?_⟩
        · simp only [cntF, c1, c2, c3, Nat.add_mul]
          split <;> omega
        · simp only [cntF, parts, List.length_cons, List.length_append, Nat.add_mul]
          omega
    exact ⟨fun x u t h1 h2 h3 h4 => (both x u t h1 h2 h3 h4).1, fun x u t h1 h2 h3 h4 => (both x u t h1 h2 h3 h4).2⟩
end Go.Proofs.YtefmmgccdpfnaaaGreatDoor
