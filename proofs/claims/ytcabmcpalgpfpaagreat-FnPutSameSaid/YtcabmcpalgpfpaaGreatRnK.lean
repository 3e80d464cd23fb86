import Derived.Test.YtcabmcpalgpfpaaGreatMNu
import Derived.Test.YtcabmcpalgpfpaaGreatMRc
/- A name put for another one, and nameless terms: what the renaming of a binder leaves as it was. No program in sight. -/
namespace Go.Proofs.YtcabmcpalgpfpaaGreat
open Ff
set_option linter.unusedVariables false

/-- What is not free does not matter. -/
theorem knT_free : ∀ (n : Nat) (f g : UInt8 → Int) (t : Tm), (∀ c, cntF t c ≠ 0 → f c = g c) → knT n f t = knT n g t
  | 0, _, _, _, _ => rfl
  | n + 1, f, g, t, h => by
    have hb : ∀ (ns : Text) (b : Tm), (∀ c, c ∉ ns → cntF b c ≠ 0 → f c = g c) → knT n (deeper ns f) b = knT n (deeper ns g) b := fun ns b hh => knT_free n _ _ b fun c hc => by
      by_cases hm : c ∈ ns
      · rw [(deeper_in hm).1, (deeper_in hm).1]
      · rw [deeper_out hm, deeper_out hm, hh c hm hc]
    cases t with
    | num k => rfl
    | var c =>
      have e := h c (by simp [cntF])
      simp only [knT, e]
    | fn c b =>
      simp only [knT]
      rw [hb [c] b fun d hd hc => h d (by simp only [cntF]; rw [if_neg hd]; exact hc)]
    | fix k c b =>
      simp only [knT]
      rw [hb [k, c] b fun d hd hc => h d (by simp only [cntF]; rw [if_neg hd]; exact hc)]
    | app x y =>
      simp only [knT]
      rw [knT_free n f g x fun c hc => h c (by simp only [cntF]; omega), knT_free n f g y fun c hc => h c (by simp only [cntF]; omega)]
    | bind c x y =>
      simp only [knT]
      rw [knT_free n f g x fun d hc => h d (by simp only [cntF]; omega), hb [c] y fun d hd hc => h d (by simp only [cntF]; rw [if_neg hd]; omega)]
    | op o x y =>
      simp only [knT]
      rw [knT_free n f g x fun c hc => h c (by simp only [cntF]; omega), knT_free n f g y fun c hc => h c (by simp only [cntF]; omega)]
    | sel x y z =>
      simp only [knT]
      rw [knT_free n f g x fun c hc => h c (by simp only [cntF]; omega), knT_free n f g y fun c hc => h c (by simp only [cntF]; omega), knT_free n f g z fun c hc => h c (by simp only [cntF]; omega)]
/-- A function that tells of one name what it tells of another one. -/
def asF (g : UInt8 → Int) (x d : UInt8) (c : UInt8) : Int := if c = x then g d else g c
/-- What a renaming by sub does to nameless terms. -/
def SubK (n : Nat) (sub : UInt8 → Tm → Tm → Tm × Bool) : Prop := ∀ (x d : UInt8) (t : Tm) (g : UInt8 → Int), t.good → isNam d = true → 0 ≤ g d → (sub x (.var d) t).2 = true → knT n g (sub x (.var d) t).1 = knT n (asF g x d) t
theorem findI_dif {ns : Text} (h : Dif ns) {i : Nat} {d : UInt8} (hi : ns[i]? = some d) : findI d ns = i := by
  refine findI_at hi fun hm => ?_
  obtain ⟨j, hj⟩ := List.getElem?_of_mem hm
  rw [List.getElem?_take] at hj
  split at hj
  · rename_i hlt
    exact h j i d hlt hj hi
  · cases hj
theorem findI_set {ns : Text} {k : Nat} {c d e : UInt8} (hk : ns[k]? = some c) (h1 : e ≠ c) (h2 : e ≠ d) : findI e (ns.set k d) = findI e ns := by
  induction ns generalizing k with
  | nil => simp at hk
  | cons a s ih =>
    cases k with
    | zero =>
      simp at hk
      subst hk
      simp only [List.set_cons_zero, findI]
      rw [if_neg (show ¬ d = e from fun q => h2 q.symm), if_neg (show ¬ a = e from fun q => h1 q.symm)]
    | succ k =>
      simp only [List.getElem?_cons_succ] at hk
      simp only [List.set_cons_succ, findI]
      rw [ih hk]
theorem findI_put {ns : Text} {k : Nat} {c d : UInt8} (hk : ns[k]? = some c) (hd : d ∉ ns) : findI d (ns.set k d) = k := by
  have hl := (List.getElem?_eq_some_iff.1 hk).1
  refine findI_at (by simp [hl]) fun hm => ?_
  rw [List.take_set, List.set_eq_of_length_le (by rw [List.length_take]; omega)] at hm
  exact hd (List.mem_of_mem_take hm)
/-- One name of a binder gets another one, that is new: the same nameless terms. -/
theorem knT_other (n : Nat) (sub : UInt8 → Tm → Tm → Tm × Bool) (hs : SubK n sub) (ns : Text) (b : Tm) (k : Nat) (c d : UInt8) (g : UInt8 → Int) (hg : b.good) (hD : Dif ns) (hk : ns[k]? = some c) (hdn : isNam d = true) (hd : d ∉ ns) (hf : cntF b d = 0) (hok : (sub c (.var d) b).2 = true) :
    knT n (deeper (ns.set k d) g) (sub c (.var d) b).1 = knT n (deeper ns g) b := by
  have hl := (List.getElem?_eq_some_iff.1 hk).1
  have hcm : c ∈ ns := List.mem_of_getElem? hk
  have hdm : d ∈ ns.set k d := List.mem_of_getElem? (show (ns.set k d)[k]? = some d by simp [hl])
  rw [hs c d b _ hg hdn (deeper_in hdm).2.1 hok]
  refine knT_free n _ _ b fun e he => ?_
  unfold asF
  by_cases hec : e = c
  · subst hec
    rw [if_pos rfl, (deeper_in hdm).1, (deeper_in hcm).1, findI_put hk hd, findI_dif hD hk, List.length_set]
  · rw [if_neg hec]
    have hed : e ≠ d := fun h => by subst h; exact he hf
    unfold deeper
    rw [findI_set hk hec hed, List.length_set]
theorem stepsS_okAt {sub : UInt8 → Tm → Tm → Tm × Bool} {fr : Text} {x : UInt8} {ns : Text} {b : Tm} {m : Nat} (h : (stepsS sub fr x ns b m).ok = true) : ∀ k, k ≤ m → (stepsS sub fr x ns b k).ok = true ∧ (stepsS sub fr x ns b k).left = false := fun k hk => by
  have h1 : (stepsS sub fr x ns b k).ok = true := by
    rcases hh : (stepsS sub fr x ns b k).ok with _ | _
    · have := stepsS_bad sub fr x ns b k hh (m - k)
      rw [show k + (m - k) = m by omega, h] at this
      cases this
    · rfl
  refine ⟨h1, ?_⟩
  rcases hh : (stepsS sub fr x ns b k).left with _ | _
  · rfl
  · rw [stepsS_left_bad sub fr x ns b k hh] at h1; cases h1
/-- A binder's names get other ones: the same nameless terms; and the names behind do not stand free in what is put. -/
theorem stepsS_kn (n : Nat) (sub : UInt8 → Tm → Tm → Tm × Bool) (hs : SubK n sub) (hsub : ∀ x d t, isNam d = true → Alike (sub x (.var d) t).1 t) (fr : Text) (x : UInt8) (ns : Text) (b : Tm) (hg : b.good) (hD : Dif ns) (hx : x ∉ ns) (m : Nat) (hok : (stepsS sub fr x ns b m).ok = true) :
    ∀ k, k ≤ m → (∀ g, knT n (deeper (stepsS sub fr x ns b k).ns g) (stepsS sub fr x ns b k).b = knT n (deeper ns g) b) ∧ x ∉ (stepsS sub fr x ns b k).ns ∧ ∀ (i : Nat) (c : UInt8), i < k → (stepsS sub fr x ns b k).ns[i]? = some c → c ∉ fr
  | 0, _ => ⟨fun g => rfl, hx, fun i c hi => by omega⟩
  | k + 1, hk => by
    obtain ⟨ih1, ih2, ih3⟩ := stepsS_kn n sub hs hsub fr x ns b hg hD hx m hok k (by omega)
    have K := stepsS_keep hsub fr x ns b k
    obtain ⟨o1, o2⟩ := stepsS_okAt hok (k + 1) hk
    obtain ⟨_, p2⟩ := stepsS_okAt hok k (by omega)
    have e : stepsS sub fr x ns b (k + 1) = stepS sub fr x k (stepsS sub fr x ns b k) := rfl
    rw [e] at o1 o2 ⊢
    generalize stepsS sub fr x ns b k = s at *
    unfold stepS at o1 o2 ⊢
    rw [if_neg (by rw [p2]; decide)] at o1 o2 ⊢
    rcases hc : s.ns[k]? with _ | c
    · simp only
      refine ⟨ih1, ih2, fun i c hi hic => ?_⟩
      have h1 := (List.getElem?_eq_some_iff.1 hic).1
      have h2 := List.getElem?_eq_none_iff.1 hc
      exact ih3 i c (by omega) hic
    · rw [hc] at o1 o2
      simp only at o1 o2 ⊢
      by_cases hcf : c ∈ fr
      · rw [if_pos hcf] at o1 o2 ⊢
        rcases hn : newO (fr ++ sfree s.b ++ s.ns ++ [x]) with _ | d
        · rw [hn] at o2; cases o2
        · rw [hn] at o1 o2
          simp only [Bool.and_eq_true] at o1 ⊢
          obtain ⟨hdn, hdm⟩ := newO_nam hn
          simp only [List.mem_append, List.mem_singleton, not_or] at hdm
          obtain ⟨⟨⟨d1, d2⟩, d3⟩, d4⟩ := hdm
          have gb := K.like.good hg
          have hf : cntF s.b d = 0 := by
            apply Classical.byContradiction
            intro h
            exact d2 ((mem_free gb d).2 h)
          refine ⟨fun g => ?_, fun hm => ?_, fun i e hi hie => ?_⟩
          · rw [knT_other n sub hs s.ns s.b k c d g gb (K.nod hD) hc hdn d3 hf o1.2]
            exact ih1 g
          · rcases List.mem_or_eq_of_mem_set hm with h | h
            · exact ih2 h
            · exact d4 h.symm
          · rw [List.getElem?_set] at hie
            split at hie
            · split at hie
              · injection hie with hie; subst hie; exact d1
              · cases hie
            · exact ih3 i e (by omega) hie
      · rw [if_neg hcf]
        refine ⟨ih1, ih2, fun i e hi hie => ?_⟩
        by_cases hik : i = k
        · subst hik
          rw [hc] at hie
          injection hie with hie
          subst hie; exact hcf
        · exact ih3 i e (by omega) hie
/-- A binder's part in a renaming. -/
theorem undS_kn (n : Nat) (sub : UInt8 → Tm → Tm → Tm × Bool) (hs : SubK n sub) (hsub : ∀ x d t, isNam d = true → Alike (sub x (.var d) t).1 t) (ns : Text) (b : Tm) (x d : UInt8) (g : UInt8 → Int) (hg : b.good) (hD : Dif ns) (hdn : isNam d = true) (h0 : 0 ≤ g d) (hok : (undS sub ns b x (.var d)).2.2 = true) :
    knT n (deeper (undS sub ns b x (.var d)).1 g) (undS sub ns b x (.var d)).2.1 = knT n (deeper ns (asF g x d)) b := by
  by_cases h : x ∈ ns ∨ cntF b x = 0
  · rw [undS_none _ _ _ _ _ h]
    refine knT_free n _ _ b fun c hc => ?_
    by_cases hm : c ∈ ns
    · rw [(deeper_in hm).1, (deeper_in hm).1]
    · have hcx : c ≠ x := fun e => by
        subst e
        rcases h with h | h
        · exact hm h
        · exact hc h
      rw [deeper_out hm, deeper_out hm]
      unfold asF
      rw [if_neg hcx]
  · obtain ⟨h1, h2⟩ := undS_ok sub ns b x (.var d) h
    rw [h1, Bool.and_eq_true] at hok
    obtain ⟨o1, o2⟩ := hok
    rw [h2 o1]
    have hxn : x ∉ ns := fun e => h (.inl e)
    obtain ⟨k1, k2, k3⟩ := stepsS_kn n sub hs hsub (sfree (.var d)) x ns b hg hD hxn ns.length o1 ns.length (Nat.le_refl _)
    have K := stepsS_keep hsub (sfree (.var d)) x ns b ns.length
    generalize stepsS sub (sfree (.var d)) x ns b ns.length = s at *
    have hdn' : d ∉ s.ns := fun hm => by
      obtain ⟨i, hi⟩ := List.getElem?_of_mem hm
      have hil := (List.getElem?_eq_some_iff.1 hi).1
      exact k3 i d (by rw [← K.len]; exact hil) hi (by simp [sfree])
    show knT n (deeper s.ns g) (sub x (.var d) s.b).1 = _
    rw [hs x d s.b _ (K.like.good hg) hdn (by rw [deeper_out hdn', if_neg (by omega)]; omega) o2, ← k1 (asF g x d)]
    congr 1
    funext c
    unfold asF
    by_cases hcx : c = x
    · subst hcx
      rw [if_pos rfl, deeper_out hdn', deeper_out k2, if_pos rfl]
    · rw [if_neg hcx]
      by_cases hm : c ∈ s.ns
      · rw [(deeper_in hm).1, (deeper_in hm).1]
      · rw [deeper_out hm, deeper_out hm, if_neg hcx]
theorem undS_shape {n : Nat} {ns : Text} {b : Tm} {x d : UInt8} (hd : isNam d = true) : (undS (subS n) ns b x (.var d)).1.length = ns.length := (undS_like (fun x d t h => subS_like n x d t h) ns b x d hd).len
/-- A name put for another one. -/
theorem subS_kn : ∀ n, SubK n (subS n)
  | 0 => fun _ _ _ _ _ _ _ _ => rfl
  | n + 1 => fun x d t g hg hd h0 hok => by
    have ih := subS_kn n
    have hl := fun x d t h => subS_like n x d t h
    have kg := fun s (hs : s ∈ t.kids) => Tm.kid_good hg hs
    have hD := binds_dif hg
    cases t with
    | num k => rfl
    | var c =>
      by_cases h : c = x
      · subst h
        have e : g d ≠ -1 := by omega
        simp [subS, knT, asF, e]
      · simp [subS, knT, asF, h]
    | fn c b =>
      simp only [subS] at hok
      have e := undS_kn n (subS n) ih hl [c] b x d g (kg b (by simp [Tm.kids])) hD hd h0 hok
      obtain ⟨c', hc'⟩ := one_of (undS_shape (n := n) (ns := [c]) (b := b) (x := x) hd)
      simp only [subS, knT, hc', List.headD_cons] at e ⊢
      rw [e]
    | fix k c b =>
      simp only [subS] at hok
      have e := undS_kn n (subS n) ih hl [k, c] b x d g (kg b (by simp [Tm.kids])) hD hd h0 hok
      obtain ⟨k', c', hc'⟩ := two_of' (undS_shape (n := n) (ns := [k, c]) (b := b) (x := x) hd)
      simp only [subS, knT, hc', List.headD_cons, List.drop_succ_cons, List.drop_zero] at e ⊢
      rw [e]
    | app f a =>
      simp only [subS, Bool.and_eq_true] at hok
      simp only [subS, knT]
      rw [ih x d f g (kg f (by simp [Tm.kids])) hd h0 hok.1, ih x d a g (kg a (by simp [Tm.kids])) hd h0 hok.2]
    | bind c v b =>
      simp only [subS, Bool.and_eq_true] at hok
      have e := undS_kn n (subS n) ih hl [c] b x d g (kg b (by simp [Tm.kids])) hD hd h0 hok.2
      obtain ⟨c', hc'⟩ := one_of (undS_shape (n := n) (ns := [c]) (b := b) (x := x) hd)
      simp only [subS, knT, hc', List.headD_cons] at e ⊢
      rw [e, ih x d v g (kg v (by simp [Tm.kids])) hd h0 hok.1]
    | op o l r =>
      simp only [subS, Bool.and_eq_true] at hok
      simp only [subS, knT]
      rw [ih x d l g (kg l (by simp [Tm.kids])) hd h0 hok.1, ih x d r g (kg r (by simp [Tm.kids])) hd h0 hok.2]
    | sel a b c =>
      simp only [subS, Bool.and_eq_true] at hok
      simp only [subS, knT]
      rw [ih x d a g (kg a (by simp [Tm.kids])) hd h0 hok.1.1, ih x d b g (kg b (by simp [Tm.kids])) hd h0 hok.1.2, ih x d c g (kg c (by simp [Tm.kids])) hd h0 hok.2]

/-! The text is as long. -/
theorem stepsS_long {sub : UInt8 → Tm → Tm → Tm × Bool} (hs : ∀ x d t, (textN (sub x (.var d) t).1).length = (textN t).length) (fr : Text) (x : UInt8) (ns : Text) (b : Tm) : ∀ k, (textN (stepsS sub fr x ns b k).b).length = (textN b).length
  | 0 => rfl
  | k + 1 => by
    have ih := stepsS_long hs fr x ns b k
    rw [stepsS]
    generalize stepsS sub fr x ns b k = s at *
    unfold stepS
    split
    · exact ih
    · split
      · exact ih
      · split
        · split
          · exact ih
          · exact (hs _ _ _).trans ih
        · exact ih
theorem undS_long {sub : UInt8 → Tm → Tm → Tm × Bool} (hs : ∀ x d t, (textN (sub x (.var d) t).1).length = (textN t).length) (ns : Text) (b : Tm) (x d : UInt8) : (textN (undS sub ns b x (.var d)).2.1).length = (textN b).length := by
  have K := stepsS_long hs (sfree (.var d)) x ns b ns.length
  unfold undS
  split
  · rfl
  · split
    · exact K
    · exact (hs _ _ _).trans K
theorem subS_long : ∀ (n : Nat) (x d : UInt8) (t : Tm), (textN (subS n x (.var d) t).1).length = (textN t).length
  | 0, _, _, _ => rfl
  | n + 1, x, d, t => by
    have ih := subS_long n
    have hu := undS_long ih
    cases t with
    | num k => rfl
    | var c => simp only [subS]; split <;> rfl
    | fn c b => simp only [subS, textN, List.length_cons, hu]
    | fix k c b => simp only [subS, textN, List.length_cons, hu]
    | app f a => simp only [subS, textN, List.length_cons, List.length_append, ih]
    | bind c v b => simp only [subS, textN, List.length_cons, List.length_append, ih, hu]
    | op o l r => simp only [subS, textN, List.length_cons, List.length_append, ih]
    | sel a b c => simp only [subS, textN, List.length_cons, List.length_append, ih]

theorem kn_withNB (n : Nat) {t : Tm} (hb : bindsOf t ≠ []) (ns : Text) (r : Tm) (hsl : ns.length = (bindsOf t).length) (hkn : knT n (deeper ns noF) r = knT n (deeper (bindsOf t) noF) (lastK t)) : knT (n + 1) noF (withNB t ns r) = knT (n + 1) noF t := by
  cases t with
  | fn c b =>
    obtain ⟨c', hc'⟩ := one_of hsl
    rw [hc'] at hkn ⊢
    have hkn' : knT n (deeper [c'] noF) r = knT n (deeper [c] noF) b := hkn
    simp only [withNB, knT, List.headD_cons, hkn']
  | fix f c b =>
    obtain ⟨f', c', hc'⟩ := two_of' hsl
    rw [hc'] at hkn ⊢
    have hkn' : knT n (deeper [f', c'] noF) r = knT n (deeper [f, c] noF) b := hkn
    simp only [withNB, knT, List.headD_cons, List.drop_succ_cons, List.drop_zero, hkn']
  | bind c v b =>
    obtain ⟨c', hc'⟩ := one_of hsl
    rw [hc'] at hkn ⊢
    have hkn' : knT n (deeper [c'] noF) r = knT n (deeper [c] noF) b := hkn
    simp only [withNB, knT, List.headD_cons, hkn']
  | _ => exact absurd rfl hb
/-- What a renamed binder keeps. -/
structure RenFacts (t R : Tm) : Prop where
  good : R.good
  deep : R.depth = t.depth
  many : (parts R).length = (parts t).length
  long : (textN R).length = (textN t).length
  same : knT 24 noF R = knT 24 noF t
theorem ren_facts {t : Tm} {x y : UInt8} (hg : t.good) (hd : t.depth ≤ 24) (hxb : x ∈ bindsOf t) (hy : isNam y = true) (hny : y ∉ bindsOf t) (hf : cntF (lastK t) y = 0) (hok : (renT t x y).2 = true) : RenFacts t (renT t x y).1 := by
  have hb : bindsOf t ≠ [] := by intro e; rw [e] at hxb; cases hxb
  obtain ⟨h1, h2, h3⟩ := renT_ok hg hb (x := x) hy hny
  obtain ⟨k, hk⟩ := List.getElem?_of_mem hxb
  have hD := binds_dif hg
  have hlm := lastK_mem (binder_kids hb)
  have hlg := Tm.kid_good hg hlm
  have hkn := knT_other 24 (subS 24) (subS_kn 24) (bindsOf t) (lastK t) k x y noF hlg hD hk hy hny hf hok
  rw [set_swap hD hk y] at hkn
  have hlo := subS_long 24 x y (lastK t)
  have e : renT t x y = (withNB t (swap (bindsOf t) x y) (subS 24 x (.var y) (lastK t)).1, (subS 24 x (.var y) (lastK t)).2) := rfl
  have hsl := swap_len (bindsOf t) x y
  refine ⟨h1, h3, h2, ?_, ?_⟩
  · rw [e]
    generalize (subS 24 x (.var y) (lastK t)).1 = r at *
    cases t with
    | fn c b =>
      obtain ⟨c', hc'⟩ := one_of hsl
      rw [hc']
      have hlo' : (textN r).length = (textN b).length := hlo
      simp [withNB, textN, hlo']
    | fix f c b =>
      obtain ⟨f', c', hc'⟩ := two_of' hsl
      rw [hc']
      have hlo' : (textN r).length = (textN b).length := hlo
      simp [withNB, textN, hlo']
    | bind c v b =>
      obtain ⟨c', hc'⟩ := one_of hsl
      rw [hc']
      have hlo' : (textN r).length = (textN b).length := hlo
      simp [withNB, textN, hlo']
    | _ => exact absurd rfl hb
  · rw [← knT_fuel 24 noF t hd, ← knT_fuel 24 noF _ (by rw [h3]; exact hd), e]
    exact kn_withNB 24 hb _ _ hsl hkn
end Go.Proofs.YtcabmcpalgpfpaaGreat
