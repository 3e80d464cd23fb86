import Derived.Test.YtojbffiffcfblaaGreatNw
import Derived.Test.YtojbffiffcfblaaGreatMUq
import Derived.Test.YtojbffiffcfblaaGreatMNb
/- What is unique is the same as before, and unique. No program in sight. -/
namespace Go.Proofs.YtojbffiffcfblaaGreat
open Ff
set_option linter.unusedVariables false

theorem cntF_kid {t s : Tm} {i : Nat} (hs : t.kids[i]? = some s) (c : UInt8) : (i + 1 = t.kids.length ∧ c ∈ bindsOf t) ∨ cntF s c ≤ cntF t c := by
  have hi := (List.getElem?_eq_some_iff.1 hs).1
  cases t with
  | num k => simp [Tm.kids] at hs
  | var d => simp [Tm.kids] at hs
  | fn d b =>
    match i, hi with
    | 0, _ => simp [Tm.kids] at hs; subst hs; simp only [Tm.kids, bindsOf, cntF]; by_cases h : c ∈ [d]; exact .inl ⟨rfl, h⟩; right; rw [if_neg h]; omega
  | fix g d b =>
    match i, hi with
    | 0, _ => simp [Tm.kids] at hs; subst hs; simp only [Tm.kids, bindsOf, cntF]; by_cases h : c ∈ [g, d]; exact .inl ⟨rfl, h⟩; right; rw [if_neg h]; omega
  | app x y =>
    match i, hi with
    | 0, _ => simp [Tm.kids] at hs; subst hs; right; simp only [cntF]; omega
    | 1, _ => simp [Tm.kids] at hs; subst hs; right; simp only [cntF]; omega
  | bind d x y =>
    match i, hi with
    | 0, _ => simp [Tm.kids] at hs; subst hs; right; simp only [cntF]; omega
    | 1, _ => simp [Tm.kids] at hs; subst hs; simp only [Tm.kids, bindsOf, cntF]; by_cases h : c ∈ [d]; exact .inl ⟨rfl, h⟩; right; rw [if_neg h]; omega
  | op o x y =>
    match i, hi with
    | 0, _ => simp [Tm.kids] at hs; subst hs; right; simp only [cntF]; omega
    | 1, _ => simp [Tm.kids] at hs; subst hs; right; simp only [cntF]; omega
  | sel x y z =>
    match i, hi with
    | 0, _ => simp [Tm.kids] at hs; subst hs; right; simp only [cntF]; omega
    | 1, _ => simp [Tm.kids] at hs; subst hs; right; simp only [cntF]; omega
    | 2, _ => simp [Tm.kids] at hs; subst hs; right; simp only [cntF]; omega
theorem nd_inj {l : List UInt8} (h : l.Nodup) : ∀ (i j : Nat) (d : UInt8), l[i]? = some d → l[j]? = some d → i = j := by
  induction l with
  | nil => intro i j d h1; simp at h1
  | cons a l ih =>
    obtain ⟨ha, hl⟩ := List.nodup_cons.1 h
    intro i j d h1 h2
    cases i with
    | zero =>
      cases j with
      | zero => rfl
      | succ j => simp at h1 h2; subst h1; exact absurd (List.mem_of_getElem? h2) ha
    | succ i =>
      cases j with
      | zero => simp at h1 h2; subst h2; exact absurd (List.mem_of_getElem? h1) ha
      | succ j => simp at h1 h2; rw [ih hl i j d h1 h2]
theorem findI_nodup {ns : Text} (h : ns.Nodup) {i : Nat} {d : UInt8} (hi : ns[i]? = some d) : findI d ns = i := by
  refine findI_at hi fun hm => ?_
  obtain ⟨j, hj⟩ := List.getElem?_of_mem hm
  have hjl := (List.getElem?_eq_some_iff.1 hj).1
  simp only [List.length_take] at hjl
  rw [List.getElem?_take, if_pos (by omega)] at hj
  have := nd_inj h i j d hi hj
  omega
/-- What happened at one kid. -/
theorem unqAt_at {F : (UInt8 → UInt8) → Text → Tm → Option (Tm × Text)} {e eI : UInt8 → UInt8} {u : Text} {ks : List Tm} : ∀ (n : Nat) (st : List Tm × Text), unqAt F e eI u ks n = some st → ∀ (i : Nat), i < n → ∃ st' s r, unqAt F e eI u ks i = some st' ∧ ks[i]? = some s ∧ F (if i + 1 = ks.length then eI else e) st'.2 s = some r ∧ st.1[i]? = some r.1
  | 0, st, h, i, hi => absurd hi (by omega)
  | n + 1, st, h, i, hi => by
    have h0 := h
    simp only [unqAt, Option.bind_eq_some_iff, Option.map_eq_some_iff] at h
    obtain ⟨st0, h1, s, hs, r, hr, rfl⟩ := h
    have hl := unqAt_len n st0 h1
    by_cases e : i = n
    · subst e
      exact ⟨st0, s, r, h1, hs, hr, by rw [List.getElem?_append_right (by omega), hl]; simp⟩
    · obtain ⟨st', s', r', a1, a2, a3, a4⟩ := unqAt_at n st0 h1 i (by omega)
      exact ⟨st', s', r', a1, a2, a3, by rw [List.getElem?_append_left (by omega)]; exact a4⟩
theorem unqAt_sub {F : (UInt8 → UInt8) → Text → Tm → Option (Tm × Text)} (hF : ∀ e u s r, F e u s = some r → ∀ c ∈ u, c ∈ r.2) {e eI : UInt8 → UInt8} {u : Text} {ks : List Tm} : ∀ (n : Nat) (st : List Tm × Text), unqAt F e eI u ks n = some st → ∀ c ∈ u, c ∈ st.2
  | 0, st, h, c, hc => by
    simp only [unqAt, Option.some.injEq] at h
    subst h
    exact hc
  | n + 1, st, h, c, hc => by
    simp only [unqAt, Option.bind_eq_some_iff, Option.map_eq_some_iff] at h
    obtain ⟨st0, h1, s, hs, r, hr, rfl⟩ := h
    exact hF _ _ _ _ hr c (unqAt_sub hF n st0 h1 c hc)
theorem unqT_sub : ∀ (n : Nat) (e : UInt8 → UInt8) (u : Text) (t : Tm) (r : Tm × Text), unqT n e u t = some r → ∀ c ∈ u, c ∈ r.2
  | 0, e, u, t, r, h, c, hc => by
    simp only [unqT, Option.some.injEq] at h
    subst h
    exact hc
  | n + 1, e, u, t, r, h, c, hc => by
    by_cases hv : ∃ d, t = .var d
    · obtain ⟨d, rfl⟩ := hv
      simp only [unqT, Option.some.injEq] at h
      subst h
      exact hc
    · rw [unqT_node n e u (fun d ed => hv ⟨d, ed⟩)] at h
      simp only [Option.bind_eq_some_iff, Option.map_eq_some_iff] at h
      obtain ⟨ns, h1, st, h2, rfl⟩ := h
      exact unqAt_sub (unqT_sub n) _ st h2 c (List.mem_append_left _ hc)
theorem reTm_binds {t : Tm} {ns : Text} {ks : List Tm} (hn : ns.length = (bindsOf t).length) (hk : ks.length = t.kids.length) : bindsOf (reTm t ns ks) = ns := by
  cases t with
  | var c =>
    match ns, hn with
    | [], _ => rfl
  | num k =>
    match ns, hn with
    | [], _ => rfl
  | fn c b =>
    match ns, ks, hn, hk with
    | [d0], [s0], _, _ => rfl
  | fix f c b =>
    match ns, ks, hn, hk with
    | [d0, d1], [s0], _, _ => rfl
  | app f a =>
    match ns, ks, hn, hk with
    | [], [s0, s1], _, _ => rfl
  | bind c v b =>
    match ns, ks, hn, hk with
    | [d0], [s0, s1], _, _ => rfl
  | op o l r =>
    match ns, ks, hn, hk with
    | [], [s0, s1], _, _ => rfl
  | sel x y z =>
    match ns, ks, hn, hk with
    | [], [s0, s1, s2], _, _ => rfl
/-- Names become names that are told alike: the same nameless term. -/
theorem unq_kn : ∀ (n : Nat) (e : UInt8 → UInt8) (u : Text) (t : Tm) (r : Tm × Text) (f f' : UInt8 → Int), t.depth ≤ n → t.good → Used u → (∀ c, isNam c = true → isNam (e c) = true) → unqT n e u t = some r →
    (∀ c, f c = -1 ∨ 0 ≤ f c) → (∀ c, cntF t c ≠ 0 → e c ∈ u ∧ f' (e c) = f c ∧ (f c = -1 → e c = c)) → knT n f' r.1 = knT n f t
  | 0, e, u, t, r, f, f', hd, _, _, _, _, _, _ => absurd hd (by have := t.depth_pos; omega)
  | n + 1, e, u, t, r, f, f', hd, hg, hu, hen, h, hf, hE => by
    by_cases hv : ∃ d, t = .var d
    · obtain ⟨d, rfl⟩ := hv
      simp only [unqT, Option.some.injEq] at h
      subst h
      obtain ⟨h1, h2, h3⟩ := hE d (by simp [cntF])
      simp only [knT, h2]
      by_cases e1 : f d = -1
      · rw [if_pos e1, if_pos e1, h3 e1]
      · rw [if_neg e1, if_neg e1]
    · have hv' : ∀ c, t ≠ .var c := fun d ed => hv ⟨d, ed⟩
      have hlike := (unqT_like (n + 1) hg hen hu h).1
      rw [unqT_node n e u hv'] at h
      simp only [Option.bind_eq_some_iff, Option.map_eq_some_iff] at h
      obtain ⟨ns, h1, st, h2, rfl⟩ := h
      have hgr := hlike.good hg
      clear hlike
      obtain ⟨hnl, hus⟩ := freshK_some hu h1
      have hsl := unqAt_len _ _ h2
      have hnod := (List.nodup_append.1 hus.nod)
      by_cases hk : t.kids = []
      · cases t with
        | num k => rfl
        | var d => exact absurd rfl (hv' d)
        | _ => simp [Tm.kids] at hk
      · obtain ⟨p1, p2, p3, p4⟩ := reTm_facts hv' hnl hsl
        have pb := reTm_binds hnl hsl
        have hkr : (reTm t ns st.1).kids ≠ [] := by
          rw [p4]
          intro e0
          rw [e0] at hsl
          exact hk (List.length_eq_zero_iff.1 hsl.symm)
        rw [knT_node n f' hgr hkr, knT_node n f hg hk]
        have hh : headN (reTm t ns st.1) = headN t := by unfold headN; rw [p1]
        rw [hh]
        congr 1
        apply List.ext_getElem?
        intro i
        rw [List.getElem?_mapIdx, List.getElem?_mapIdx, p4]
        rcases hs : t.kids[i]? with _ | s
        · rw [List.getElem?_eq_none (by have := List.getElem?_eq_none_iff.1 hs; omega)]
          rfl
        · have hil := (List.getElem?_eq_some_iff.1 hs).1
          obtain ⟨st', s', r', a1, a2, a3, a4⟩ := unqAt_at _ st h2 i hil
          rw [hs] at a2
          injection a2 with a2
          subst a2
          rw [a4, Option.map_some, Option.map_some]
          congr 1
          have m := List.mem_of_getElem? hs
          have hds := kid_depth m
          have hu3 := unqAt_used (unqT_used n) hus i st' a1
          have hsub := unqAt_sub (unqT_sub n) i st' a1
          unfold knK
          rw [p4, pb, hsl]
          by_cases el : i + 1 = t.kids.length
          · rw [if_pos el] at a3 ⊢
            rw [if_pos el]
            refine unq_kn n _ _ s r' _ _ (by omega) (Tm.kid_good hg m) hu3 (over_nam (fun c hc => hus.nam c (List.mem_append_right _ hc)) hen) a3 (fun c => by (by_cases m : c ∈ bindsOf t; (have := deeper_in (f := f) m; omega); (rw [deeper_out m]; have := hf c; split <;> omega))) fun c hc => ?_
            by_cases hm : c ∈ bindsOf t
            · obtain ⟨j, d, b1, b2, b3⟩ := over_in hnl e hm
              have hdm := List.mem_of_getElem? b2
              rw [b3]
              refine ⟨hsub d (List.mem_append_right _ hdm), ?_, fun hneg => ?_⟩
              · rw [(deeper_in hdm).1, (deeper_in hm).1, b1, findI_nodup hnod.2.1 b2, hnl]
              · have := deeper_in (f := f) hm; omega
            · have hct : cntF t c ≠ 0 := by
                rcases cntF_kid hs c with ⟨_, h3⟩ | h3
                · exact absurd h3 hm
                · omega
              obtain ⟨x1, x2, x3⟩ := hE c hct
              have hnm : e c ∉ ns := fun h3 => hnod.2.2 (e c) x1 (e c) h3 rfl
              rw [over_out e hm]
              refine ⟨hsub _ (List.mem_append_left _ x1), ?_, fun hneg => ?_⟩
              · rw [deeper_out hnm, deeper_out hm, x2, hnl]
              · rw [deeper_out hm] at hneg
                by_cases e1 : f c = -1
                · exact x3 e1
                · rw [if_neg e1] at hneg
                  have := hf c
                  omega
          · rw [if_neg el] at a3 ⊢
            rw [if_neg el]
            refine unq_kn n _ _ s r' _ _ (by omega) (Tm.kid_good hg m) hu3 hen a3 hf fun c hc => ?_
            have hct : cntF t c ≠ 0 := by
              rcases cntF_kid hs c with ⟨h3, _⟩ | h3
              · exact absurd h3 el
              · omega
            obtain ⟨x1, x2, x3⟩ := hE c hct
            exact ⟨hsub _ (List.mem_append_left _ x1), x2, x3⟩
theorem allB_cons (t : Tm) (l : List Tm) : allB (t :: l) = bindsOf t ++ allB l := by simp [allB]
theorem allB_app (l m : List Tm) : allB (l ++ m) = allB l ++ allB m := by simp [allB]
/-- The names used are those that are bound. -/
theorem unq_names : ∀ (n : Nat) (e : UInt8 → UInt8) (u : Text) (t : Tm) (r : Tm × Text), t.depth ≤ n → Used u → unqT n e u t = some r → r.2 = u ++ allB (parts r.1)
  | 0, e, u, t, r, hd, _, _ => absurd hd (by have := t.depth_pos; omega)
  | n + 1, e, u, t, r, hd, hu, h => by
    by_cases hv : ∃ d, t = .var d
    · obtain ⟨d, rfl⟩ := hv
      simp only [unqT, Option.some.injEq] at h
      subst h
      simp [parts, allB, bindsOf]
    · have hv' : ∀ c, t ≠ .var c := fun d ed => hv ⟨d, ed⟩
      rw [unqT_node n e u hv'] at h
      simp only [Option.bind_eq_some_iff, Option.map_eq_some_iff] at h
      obtain ⟨ns, h1, st, h2, rfl⟩ := h
      obtain ⟨hnl, hus⟩ := freshK_some hu h1
      have hsl := unqAt_len _ _ h2
      obtain ⟨p1, p2, p3, p4⟩ := reTm_facts hv' hnl hsl
      have pb := reTm_binds hnl hsl
      have key : ∀ k, k ≤ t.kids.length → ∀ st, unqAt (unqT n) e (over (bindsOf t) ns e) (u ++ ns) t.kids k = some st → st.2 = (u ++ ns) ++ allB (st.1.flatMap parts) := by
        intro k
        induction k with
        | zero =>
          intro _ st h
          simp only [unqAt, Option.some.injEq] at h
          subst h
          simp [allB]
        | succ k ih =>
          intro hk st h
          simp only [unqAt, Option.bind_eq_some_iff, Option.map_eq_some_iff] at h
          obtain ⟨st0, h0, s, hs, r, hr, rfl⟩ := h
          have i1 := ih (by omega) st0 h0
          have hds := kid_depth (List.mem_of_getElem? hs)
          have i2 := unq_names n _ _ s r (by omega) (unqAt_used (unqT_used n) hus k st0 h0) hr
          show r.2 = _
          rw [i2, i1, List.flatMap_append, allB_app]
          simp
      have i3 := key _ (Nat.le_refl _) st h2
      show st.2 = u ++ allB (parts (reTm t ns st.1))
      rw [i3, parts_kids, allB_cons, pb, p4, List.append_assoc]
theorem fresh_nodup : ∀ (l seen : Text), (seen ++ l).Nodup → freshL seen l = true
  | [], _, _ => rfl
  | c :: r, seen, h => by
    have h1 : c ∉ seen := fun hc => (List.nodup_append.1 h).2.2 c hc c (by simp) rfl
    have h2 : ((seen ++ [c]) ++ r).Nodup := by rw [List.append_assoc]; exact h
    simp only [freshL, Bool.and_eq_true, decide_eq_true_eq]
    exact ⟨h1, fresh_nodup r _ h2⟩
/-- The text is as long. -/
theorem unq_long : ∀ (n : Nat) (e : UInt8 → UInt8) (u : Text) (t : Tm) (r : Tm × Text), t.depth ≤ n → t.good → Used u → (∀ c, isNam c = true → isNam (e c) = true) → unqT n e u t = some r → (textN r.1).length = (textN t).length
  | 0, e, u, t, r, hd, _, _, _, _ => absurd hd (by have := t.depth_pos; omega)
  | n + 1, e, u, t, r, hd, hg, hu, hen, h => by
    by_cases hv : ∃ d, t = .var d
    · obtain ⟨d, rfl⟩ := hv
      simp only [unqT, Option.some.injEq] at h
      subst h
      simp [textN]
    · have hv' : ∀ c, t ≠ .var c := fun d ed => hv ⟨d, ed⟩
      have hlike := (unqT_like (n + 1) hg hen hu h).1
      rw [unqT_node n e u hv'] at h
      simp only [Option.bind_eq_some_iff, Option.map_eq_some_iff] at h
      obtain ⟨ns, h1, st, h2, rfl⟩ := h
      have hgr := hlike.good hg
      clear hlike
      obtain ⟨hnl, hus⟩ := freshK_some hu h1
      have hsl := unqAt_len _ _ h2
      obtain ⟨p1, p2, p3, p4⟩ := reTm_facts hv' hnl hsl
      by_cases hk : t.kids = []
      · cases t with
        | num k => rfl
        | var d => exact absurd rfl (hv' d)
        | _ => simp [Tm.kids] at hk
      · obtain ⟨k1, k2⟩ := kind_node hg hk
        have key : ∀ k, k ≤ t.kids.length → (textTo st.1 k).length = (textTo t.kids k).length := by
          intro k
          induction k with
          | zero => intro _; simp [textTo]
          | succ k ih =>
            intro hkl
            obtain ⟨st', s, r', a1, a2, a3, a4⟩ := unqAt_at _ st h2 k (by omega)
            have m := List.mem_of_getElem? a2
            have hds := kid_depth m
            have i2 := unq_long n _ _ s r' (by omega) (Tm.kid_good hg m) (unqAt_used (unqT_used n) hus k st' a1) (by split; exact over_nam (fun c hc => hus.nam c (List.mem_append_right _ hc)) hen; exact hen) a3
            rw [textTo_succ _ _ _ a4, textTo_succ _ _ _ a2, List.length_append, List.length_append, ih (by omega), i2]
        have hsh := text_shape hg k1 k2
        have hsr := text_shape hgr (by rw [p1]; exact k1) (by rw [p1]; exact k2)
        show (textN (reTm t ns st.1)).length = _
        rw [hsh, hsr, p3, p4, novar_names hv', hsl]
        have ht : tailN (reTm t ns st.1) = tailN t := by unfold tailN; rw [p1]
        rw [ht]
        simp only [List.length_cons, List.length_append, key _ (Nat.le_refl _), hnl]
/-- What is known of a unique term. -/
structure UnqFacts (t R : Tm) : Prop where
  good : R.good
  deep : R.depth ≤ 24
  many : (parts R).length = (parts t).length
  read : readS (textN R) = some R
  same : knT 24 noF R = knT 24 noF t
  free : sfree R = sfree t
  again : unqT 24 id (sfree R) R = unqT 24 id (sfree t) t
  uniq : uniqT R = true
theorem unq_facts {x : Text} {t : Tm} {r : Tm × Text} (hr : readS x = some t) (h : unqT 24 id (sfree t) t = some r) : UnqFacts t r.1 := by
  obtain ⟨tg, td, tp⟩ := read_facts hr
  have hu := used_free tg
  obtain ⟨A, hus⟩ := unqT_like 24 tg (fun c hc => hc) hu h
  have g := A.good tg
  have d : r.1.depth ≤ 24 := by rw [A.deep]; exact td
  have hsm := unq_kn 24 id (sfree t) t r noF noF td tg hu (fun c hc => hc) h (fun c => .inl rfl) (fun c hc => ⟨(mem_free tg c).2 hc, rfl, fun _ => rfl⟩)
  obtain ⟨h1, h2⟩ := same_unq d td g tg hsm
  have hl : (textN r.1).length ≤ 120 := by
    rw [unq_long 24 id (sfree t) t r td tg hu (fun c hc => hc) h, readS_text hr]
    exact (readS_some hr).choose_spec.2.2
  refine ⟨g, d, A.many, text_readS g d hl, hsm, h1, h2, ?_⟩
  unfold uniqT
  refine fresh_nodup _ _ ?_
  rw [h1, ← unq_names 24 id (sfree t) t r td hu h]
  exact hus.nod
/-- Terms are the same if their unique ones have the same text. -/
theorem unq_same {s s2 : Text} {t u : Tm} {r r2 : Tm × Text} (hr : readS s = some t) (hr2 : readS s2 = some u) (h : unqT 24 id (sfree t) t = some r) (h2 : unqT 24 id (sfree u) u = some r2) : sameO s s2 = decide (textN r.1 = textN r2.1) := by
  obtain ⟨tg, td, tp⟩ := read_facts hr
  obtain ⟨ug, ud, up⟩ := read_facts hr2
  have F := unq_facts hr h
  have F2 := unq_facts hr2 h2
  unfold sameO
  rw [hr, hr2]
  by_cases e : textN r.1 = textN r2.1
  · have hR : r.1 = r2.1 := by
      have := F.read
      rw [e, F2.read] at this
      injection this with this
      exact this.symm
    have hk : knT 24 noF t = knT 24 noF u := by rw [← F.same, ← F2.same, hR]
    have hn : nlT 24 noF t = nlT 24 noF u := by unfold nlT; rw [hk]
    simp [e, hn]
  · have hn : nlT 24 noF t ≠ nlT 24 noF u := fun hn => by
      have hk := (nlT_inj 24 noF noF t u [] [] td ud tg ug noF_ok noF_ok (by rw [hn])).1
      have h3 := (same_unq td ud tg ug hk).2
      rw [h, h2] at h3
      injection h3 with h3
      exact e (by rw [h3])
    simp [e, hn]
theorem same_comm (s s2 : Text) : sameO s s2 = sameO s2 s := by
  unfold sameO
  rcases readS s with _ | t <;> rcases readS s2 with _ | u <;> try rfl
  exact decide_eq_decide.2 ⟨fun h => h.symm, fun h => h.symm⟩
end Go.Proofs.YtojbffiffcfblaaGreat
