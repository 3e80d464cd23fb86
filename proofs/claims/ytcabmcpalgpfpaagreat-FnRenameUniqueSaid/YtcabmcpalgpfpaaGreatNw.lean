import Derived.Test.YtcabmcpalgpfpaaGreatMNu
import Derived.Test.YtcabmcpalgpfpaaGreatMUb
import Derived.Test.YtcabmcpalgpfpaaGreatUg
/- Unique and nameless terms: the same nameless terms have the same unique one. No program in sight. -/
namespace Go.Proofs.YtcabmcpalgpfpaaGreat
open Ff
set_option linter.unusedVariables false

/-- What two terms' names are told and what they become. -/
structure Rl (f f' : UInt8 → Int) (e e' : UInt8 → UInt8) : Prop where
  same : ∀ c c', f c ≠ -1 → f c = f' c' → e c = e' c'
  one : ∀ c, f c = -1 → e c = c
  two : ∀ c, f' c = -1 → e' c = c
theorem deeper_neg {ns : Text} {f : UInt8 → Int} (hf : ∀ c, f c = -1 ∨ 0 ≤ f c) {c : UInt8} (h : deeper ns f c = -1) : c ∉ ns ∧ f c = -1 := by
  have m1 : c ∉ ns := fun hm => by have := deeper_in (f := f) hm; omega
  refine ⟨m1, ?_⟩
  rw [deeper_out m1] at h
  apply Classical.byContradiction
  intro e
  rw [if_neg e] at h
  have := hf c
  omega
theorem rl_deeper {f f' : UInt8 → Int} {e e' : UInt8 → UInt8} (h : Rl f f' e e') (hf : ∀ c, f c = -1 ∨ 0 ≤ f c) (hf' : ∀ c, f' c = -1 ∨ 0 ≤ f' c) {ns ns' ms : Text} (hl : ms.length = ns.length) (hl' : ms.length = ns'.length) : Rl (deeper ns f) (deeper ns' f') (over ns ms e) (over ns' ms e') := by
  refine ⟨fun c c' h1 h2 => ?_, fun c hc => ?_, fun c hc => ?_⟩
  · by_cases m1 : c ∈ ns <;> by_cases m2 : c' ∈ ns'
    · obtain ⟨i, d, a1, a2, a3⟩ := over_in hl e m1
      obtain ⟨i', d', b1, b2, b3⟩ := over_in hl' e' m2
      rw [(deeper_in m1).1, (deeper_in m2).1, a1, b1] at h2
      have : i = i' := by omega
      subst this
      rw [a2] at b2
      injection b2 with b2
      rw [a3, b3, b2]
    · have x1 := deeper_in (f := f) m1
      rw [deeper_out m2] at h2
      split at h2
      · omega
      · have := hf' c'; omega
    · have x1 := deeper_in (f := f') m2
      rw [deeper_out m1] at h2
      split at h2
      · omega
      · have := hf c; omega
    · rw [over_out e m1, over_out e' m2]
      rw [deeper_out m1] at h1 h2
      rw [deeper_out m2] at h2
      by_cases e1 : f c = -1
      · rw [if_pos e1] at h1; exact absurd rfl h1
      · rw [if_neg e1] at h2
        have := hf c
        by_cases e2 : f' c' = -1
        · rw [if_pos e2] at h2; omega
        · rw [if_neg e2] at h2
          exact h.same c c' e1 (by omega)
  · obtain ⟨m, hm⟩ := deeper_neg hf hc
    rw [over_out e m]; exact h.one c hm
  · obtain ⟨m, hm⟩ := deeper_neg hf' hc
    rw [over_out e' m]; exact h.two c hm
theorem reTm_kind {t u : Tm} (hg : t.good) (hg' : u.good) (hk : t.kids ≠ []) (hk' : u.kids ≠ []) (h : kindOf t = kindOf u) {ns : Text} {ks : List Tm} (hl : ks.length = t.kids.length) : reTm t ns ks = reTm u ns ks := by
  cases t with
  | num k => exact absurd rfl hk
  | var k => exact absurd rfl hk
  | fn c b =>
    match ks, hl with
    | [s0], _ =>
      cases u with
      | fn c' b' => rfl
      | op o x y => rcases hg'.1 with e | e | e <;> subst e <;> simp [kindOf] at h
      | _ => simp [kindOf] at h hk'
  | fix g c b =>
    match ks, hl with
    | [s0], _ =>
      cases u with
      | fix g' c' b' => rfl
      | op o x y => rcases hg'.1 with e | e | e <;> subst e <;> simp [kindOf] at h
      | _ => simp [kindOf] at h hk'
  | app x y =>
    match ks, hl with
    | [s0, s1], _ =>
      cases u with
      | app x' y' => rfl
      | op o x y => rcases hg'.1 with e | e | e <;> subst e <;> simp [kindOf] at h
      | _ => simp [kindOf] at h hk'
  | bind c x y =>
    match ks, hl with
    | [s0, s1], _ =>
      cases u with
      | bind c' x' y' => rfl
      | op o x y => rcases hg'.1 with e | e | e <;> subst e <;> simp [kindOf] at h
      | _ => simp [kindOf] at h hk'
  | op o x y =>
    match ks, hl with
    | [s0, s1], _ =>
      cases u with
      | op o' x' y' =>
        have : o = o' := by
          rcases hg.1 with e | e | e <;> subst e <;> rcases hg'.1 with e | e | e <;> subst e <;> first | rfl | simp [kindOf] at h
        subst this
        rfl
      | _ => rcases hg.1 with e | e | e <;> subst e <;> simp [kindOf] at h hk'
  | sel x y z =>
    match ks, hl with
    | [s0, s1, s2], _ =>
      cases u with
      | sel x' y' z' => rfl
      | op o x y => rcases hg'.1 with e | e | e <;> subst e <;> simp [kindOf] at h
      | _ => simp [kindOf] at h hk'
/-- The same nameless terms become the same. -/
theorem unq_eq : ∀ (n : Nat) (f f' : UInt8 → Int) (e e' : UInt8 → UInt8) (us : Text) (t u : Tm), t.depth ≤ n → t.good → u.good → OkF n f → OkF n f' → Used us → Rl f f' e e' → knT n f t = knT n f' u → unqT n e us t = unqT n e' us u
  | 0, f, f', e, e', us, t, u, hd, _, _, _, _, _, _, _ => absurd hd (by have := t.depth_pos; omega)
  | n + 1, f, f', e, e', us, t, u, hd, hg, hg', hf, hf', hus, hR, h => by
    by_cases hk : t.kids = []
    · have hk' : u.kids = [] := Classical.byContradiction fun hk' => (same_node hg' hg hk' h.symm).1 hk
      cases t with
      | num k =>
        cases u with
        | num k' => simp only [knT, Knot.mk.injEq] at h; simp only [unqT]; congr 3; omega
        | var c =>
          exfalso
          have hn := nam_ne (show isNam c = true from hg')
          simp only [knT] at h
          split at h <;> simp only [Knot.mk.injEq] at h
          · exact hn.1 h.1.symm
          · exact absurd h.1 (by decide)
        | _ => simp [Tm.kids] at hk'
      | var c =>
        have hn := nam_ne (show isNam c = true from hg)
        cases u with
        | num k' =>
          exfalso
          simp only [knT] at h
          split at h <;> simp only [Knot.mk.injEq] at h
          · exact hn.1 h.1
          · exact absurd h.1 (by decide)
        | var c' =>
          have hn' := nam_ne (show isNam c' = true from hg')
          simp only [knT] at h
          simp only [unqT]
          by_cases e1 : f c = -1 <;> by_cases e2 : f' c' = -1
          · rw [if_pos e1, if_pos e2] at h
            simp only [Knot.mk.injEq] at h
            obtain ⟨rfl, _⟩ := h
            rw [hR.one c e1, hR.two c e2]
          · rw [if_pos e1, if_neg e2] at h
            simp only [Knot.mk.injEq] at h
            exact absurd h.1 hn.2.1
          · rw [if_neg e1, if_pos e2] at h
            simp only [Knot.mk.injEq] at h
            exact absurd h.1.symm hn'.2.1
          · rw [if_neg e1, if_neg e2] at h
            simp only [Knot.mk.injEq] at h
            rw [hR.same c c' e1 h.2.1]
        | _ => simp [Tm.kids] at hk'
      | _ => simp [Tm.kids] at hk
    · obtain ⟨hk', hh, hb, hl, hkids⟩ := same_node hg hg' hk h
      have hv : ∀ c, t ≠ .var c := fun c e => by subst e; exact hk rfl
      have hv' : ∀ c, u ≠ .var c := fun c e => by subst e; exact hk' rfl
      have hkk := head_kind hg hg' hk hk' hh
      rw [unqT_node n e us hv, unqT_node n e' us hv', ← hb, ← hl]
      rcases hfr : freshK us (bindsOf t).length with _ | ns
      · rfl
      · obtain ⟨hnl, hus2⟩ := freshK_some hus hfr
        simp only [Option.bind_some]
        have key : ∀ k, k ≤ t.kids.length → unqAt (unqT n) e (over (bindsOf t) ns e) (us ++ ns) t.kids k = unqAt (unqT n) e' (over (bindsOf u) ns e') (us ++ ns) u.kids k := by
          intro k
          induction k with
          | zero => intro _; rfl
          | succ k ih =>
            intro hkl
            obtain ⟨s, hs⟩ : ∃ s, t.kids[k]? = some s := ⟨_, List.getElem?_eq_getElem (by omega)⟩
            obtain ⟨s', hs'⟩ : ∃ s', u.kids[k]? = some s' := ⟨_, List.getElem?_eq_getElem (by omega)⟩
            have m := List.mem_of_getElem? hs
            have m' := List.mem_of_getElem? hs'
            have hds := kid_depth m
            have h1 := hkids k s s' hs hs'
            rw [unqAt, unqAt, ← ih (by omega), ← hl, hs, hs']
            rcases hst : unqAt (unqT n) e (over (bindsOf t) ns e) (us ++ ns) t.kids k with _ | st
            · rfl
            · have hu3 := unqAt_used (unqT_used n) hus2 k st hst
              simp only [Option.bind_some]
              congr 1
              unfold knK at h1
              rw [← hl] at h1
              by_cases el : k + 1 = t.kids.length
              · rw [if_pos el, if_pos el] at h1 ⊢
                exact unq_eq n _ _ _ _ _ s s' (by omega) (Tm.kid_good hg m) (Tm.kid_good hg' m') (okF_deeper hf (binds_len t)) (okF_deeper hf' (binds_len u)) hu3 (rl_deeper hR (fun c => by have := hf.2 c; omega) (fun c => by have := hf'.2 c; omega) hnl (by rw [hnl, hb])) h1
              · rw [if_neg el, if_neg el] at h1 ⊢
                exact unq_eq n _ _ _ _ _ s s' (by omega) (Tm.kid_good hg m) (Tm.kid_good hg' m') (okF_less hf) (okF_less hf') hu3 hR h1
        rw [← key _ (Nat.le_refl _)]
        rcases hst : unqAt (unqT n) e (over (bindsOf t) ns e) (us ++ ns) t.kids t.kids.length with _ | st
        · rfl
        · have := unqAt_len _ _ hst
          simp only [Option.map_some]
          rw [reTm_kind hg hg' hk hk' hkk this]
/-- How often a name stands among knots. -/
def cntK : Nat → UInt8 → Knot → Nat
  | 0, _, _ => 0
  | n + 1, c, .mk s v ks => (if s = c then 1 else 0) + ((ks.map (cntK n c)).sum)
theorem cnt_kn : ∀ (n : Nat) (c : UInt8) (f : UInt8 → Int) (t : Tm), t.depth ≤ n → t.good → isNam c = true → (∀ c, f c = -1 ∨ 0 ≤ f c) → cntK n c (knT n f t) = if f c = -1 then cntF t c else 0
  | 0, c, f, t, hd, _, _, _ => absurd hd (by have := t.depth_pos; omega)
  | n + 1, c, f, t, hd, hg, hc, hf => by
    obtain ⟨h1, h2, h3⟩ := nam_ne hc
    have hdp : ∀ (ns : Text), ∀ c, deeper ns f c = -1 ∨ 0 ≤ deeper ns f c := fun ns c => by
      by_cases m : c ∈ ns
      · have := deeper_in (f := f) m; omega
      · rw [deeper_out m]
        have := hf c
        split <;> omega
    have hne : ∀ d : UInt8, d.toNat < 97 → ¬ d = c := fun d hd e => by
      subst e
      unfold isNam at hc
      simp at hc
      omega
    have hdz : ∀ ns : Text, (if deeper ns f c = -1 then (1 : Nat) else 0) = if c ∈ ns then 0 else if f c = -1 then 1 else 0 := fun ns => by
      by_cases m : c ∈ ns
      · have := deeper_in (f := f) m
        rw [if_pos m, if_neg (by omega)]
      · rw [if_neg m, deeper_out m]
        have := hf c
        by_cases e : f c = -1
        · simp [e]
        · rw [if_neg e, if_neg e, if_neg (by omega)]
    have hdx : ∀ (ns : Text) (x : Nat), (if deeper ns f c = -1 then x else 0) = if f c = -1 then (if c ∈ ns then 0 else x) else 0 := fun ns x => by
      by_cases m : c ∈ ns
      · have := deeper_in (f := f) m
        rw [if_pos m, if_neg (by omega)]; simp
      · rw [if_neg m, deeper_out m]
        have := hf c
        by_cases e : f c = -1
        · simp [e]
        · rw [if_neg e, if_neg e, if_neg (by omega)]
    cases t with
    | num k => simp [knT, cntK, cntF, Ne.symm h1]
    | var d =>
      simp only [knT, cntF]
      by_cases e : f d = -1
      · rw [if_pos e]
        simp only [cntK, List.map_nil, List.sum_nil, Nat.add_zero]
        by_cases hdc : d = c
        · subst hdc; simp [e]
        · have hdc2 : ¬ c = d := fun e => hdc e.symm
          simp [hdc, hdc2]
      · rw [if_neg e]
        simp only [cntK, List.map_nil, List.sum_nil, Nat.add_zero, if_neg (Ne.symm h2)]
        by_cases hdc : d = c
        · subst hdc; simp [e]
        · have hdc2 : ¬ c = d := fun e => hdc e.symm
          simp [hdc2]
    | fn d b =>
      simp only [Tm.depth] at hd
      simp only [knT, cntK, List.map_cons, List.map_nil, List.sum_cons, List.sum_nil, if_neg (hne 92 (by decide)), cnt_kn n c _ b (by omega) hg.2 hc (hdp _), hdx, cntF]
      omega
    | fix g d b =>
      simp only [Tm.depth] at hd
      simp only [knT, cntK, List.map_cons, List.map_nil, List.sum_cons, List.sum_nil, if_neg (hne 64 (by decide)), cnt_kn n c _ b (by omega) hg.2.2.2 hc (hdp _), hdx, cntF]
      omega
    | app x y =>
      simp only [Tm.depth] at hd
      simp only [knT, cntK, List.map_cons, List.map_nil, List.sum_cons, List.sum_nil, if_neg (hne 40 (by decide)), cnt_kn n c f x (by omega) hg.1 hc hf, cnt_kn n c f y (by omega) hg.2 hc hf, cntF]
      split <;> omega
    | bind d x y =>
      simp only [Tm.depth] at hd
      simp only [knT, cntK, List.map_cons, List.map_nil, List.sum_cons, List.sum_nil, if_neg (hne 61 (by decide)), cnt_kn n c f x (by omega) hg.2.1 hc hf, cnt_kn n c _ y (by omega) hg.2.2 hc (hdp _), hdx, cntF]
      split <;> omega
    | op o x y =>
      simp only [Tm.depth] at hd
      have ho : ¬ o = c := by rcases hg.1 with e | e | e <;> subst e <;> exact hne _ (by decide)
      simp only [knT, cntK, List.map_cons, List.map_nil, List.sum_cons, List.sum_nil, if_neg ho, cnt_kn n c f x (by omega) hg.2.1 hc hf, cnt_kn n c f y (by omega) hg.2.2 hc hf, cntF]
      split <;> omega
    | sel x y z =>
      simp only [Tm.depth] at hd
      simp only [knT, cntK, List.map_cons, List.map_nil, List.sum_cons, List.sum_nil, if_neg (hne 63 (by decide)), cnt_kn n c f x (by omega) hg.1 hc hf, cnt_kn n c f y (by omega) hg.2.1 hc hf, cnt_kn n c f z (by omega) hg.2.2 hc hf, cntF]
      split <;> omega
theorem free_of_cnt {t u : Tm} (hg : t.good) (hg' : u.good) (h : ∀ c, isNam c = true → cntF t c = cntF u c) : sfree t = sfree u := by
  obtain ⟨p, hp⟩ := free_filter hg
  obtain ⟨q, hq⟩ := free_filter hg'
  rw [hp, hq]
  refine List.filter_congr fun c hc => ?_
  have h1 := mem_free hg c
  have h2 := mem_free hg' c
  rw [hp, List.mem_filter] at h1
  rw [hq, List.mem_filter] at h2
  have h3 := h c (nam_of_letter hc)
  have e1 : p c = true ↔ cntF t c ≠ 0 := ⟨fun hh => h1.1 ⟨hc, hh⟩, fun hh => (h1.2 hh).2⟩
  have e2 : q c = true ↔ cntF u c ≠ 0 := ⟨fun hh => h2.1 ⟨hc, hh⟩, fun hh => (h2.2 hh).2⟩
  rw [h3] at e1
  exact Bool.eq_iff_iff.2 (e1.trans e2.symm)
/-- .. have the same free names, and the same unique one. -/
theorem same_unq {t u : Tm} (hd : t.depth ≤ 24) (hd' : u.depth ≤ 24) (hg : t.good) (hg' : u.good) (h : knT 24 noF t = knT 24 noF u) : sfree t = sfree u ∧ unqT 24 id (sfree t) t = unqT 24 id (sfree u) u := by
  have hs : sfree t = sfree u := free_of_cnt hg hg' fun c hc => by
    have h1 := cnt_kn 24 c noF t hd hg hc (fun c => .inl rfl)
    have h2 := cnt_kn 24 c noF u hd' hg' hc (fun c => .inl rfl)
    rw [h] at h1
    rw [h1] at h2
    simpa using h2
  refine ⟨hs, ?_⟩
  rw [← hs]
  exact unq_eq 24 noF noF id id (sfree t) t u hd hg hg' noF_ok noF_ok (used_free hg) ⟨fun c c' h => absurd rfl h, fun c _ => rfl, fun c _ => rfl⟩ h
end Go.Proofs.YtcabmcpalgpfpaaGreat
