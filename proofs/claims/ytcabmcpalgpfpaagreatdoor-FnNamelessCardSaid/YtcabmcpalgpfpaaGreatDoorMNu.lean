import Derived.Test.YtcabmcpalgpfpaaGreatDoorMNb
import Derived.Test.YtcabmcpalgpfpaaGreatDoorMPe
/- The same terms are the same within others. No program in sight. -/
namespace Go.Proofs.YtcabmcpalgpfpaaGreatDoor
open Ff
set_option linter.unusedVariables false

theorem knT_fuel : ∀ (n : Nat) (f : UInt8 → Int) (t : Tm), t.depth ≤ n → knT (n + 1) f t = knT n f t
  | 0, f, t, hd => absurd hd (by have := t.depth_pos; omega)
  | n + 1, f, t, hd => by
    cases t with
    | num k => rfl
    | var c => rfl
    | fn c b => simp only [Tm.depth] at hd; rw [knT, knT, knT_fuel n _ b (by omega)]
    | fix g c b => simp only [Tm.depth] at hd; rw [knT, knT, knT_fuel n _ b (by omega)]
    | app x y => simp only [Tm.depth] at hd; rw [knT, knT, knT_fuel n _ x (by omega), knT_fuel n _ y (by omega)]
    | bind c x y => simp only [Tm.depth] at hd; rw [knT, knT, knT_fuel n _ x (by omega), knT_fuel n _ y (by omega)]
    | op o x y => simp only [Tm.depth] at hd; rw [knT, knT, knT_fuel n _ x (by omega), knT_fuel n _ y (by omega)]
    | sel x y z => simp only [Tm.depth] at hd; rw [knT, knT, knT_fuel n _ x (by omega), knT_fuel n _ y (by omega), knT_fuel n _ z (by omega)]
/-- Functions that tell more than others. -/
structure Up (f f' g g' : UInt8 → Int) : Prop where
  one : ∀ c, f c ≠ -1 → g c = f c
  two : ∀ c, f' c ≠ -1 → g' c = f' c
  out : ∀ c, f c = -1 → f' c = -1 → g c = g' c
theorem deeper_in {ns : Text} {f : UInt8 → Int} {c : UInt8} (h : c ∈ ns) : deeper ns f c = (ns.length : Int) - 1 - findI c ns ∧ 0 ≤ deeper ns f c ∧ deeper ns f c < ns.length := by
  have h1 : 0 ≤ findI c ns := by
    apply Classical.byContradiction
    intro hh
    exact (findI_mem c ns).1 (by omega) h
  have h2 := findI_lt c ns
  have e : deeper ns f c = (ns.length : Int) - 1 - findI c ns := by unfold deeper; rw [if_pos h1]
  rcases h2 with h2 | h2
  · exact ⟨e, by omega, by omega⟩
  · subst h2; cases h
theorem deeper_out {ns : Text} {f : UInt8 → Int} {c : UInt8} (h : c ∉ ns) : deeper ns f c = if f c = -1 then -1 else f c + ns.length := by
  unfold deeper
  rw [findI_none h, if_neg (by omega)]
theorem up_deeper {f f' g g' : UInt8 → Int} (h : Up f f' g g') (hf : ∀ c, f c = -1 ∨ 0 ≤ f c) (hf' : ∀ c, f' c = -1 ∨ 0 ≤ f' c) {ns ns' : Text} (hl : ns.length = ns'.length) : Up (deeper ns f) (deeper ns' f') (deeper ns g) (deeper ns' g') := by
  refine ⟨fun c hc => ?_, fun c hc => ?_, fun c h1 h2 => ?_⟩
  · by_cases hm : c ∈ ns
    · rw [(deeper_in hm).1, (deeper_in hm).1]
    · rw [deeper_out hm] at hc ⊢
      rw [deeper_out hm]
      by_cases e : f c = -1
      · rw [if_pos e] at hc; exact absurd rfl hc
      · rw [h.one c e]
  · by_cases hm : c ∈ ns'
    · rw [(deeper_in hm).1, (deeper_in hm).1]
    · rw [deeper_out hm] at hc ⊢
      rw [deeper_out hm]
      by_cases e : f' c = -1
      · rw [if_pos e] at hc; exact absurd rfl hc
      · rw [h.two c e]
  · have m1 : c ∉ ns := fun hm => by have := deeper_in (f := f) hm; omega
    have m2 : c ∉ ns' := fun hm => by have := deeper_in (f := f') hm; omega
    rw [deeper_out m1] at h1
    rw [deeper_out m2] at h2
    have e1 : f c = -1 := by
      apply Classical.byContradiction
      intro e
      rw [if_neg e] at h1
      have := hf c
      omega
    have e2 : f' c = -1 := by
      apply Classical.byContradiction
      intro e
      rw [if_neg e] at h2
      have := hf' c
      omega
    rw [deeper_out m1, deeper_out m2, h.out c e1 e2, hl]
theorem head_kind {t u : Tm} (hg : t.good) (hg' : u.good) (hk : t.kids ≠ []) (hk' : u.kids ≠ []) (h : headN t = headN u) : kindOf t = kindOf u := by
  obtain ⟨a1, a2⟩ := kind_node hg hk
  obtain ⟨b1, b2⟩ := kind_node hg' hk'
  have := congrArg UInt8.toNat h
  unfold headN at this
  rw [UInt8.toNat_ofNat', UInt8.toNat_ofNat'] at this
  have c1 := kind_cases hg a1 a2
  have c2 := kind_cases hg' b1 b2
  omega
theorem kind_binds {t u : Tm} (hg : t.good) (hg' : u.good) (hk : t.kids ≠ []) (hk' : u.kids ≠ []) (h : kindOf t = kindOf u) : (bindsOf t).length = (bindsOf u).length ∧ t.kids.length = u.kids.length := by
  have key : ∀ s : Tm, s.good → s.kids ≠ [] → (bindsOf s).length = (if kindOf s = 92 ∨ kindOf s = 61 then 1 else if kindOf s = 64 then 2 else 0) ∧ s.kids.length = (if kindOf s = 92 ∨ kindOf s = 64 then 1 else if kindOf s = 63 then 3 else 2) := by
    intro s hs hks
    cases s with
    | num k => exact absurd rfl hks
    | var k => exact absurd rfl hks
    | op o x y => rcases hs.1 with h | h | h <;> subst h <;> exact ⟨rfl, rfl⟩
    | _ => exact ⟨rfl, rfl⟩
  rw [(key t hg hk).1, (key u hg' hk').1, (key t hg hk).2, (key u hg' hk').2, h]
  exact ⟨rfl, rfl⟩
/-- Two nodes with the same knots. -/
theorem same_node {n : Nat} {f f' : UInt8 → Int} {t u : Tm} (hg : t.good) (hg' : u.good) (hk : t.kids ≠ []) (h : knT (n + 1) f t = knT (n + 1) f' u) :
    u.kids ≠ [] ∧ headN t = headN u ∧ (bindsOf t).length = (bindsOf u).length ∧ t.kids.length = u.kids.length ∧ ∀ (i : Nat) (s s' : Tm), t.kids[i]? = some s → u.kids[i]? = some s' → knK n f t i s = knK n f' u i s' := by
  have hk' : u.kids ≠ [] := by
    intro hk'
    rw [knT_node n f hg hk, knT_eta n f' hg'] at h
    injection h with _ _ h
    rw [hk'] at h
    have := congrArg List.length h
    simp at this
    exact hk this
  rw [knT_node n f hg hk, knT_node n f' hg' hk'] at h
  injection h with h1 _ h2
  have hkk := head_kind hg hg' hk hk' h1
  obtain ⟨b1, b2⟩ := kind_binds hg hg' hk hk' hkk
  refine ⟨hk', h1, b1, b2, fun i s s' hs hs' => ?_⟩
  have := congrArg (fun l => l[i]?) h2
  simp only [List.getElem?_mapIdx, hs, hs', Option.map_some, Option.some.injEq] at this
  exact this
theorem kn_up : ∀ (n : Nat) (f f' g g' : UInt8 → Int) (t u : Tm), t.depth ≤ n → t.good → u.good → OkF n f → OkF n f' → Up f f' g g' → knT n f t = knT n f' u → knT n g t = knT n g' u
  | 0, f, f', g, g', t, u, hd, _, _, _, _, _, _ => absurd hd (by have := t.depth_pos; omega)
  | n + 1, f, f', g, g', t, u, hd, hg, hg', hf, hf', hU, h => by
    by_cases hk : t.kids = []
    · have hk' : u.kids = [] := Classical.byContradiction fun hk' => (same_node hg' hg hk' h.symm).1 hk
      cases t with
      | num k =>
        cases u with
        | num k' => simp only [knT, Knot.mk.injEq] at h ⊢; exact h
        | var c =>
          exfalso
          have hn := nam_ne (show isNam c = true from hg')
          simp only [knT] at h
          split at h <;> simp only [Knot.mk.injEq] at h
          · exact hn.1 h.1.symm
          · exact absurd h.1 (by decide)
        | _ => simp [Tm.kids] at hk'
      | var c =>
        have hn := nam_ne (show isNam c = true from hg)
        cases u with
        | num k' =>
          exfalso
          simp only [knT] at h
          split at h <;> simp only [Knot.mk.injEq] at h
          · exact hn.1 h.1
          · exact absurd h.1 (by decide)
        | var c' =>
          have hn' := nam_ne (show isNam c' = true from hg')
          simp only [knT] at h ⊢
          by_cases e1 : f c = -1 <;> by_cases e2 : f' c' = -1
          · rw [if_pos e1, if_pos e2] at h
            simp only [Knot.mk.injEq] at h
            obtain ⟨rfl, _⟩ := h
            rw [hU.out c e1 e2]
          · rw [if_pos e1, if_neg e2] at h
            simp only [Knot.mk.injEq] at h
            exact absurd h.1 hn.2.1
          · rw [if_neg e1, if_pos e2] at h
            simp only [Knot.mk.injEq] at h
            exact absurd h.1.symm hn'.2.1
          · rw [if_neg e1, if_neg e2] at h
            simp only [Knot.mk.injEq] at h
            rw [hU.one c e1, hU.two c' e2, if_neg e1, if_neg e2, h.2.1]
        | _ => simp [Tm.kids] at hk'
      | _ => simp [Tm.kids] at hk
    · obtain ⟨hk', hh, hb, hl, hkids⟩ := same_node hg hg' hk h
      rw [knT_node n g hg hk, knT_node n g' hg' hk', hh]
      congr 1
      apply List.ext_getElem?
      intro i
      rw [List.getElem?_mapIdx, List.getElem?_mapIdx]
      rcases hs : t.kids[i]? with _ | s
      · rw [List.getElem?_eq_none (by have := List.getElem?_eq_none_iff.1 hs; omega)]
        rfl
      · obtain ⟨s', hs'⟩ : ∃ s', u.kids[i]? = some s' := ⟨_, List.getElem?_eq_getElem (by have := (List.getElem?_eq_some_iff.1 hs).1; omega)⟩
        have h1 := hkids i s s' hs hs'
        have m := List.mem_of_getElem? hs
        have m' := List.mem_of_getElem? hs'
        have hds := kid_depth m
        rw [hs', Option.map_some, Option.map_some]
        congr 1
        unfold knK at h1 ⊢
        rw [← hl] at h1 ⊢
        by_cases e : i + 1 = t.kids.length
        · rw [if_pos e, if_pos e] at h1 ⊢
          exact kn_up n _ _ _ _ s s' (by omega) (Tm.kid_good hg m) (Tm.kid_good hg' m') (okF_deeper hf (binds_len t)) (okF_deeper hf' (binds_len u)) (up_deeper hU (fun c => by have := hf.2 c; omega) (fun c => by have := hf'.2 c; omega) hb) h1
        · rw [if_neg e, if_neg e] at h1 ⊢
          exact kn_up n _ _ _ _ s s' (by omega) (Tm.kid_good hg m) (Tm.kid_good hg' m') (okF_less hf) (okF_less hf') hU h1
end Go.Proofs.YtcabmcpalgpfpaaGreatDoor

/- What the law FnAround makes of two terms. No program in sight. -/
namespace Go.Proofs.YtcabmcpalgpfpaaGreatDoor
open Ff
set_option linter.unusedVariables false

/-- What is laid around a term: in front, behind, and the term. -/
def preS : List Text := [[92, 97], [64, 98, 97], [43, 49], [61, 99, 50], [63, 48]]
def sufS (k : Nat) : Text := if k = 4 then [49] else []
def preT (k : Nat) (t : Tm) : Tm := match k with
  | 0 => .fn 97 t
  | 1 => .fix 98 97 t
  | 2 => .op 43 (.num 1) t
  | 3 => .bind 99 (.num 2) t
  | _ => .sel (.num 0) t (.num 1)
theorem preT_text (k : Nat) (hk : k < 5) (t : Tm) : ∃ p, preS[k]? = some p ∧ textN (preT k t) = p ++ textN t ++ sufS k := by
  match k, hk with
  | 0, _ => exact ⟨_, rfl, by simp [preT, textN, sufS]⟩
  | 1, _ => exact ⟨_, rfl, by simp [preT, textN, sufS]⟩
  | 2, _ => exact ⟨_, rfl, by simp [preT, textN, sufS, numN, decN]⟩
  | 3, _ => exact ⟨_, rfl, by simp [preT, textN, sufS, numN, decN]⟩
  | 4, _ => exact ⟨_, rfl, by simp [preT, textN, sufS, numN, decN]⟩
theorem preT_good (k : Nat) {t : Tm} (h : t.good) : (preT k t).good := by
  unfold preT
  split
  · exact ⟨by decide, h⟩
  · exact ⟨by decide, by decide, by decide, h⟩
  · exact ⟨.inl rfl, by simp [Tm.good], h⟩
  · exact ⟨by decide, by simp [Tm.good], h⟩
  · exact ⟨by simp [Tm.good], h, by simp [Tm.good]⟩
theorem preT_depth (k : Nat) (t : Tm) : (preT k t).depth = t.depth + 1 := by
  have := t.depth_pos
  unfold preT
  split <;> simp only [Tm.depth] <;> omega
theorem read_text {X : Tm} (hg : X.good) : readS (textN X) = if fitsT X = true then some X else none := by
  have h := fits_read hg
  rcases hf : fitsT X with _ | _
  · rw [hf] at h
    rcases hr : readS (textN X) with _ | Y
    · rfl
    · rw [hr] at h; cases h
  · unfold fitsT at hf
    simp only [Bool.and_eq_true, decide_eq_true_eq] at hf
    rw [if_pos rfl]
    exact text_readS hg hf.2 hf.1
theorem around_step {n : Nat} {t u : Tm} (hg : t.good) (hg' : u.good) (k : Nat) (hd : t.depth ≤ n) (ho : OkF n noF) (h : knT n noF t = knT n noF u) : knT (n + 1) noF (preT k t) = knT (n + 1) noF (preT k u) := by
  have key : ∀ ns : Text, knT n (deeper ns noF) t = knT n (deeper ns noF) u := fun ns =>
    kn_up n noF noF _ _ t u hd hg hg' ho ho ⟨fun c hc => absurd rfl hc, fun c hc => absurd rfl hc, fun c _ _ => rfl⟩ h
  unfold preT
  split
  · show Knot.mk 92 0 [knT n (deeper [97] noF) t] = .mk 92 0 [knT n (deeper [97] noF) u]
    rw [key]
  · show Knot.mk 64 0 [knT n (deeper [98, 97] noF) t] = .mk 64 0 [knT n (deeper [98, 97] noF) u]
    rw [key]
  · show Knot.mk 43 0 [knT n noF (.num 1), knT n noF t] = .mk 43 0 [knT n noF (.num 1), knT n noF u]
    rw [h]
  · show Knot.mk 61 0 [knT n noF (.num 2), knT n (deeper [99] noF) t] = .mk 61 0 [knT n noF (.num 2), knT n (deeper [99] noF) u]
    rw [key]
  · show Knot.mk 63 0 [knT n noF (.num 0), knT n noF t, knT n noF (.num 1)] = .mk 63 0 [knT n noF (.num 0), knT n noF u, knT n noF (.num 1)]
    rw [h]
theorem around_same {t u : Tm} (hg : t.good) (hg' : u.good) (k : Nat) (hd : (preT k t).depth ≤ 24) (hd' : (preT k u).depth ≤ 24) (h : knT 24 noF t = knT 24 noF u) : nlT 24 noF (preT k t) = nlT 24 noF (preT k u) := by
  rw [preT_depth] at hd hd'
  have h23 : knT 23 noF t = knT 23 noF u := (knT_fuel 23 noF t (by omega)).symm.trans (h.trans (knT_fuel 23 noF u (by omega)))
  have o23 : OkF 23 noF := ⟨by omega, fun c => .inl rfl⟩
  exact congrArg (knText 24) (around_step (n := 23) hg hg' k (by omega) o23 h23)
/-- The law, purely. -/
theorem around_law {s s2 : Text} (h : sameO s s2 = true) {k : Nat} {p : Text} (hp : preS[k]? = some p) (h1 : (readS (p ++ s ++ sufS k)).isSome = true) (h2 : (readS (p ++ s2 ++ sufS k)).isSome = true) : sameO (p ++ s ++ sufS k) (p ++ s2 ++ sufS k) = true := by
  unfold sameO at h
  rcases hr : readS s with _ | t
  · rw [hr] at h; cases h
  rcases hr2 : readS s2 with _ | u
  · rw [hr, hr2] at h; cases h
  rw [hr, hr2] at h
  simp only [decide_eq_true_eq] at h
  obtain ⟨tg, td, tp⟩ := read_facts hr
  obtain ⟨ug, ud, up⟩ := read_facts hr2
  have hk : k < 5 := (List.getElem?_eq_some_iff.1 hp).1
  obtain ⟨p1, e1, e2⟩ := preT_text k hk t
  obtain ⟨p2, e3, e4⟩ := preT_text k hk u
  rw [hp] at e1 e3
  injection e1 with e1
  injection e3 with e3
  subst e1
  subst e3
  rw [readS_text hr] at e2
  rw [readS_text hr2] at e4
  rw [← e2] at h1 ⊢
  rw [← e4] at h2 ⊢
  have g1 := preT_good k tg
  have g2 := preT_good k ug
  rw [read_text g1] at h1
  rw [read_text g2] at h2
  have f1 : fitsT (preT k t) = true := by
    rcases hf : fitsT (preT k t) with _ | _
    · rw [hf] at h1; simp at h1
    · rfl
  have f2 : fitsT (preT k u) = true := by
    rcases hf : fitsT (preT k u) with _ | _
    · rw [hf] at h2; simp at h2
    · rfl
  unfold sameO
  rw [read_text g1, read_text g2, if_pos f1, if_pos f2]
  unfold fitsT at f1 f2
  simp only [Bool.and_eq_true, decide_eq_true_eq] at f1 f2
  simp only [decide_eq_true_eq]
  refine around_same tg ug k f1.2 f2.2 ?_
  exact (nlT_inj 24 noF noF t u [] [] td ud tg ug noF_ok noF_ok (by rw [h])).1
end Go.Proofs.YtcabmcpalgpfpaaGreatDoor
