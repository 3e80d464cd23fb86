import Derived.Test.YtkelncocppiepaaGreatDoorMPt
/- Unique names, as plain data: what both sides do. No program in sight. -/
namespace Go.Proofs.YtkelncocppiepaaGreatDoor
open Ff
set_option linter.unusedVariables false

/-- So many names that have not been used. -/
def freshK (used : Text) : Nat → Option Text
  | 0 => some []
  | k + 1 => (freshK used k).bind fun ns => (newO (used ++ ns)).map fun c => ns ++ [c]
/-- What a name is within a binder. -/
def over (ns ms : Text) (e : UInt8 → UInt8) (c : UInt8) : UInt8 := ((ns.zip ms).lookup c).getD (e c)
/-- The first so many kids of a term. -/
def unqAt (f : (UInt8 → UInt8) → Text → Tm → Option (Tm × Text)) (e eI : UInt8 → UInt8) (used : Text) (ks : List Tm) : Nat → Option (List Tm × Text)
  | 0 => some ([], used)
  | k + 1 => (unqAt f e eI used ks k).bind fun st => (ks[k]?).bind fun s => (f (if k + 1 = ks.length then eI else e) st.2 s).map fun r => (st.1 ++ [r.1], r.2)
/-- A term whose parts bind names that are next, and all that have been used; fuel: how many parts lie within each other. -/
def unqT : Nat → (UInt8 → UInt8) → Text → Tm → Option (Tm × Text)
  | 0, _, used, t => some (t, used)
  | n + 1, e, used, t => match t with
    | .var c => some (.var (e c), used)
    | .num k => some (.num k, used)
    | t => (freshK used (bindsOf t).length).bind fun ns => (unqAt (unqT n) e (over (bindsOf t) ns e) (used ++ ns) t.kids t.kids.length).map fun r => (reTm t ns r.1, r.2)
theorem unqT_node (n : Nat) (e : UInt8 → UInt8) (used : Text) {t : Tm} (h : ∀ c, t ≠ .var c) :
    unqT (n + 1) e used t = (freshK used (bindsOf t).length).bind fun ns => (unqAt (unqT n) e (over (bindsOf t) ns e) (used ++ ns) t.kids t.kids.length).map fun r => (reTm t ns r.1, r.2) := by
  cases t with
  | var c => exact absurd rfl (h c)
  | num k => simp [unqT, freshK, bindsOf, Tm.kids, unqAt, reTm]
  | _ => rfl
/-- What Unique comes to. -/
def unqO (s : Text) : Option Tm := (readS s).bind fun t => (unqT 24 id (sfree t) t).map (·.1)

theorem freshK_none {used : Text} {k : Nat} (h : freshK used k = none) : ∀ j, freshK used (k + j) = none
  | 0 => h
  | j + 1 => by rw [show k + (j + 1) = (k + j) + 1 from rfl, freshK, freshK_none h j]; rfl
theorem freshK_pre {used : Text} {n : Nat} {ms : Text} (h : freshK used n = some ms) : ∀ k, k ≤ n → ∃ ns, freshK used k = some ns := by
  intro k hk
  rcases hr : freshK used k with _ | ns
  · have := freshK_none hr (n - k)
    rw [show k + (n - k) = n by omega, h] at this
    cases this
  · exact ⟨ns, rfl⟩
/-- The names used so far: all of them names, each once. -/
structure Used (u : Text) : Prop where
  nam : ∀ c ∈ u, isNam c = true
  nod : u.Nodup
theorem newO_nodup {s : Text} {d : UInt8} (hs : Used s) (h : newO s = some d) : Used (s ++ [d]) := by
  have := newO_nam h
  refine ⟨fun c hc => ?_, List.nodup_append.2 ⟨hs.nod, by simp, ?_⟩⟩
  · rcases List.mem_append.1 hc with h | h
    · exact hs.nam c h
    · simp at h; subst h; exact this.1
  · intro a ha b hb
    simp at hb
    subst hb
    rintro rfl
    exact this.2 ha
/-- What fresh names are. -/
theorem freshK_some : ∀ {k : Nat} {used ns : Text}, Used used → freshK used k = some ns → ns.length = k ∧ Used (used ++ ns)
  | 0, used, ns, hu, h => by
    simp only [freshK, Option.some.injEq] at h
    subst h
    exact ⟨rfl, by rw [List.append_nil]; exact hu⟩
  | k + 1, used, ns, hu, h => by
    simp only [freshK, Option.bind_eq_some_iff, Option.map_eq_some_iff] at h
    obtain ⟨ns0, h0, c, hc, rfl⟩ := h
    obtain ⟨h1, h2⟩ := freshK_some hu h0
    exact ⟨by simp [h1], by rw [← List.append_assoc]; exact newO_nodup h2 hc⟩
theorem sub_len : ∀ (L u : Text), u.Nodup → (∀ c ∈ u, c ∈ L) → u.length ≤ L.length := by
  intro L
  induction L with
  | nil =>
    intro u _ h
    cases u with
    | nil => simp
    | cons a u => exact absurd (h a (by simp)) (by simp)
  | cons a L ih =>
    intro u hn h
    have := ih (u.erase a) (hn.erase a) (fun c hc => by
      have h1 := (List.Nodup.mem_erase_iff hn).1 hc
      have h2 := h c h1.2
      rcases List.mem_cons.1 h2 with h3 | h3
      · exact absurd h3 h1.1
      · exact h3)
    rw [List.length_erase] at this
    split at this <;> simp <;> omega
theorem used_len {u : Text} (h : Used u) : u.length ≤ 16 :=
  sub_len letters u h.nod (fun c hc => nam_letter (h.nam c hc))
theorem unqAt_none {f : (UInt8 → UInt8) → Text → Tm → Option (Tm × Text)} {e eI : UInt8 → UInt8} {used : Text} {ks : List Tm} {k : Nat} (h : unqAt f e eI used ks k = none) : ∀ j, unqAt f e eI used ks (k + j) = none
  | 0 => h
  | j + 1 => by rw [show k + (j + 1) = (k + j) + 1 from rfl, unqAt, unqAt_none h j]; rfl
theorem unqAt_pre {f : (UInt8 → UInt8) → Text → Tm → Option (Tm × Text)} {e eI : UInt8 → UInt8} {used : Text} {ks : List Tm} {n : Nat} {r : List Tm × Text} (h : unqAt f e eI used ks n = some r) : ∀ k, k ≤ n → ∃ st, unqAt f e eI used ks k = some st := by
  intro k hk
  rcases hr : unqAt f e eI used ks k with _ | st
  · have := unqAt_none hr (n - k)
    rw [show k + (n - k) = n by omega, h] at this
    cases this
  · exact ⟨st, rfl⟩
/-- Kids alike. -/
structure Kin (ks ls : List Tm) : Prop where
  len : ls.length = ks.length
  like : ∀ (i : Nat) (s r : Tm), ks[i]? = some s → ls[i]? = some r → Alike r s
theorem reTm_alike {t : Tm} {ns : Text} {ks : List Tm} (hn : ns.length = (bindsOf t).length) (hnam : ∀ c ∈ ns, isNam c = true) (hnod : ns.Nodup) (hv : ∀ c, t ≠ .var c) (h : Kin t.kids ks) : Alike (reTm t ns ks) t := by
  obtain ⟨hl, hk⟩ := h
  cases t with
  | num k => exact Alike.rfl' _
  | var c => exact absurd rfl (hv c)
  | fn c b =>
    match ns, ks, hn, hl with
    | [d0], [s0], _, _ =>
      have h0 := hk 0 b s0 rfl rfl
      exact ⟨by simp [reTm, Tm.depth, h0.deep], by simp [reTm, parts, h0.many], fun g => ⟨hnam d0 (by simp), h0.good g.2⟩⟩
  | fix f c b =>
    match ns, ks, hn, hl with
    | [d0, d1], [s0], _, _ =>
      have h0 := hk 0 b s0 rfl rfl
      exact ⟨by simp [reTm, Tm.depth, h0.deep], by simp [reTm, parts, h0.many], fun g => ⟨hnam d0 (by simp), hnam d1 (by simp), by simpa using hnod, h0.good g.2.2.2⟩⟩
  | app f a =>
    match ns, ks, hn, hl with
    | [], [s0, s1], _, _ =>
      have h0 := hk 0 f s0 rfl rfl
      have h1 := hk 1 a s1 rfl rfl
      exact ⟨by simp [reTm, Tm.depth, h0.deep, h1.deep], by simp [reTm, parts, h0.many, h1.many], fun g => ⟨h0.good g.1, h1.good g.2⟩⟩
  | bind c v b =>
    match ns, ks, hn, hl with
    | [d0], [s0, s1], _, _ =>
      have h0 := hk 0 v s0 rfl rfl
      have h1 := hk 1 b s1 rfl rfl
      exact ⟨by simp [reTm, Tm.depth, h0.deep, h1.deep], by simp [reTm, parts, h0.many, h1.many], fun g => ⟨hnam d0 (by simp), h0.good g.2.1, h1.good g.2.2⟩⟩
  | op o l r =>
    match ns, ks, hn, hl with
    | [], [s0, s1], _, _ =>
      have h0 := hk 0 l s0 rfl rfl
      have h1 := hk 1 r s1 rfl rfl
      exact ⟨by simp [reTm, Tm.depth, h0.deep, h1.deep], by simp [reTm, parts, h0.many, h1.many], fun g => ⟨g.1, h0.good g.2.1, h1.good g.2.2⟩⟩
  | sel x y z =>
    match ns, ks, hn, hl with
    | [], [s0, s1, s2], _, _ =>
      have h0 := hk 0 x s0 rfl rfl
      have h1 := hk 1 y s1 rfl rfl
      have h2 := hk 2 z s2 rfl rfl
      exact ⟨by simp [reTm, Tm.depth, h0.deep, h1.deep, h2.deep], by simp [reTm, parts, h0.many, h1.many, h2.many], fun g => ⟨h0.good g.1, h1.good g.2.1, h2.good g.2.2⟩⟩
theorem lookup_zip_mem : ∀ {ns ms : Text} {c d : UInt8}, (ns.zip ms).lookup c = some d → d ∈ ms
  | [], _, _, _, h => by simp at h
  | _ :: _, [], _, _, h => by simp at h
  | a :: ns, b :: ms, c, d, h => by
    simp only [List.zip_cons_cons, List.lookup_cons] at h
    by_cases e : (c == a) = true
    · rw [e] at h
      simp only [Option.some.injEq] at h
      subst h
      simp
    · rw [Bool.eq_false_iff.2 e] at h
      exact List.mem_cons_of_mem _ (lookup_zip_mem h)
theorem over_nam {ns ms : Text} {e : UInt8 → UInt8} (hm : ∀ c ∈ ms, isNam c = true) (he : ∀ c, isNam c = true → isNam (e c) = true) : ∀ c, isNam c = true → isNam (over ns ms e c) = true := by
  intro c hc
  unfold over
  rcases h : (ns.zip ms).lookup c with _ | d
  · exact he c hc
  · exact hm d (lookup_zip_mem h)
/-- What comes of a term is alike, and what is used then. -/
theorem unqT_like : ∀ (n : Nat) {e : UInt8 → UInt8} {used : Text} {t : Tm} {r : Tm × Text}, t.good → (∀ c, isNam c = true → isNam (e c) = true) → Used used → unqT n e used t = some r → Alike r.1 t ∧ Used r.2
  | 0, e, used, t, r, hg, he, hu, h => by
    simp only [unqT, Option.some.injEq] at h
    subst h
    exact ⟨Alike.rfl' t, hu⟩
  | n + 1, e, used, t, r, hg, he, hu, h => by
    by_cases hv : ∃ c, t = .var c
    · obtain ⟨c, rfl⟩ := hv
      simp only [unqT, Option.some.injEq] at h
      subst h
      exact ⟨⟨rfl, rfl, fun g => he c g⟩, hu⟩
    · have hv' : ∀ c, t ≠ .var c := fun c e => hv ⟨c, e⟩
      rw [unqT_node n e used hv'] at h
      simp only [Option.bind_eq_some_iff, Option.map_eq_some_iff] at h
      obtain ⟨ns, h1, st, h2, rfl⟩ := h
      obtain ⟨hl, hus⟩ := freshK_some hu h1
      have hnm : ∀ c ∈ ns, isNam c = true := fun c hc => hus.nam c (List.mem_append_right _ hc)
      have hI := over_nam (ns := bindsOf t) hnm he
      have key : ∀ k, k ≤ t.kids.length → ∀ st, unqAt (unqT n) e (over (bindsOf t) ns e) (used ++ ns) t.kids k = some st → Used st.2 ∧ Kin (t.kids.take k) st.1 := by
        intro k
        induction k with
        | zero =>
          intro _ st h
          simp only [unqAt, Option.some.injEq] at h
          subst h
          exact ⟨hus, by simp, fun i s r h1 h2 => by simp at h2⟩
        | succ k ih =>
          intro hk st h
          simp only [unqAt, Option.bind_eq_some_iff, Option.map_eq_some_iff] at h
          obtain ⟨st0, h0, s, hs, r, hr, rfl⟩ := h
          obtain ⟨u0, k0⟩ := ih (by omega) st0 h0
          have hsg := Tm.kid_good hg (List.mem_of_getElem? hs)
          obtain ⟨a1, u1⟩ := unqT_like n (e := if k + 1 = t.kids.length then over (bindsOf t) ns e else e) hsg (by split; exact hI; exact he) u0 hr
          refine ⟨u1, ?_, ?_⟩
          · simp only [List.length_append, List.length_cons, List.length_nil, k0.len, List.length_take]
            omega
          · intro i s' r' e1 e2
            by_cases hi : i < k
            · rw [List.getElem?_append_left (by have := k0.len; simp only [List.length_take] at this; omega)] at e2
              refine k0.like i s' r' ?_ e2
              rw [List.getElem?_take] at e1 ⊢
              rw [if_pos (by omega)] at e1
              rw [if_pos hi]
              exact e1
            · have hki : i = k := by
                have := (List.getElem?_eq_some_iff.1 e1).1
                simp only [List.length_take] at this
                omega
              subst hki
              have hl0 : st0.1.length = i := by have := k0.len; simp only [List.length_take] at this; omega
              rw [List.getElem?_append_right (by omega)] at e2
              simp only [hl0, Nat.sub_self, List.getElem?_cons_zero, Option.some.injEq] at e2
              subst e2
              rw [List.getElem?_take, if_pos (by omega), hs] at e1
              simp only [Option.some.injEq] at e1
              subst e1
              exact a1
      obtain ⟨u2, k2⟩ := key _ (Nat.le_refl _) st h2
      rw [List.take_length] at k2
      exact ⟨reTm_alike hl hnm (List.nodup_append.1 hus.nod).2.1 hv' k2, u2⟩
theorem unqAt_len {F : (UInt8 → UInt8) → Text → Tm → Option (Tm × Text)} {e eI : UInt8 → UInt8} {u : Text} {ks : List Tm} : ∀ (k : Nat) (st : List Tm × Text), unqAt F e eI u ks k = some st → st.1.length = k
  | 0, st, h => by
    simp only [unqAt, Option.some.injEq] at h
    subst h
    rfl
  | k + 1, st, h => by
    simp only [unqAt, Option.bind_eq_some_iff, Option.map_eq_some_iff] at h
    obtain ⟨st0, h0, s, hs, r, hr, rfl⟩ := h
    simp [unqAt_len k st0 h0]
theorem unqAt_used {F : (UInt8 → UInt8) → Text → Tm → Option (Tm × Text)} (hF : ∀ e u s r, Used u → F e u s = some r → Used r.2) {e eI : UInt8 → UInt8} {u : Text} {ks : List Tm} (hu : Used u) : ∀ (k : Nat) (st : List Tm × Text), unqAt F e eI u ks k = some st → Used st.2
  | 0, st, h => by
    simp only [unqAt, Option.some.injEq] at h
    subst h
    exact hu
  | k + 1, st, h => by
    simp only [unqAt, Option.bind_eq_some_iff, Option.map_eq_some_iff] at h
    obtain ⟨st0, h0, s, hs, r, hr, rfl⟩ := h
    exact hF _ _ _ _ (unqAt_used hF hu k st0 h0) hr
theorem unqT_used : ∀ (n : Nat) (e : UInt8 → UInt8) (u : Text) (t : Tm) (r : Tm × Text), Used u → unqT n e u t = some r → Used r.2
  | 0, e, u, t, r, hu, h => by
    simp only [unqT, Option.some.injEq] at h
    subst h
    exact hu
  | n + 1, e, u, t, r, hu, h => by
    by_cases hv : ∃ c, t = .var c
    · obtain ⟨c, rfl⟩ := hv
      simp only [unqT, Option.some.injEq] at h
      subst h
      exact hu
    · rw [unqT_node n e u (fun c e => hv ⟨c, e⟩)] at h
      simp only [Option.bind_eq_some_iff, Option.map_eq_some_iff] at h
      obtain ⟨ns, h1, st, h2, rfl⟩ := h
      exact unqAt_used (unqT_used n) (freshK_some hu h1).2 _ st h2
end Go.Proofs.YtkelncocppiepaaGreatDoor
