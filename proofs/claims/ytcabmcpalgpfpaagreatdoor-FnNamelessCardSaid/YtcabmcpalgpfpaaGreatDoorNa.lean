import Derived.Test.YtcabmcpalgpfpaaGreatDoorPt
import Derived.Test.YtcabmcpalgpfpaaGreatDoorMTx
/- Terms without bound names, as plain data: what both sides do. No program in sight. -/
namespace Go.Proofs.YtcabmcpalgpfpaaGreatDoor
open Ff
set_option linter.unusedVariables false

/-- A part of a nameless term: its sign, its number, what lies within it. -/
inductive Knot where
  | mk (s : UInt8) (v : Int) (ks : List Knot)
/-- How many names are bound further inwards than one, within a binder. -/
def deeper (ns : Text) (f : UInt8 → Int) (c : UInt8) : Int := if 0 ≤ findI c ns then (ns.length : Int) - 1 - findI c ns else if f c = -1 then -1 else f c + ns.length
theorem deeper_nil (f : UInt8 → Int) : deeper [] f = f := by
  funext c
  have h : findI c [] = -1 := findI_none (by simp)
  unfold deeper
  rw [h]
  by_cases e : f c = -1 <;> simp [e]
/-- A term as a nameless one. -/
def knT : Nat → (UInt8 → Int) → Tm → Knot
  | 0, _, _ => .mk 0 0 []
  | n + 1, f, t => match t with
    | .num k => .mk 35 k []
    | .var c => if f c = -1 then .mk c 0 [] else .mk 36 (f c) []
    | .fn c b => .mk 92 0 [knT n (deeper [c] f) b]
    | .fix g c b => .mk 64 0 [knT n (deeper [g, c] f) b]
    | .app x y => .mk 40 0 [knT n f x, knT n f y]
    | .bind c x y => .mk 61 0 [knT n f x, knT n (deeper [c] f) y]
    | .op o x y => .mk o 0 [knT n f x, knT n f y]
    | .sel x y z => .mk 63 0 [knT n f x, knT n f y, knT n f z]
/-- The kid at a place. -/
def knK (n : Nat) (f : UInt8 → Int) (t : Tm) (k : Nat) (s : Tm) : Knot := knT n (if k + 1 = t.kids.length then deeper (bindsOf t) f else f) s
theorem knT_node (n : Nat) (f : UInt8 → Int) {t : Tm} (hg : t.good) (hk : t.kids ≠ []) : knT (n + 1) f t = .mk (headN t) 0 (t.kids.mapIdx (knK n f t)) := by
  cases t with
  | num k => exact absurd rfl hk
  | var c => exact absurd rfl hk
  | fn c b => rfl
  | fix g c b => rfl
  | app x y => simp [knT, knK, Tm.kids, bindsOf, deeper_nil, headN, kindOf]
  | bind c x y => simp [knT, knK, Tm.kids, bindsOf, headN, kindOf]
  | op o x y => rcases hg.1 with h | h | h <;> subst h <;> simp [knT, knK, Tm.kids, bindsOf, deeper_nil, headN, kindOf]
  | sel x y z => simp [knT, knK, Tm.kids, bindsOf, deeper_nil, headN, kindOf]
/-- The text of a nameless term. -/
def knText : Nat → Knot → Text
  | 0, _ => []
  | n + 1, .mk s v ks => if s = 35 then numN v.toNat else if s = 36 then 36 :: (decN v.toNat ++ [59]) else s :: (((ks.map (knText n)).flatten) ++ (if s = 40 then [41] else []))
/-- Are two the same. -/
def eqK : Nat → Knot → Knot → Bool
  | 0, _, _ => true
  | n + 1, .mk s v ks, .mk s' v' ks' => (decide (s = s') && decide (v = v')) && (decide (ks.length = ks'.length) && (ks.zip ks').all fun p => eqK n p.1 p.2)
/-- What is true of the knots of a term. -/
def okK : Nat → Knot → Prop
  | 0, _ => False
  | n + 1, .mk s v ks => (s = 35 ∨ s = 36 → 0 ≤ v ∧ v ≤ 99) ∧ (ks.length ≤ 3) ∧ (s = 35 ∨ s = 36 ∨ s ∈ letters ∨ s = 43 ∨ s = 45 ∨ s = 42 ∨ s = 92 ∨ s = 64 ∨ s = 40 ∨ s = 61 ∨ s = 63) ∧ ∀ k ∈ ks, okK n k
/-- What tells how many names are bound: numbers that are not too large. -/
def OkF (n : Nat) (f : UInt8 → Int) : Prop := n ≤ 24 ∧ ∀ c, f c = -1 ∨ (0 ≤ f c ∧ f c + 2 * n ≤ 99)
theorem findI_lt (c : UInt8) (s : Text) : findI c s < s.length ∨ s = [] := by
  by_cases h : c ∈ s
  · obtain ⟨j, hj⟩ := List.getElem?_of_mem h
    left
    have : ∃ j, s[j]? = some c ∧ c ∉ s.take j := by
      clear hj
      induction s with
      | nil => cases h
      | cons a s ih =>
        by_cases e : c = a
        · subst e; exact ⟨0, rfl, by simp⟩
        · have hm : c ∈ s := by
            rcases List.mem_cons.1 h with h | h
            · exact absurd h e
            · exact h
          obtain ⟨j, h1, h2⟩ := ih hm
          exact ⟨j + 1, by simpa using h1, by simp only [List.take_succ_cons, List.mem_cons, not_or]; exact ⟨e, h2⟩⟩
    obtain ⟨j, h1, h2⟩ := this
    rw [findI_at h1 h2]
    have := (List.getElem?_eq_some_iff.1 h1).1
    omega
  · rw [findI_none h]
    cases s with
    | nil => right; rfl
    | cons a s => left; simp; omega
theorem okF_deeper {n : Nat} {f : UInt8 → Int} (h : OkF (n + 1) f) {ns : Text} (hn : ns.length ≤ 2) : OkF n (deeper ns f) := by
  refine ⟨by have := h.1; omega, fun c => ?_⟩
  have h1 := h.2 c
  have h0 := h.1
  have h2 := findI_lt c ns
  unfold deeper
  by_cases e : 0 ≤ findI c ns
  · rw [if_pos e]
    rcases h2 with h2 | h2
    · right; omega
    · subst h2; rw [findI_none (by simp)] at e; omega
  · rw [if_neg e]
    by_cases e2 : f c = -1
    · left; rw [if_pos e2]
    · right; rw [if_neg e2]; omega
theorem okF_less {n : Nat} {f : UInt8 → Int} (h : OkF (n + 1) f) : OkF n f := by
  rw [← deeper_nil f]; exact okF_deeper h (by simp)
theorem knT_ok : ∀ (n : Nat) (f : UInt8 → Int) (t : Tm), t.depth ≤ n → t.good → OkF n f → okK n (knT n f t)
  | 0, f, t, hd, _, _ => absurd hd (by have := t.depth_pos; omega)
  | n + 1, f, t, hd, hg, hf => by
    by_cases hk : t.kids = []
    · cases t with
      | num k => exact ⟨fun _ => by have := hg; simp only [Tm.good] at this; omega, by simp, by simp, fun k hk => by cases hk⟩
      | var c =>
        simp only [knT]
        by_cases e : f c = -1
        · rw [if_pos e]
          have hc := nam_letter hg
          refine ⟨fun h => ?_, by simp, .inr (.inr (.inl hc)), fun k hk => by cases hk⟩
          rcases h with h | h <;> subst h <;> exact absurd (show isNam _ = true from hg) (by decide)
        · rw [if_neg e]
          have := hf.2 c
          exact ⟨fun _ => by omega, by simp, by simp, fun k hk => by cases hk⟩
      | _ => simp [Tm.kids] at hk
    · rw [knT_node n f hg hk]
      have h1 : kindOf t ≠ 110 := by
        cases t with
        | num k => exact absurd rfl hk
        | op o x y => rcases hg.1 with h | h | h <;> subst h <;> simp [kindOf]
        | _ => simp [kindOf]
      have h2 : kindOf t ≠ 118 := by
        cases t with
        | var k => exact absurd rfl hk
        | op o x y => rcases hg.1 with h | h | h <;> subst h <;> simp [kindOf]
        | _ => simp [kindOf]
      have hc := kind_cases hg h1 h2
      refine ⟨fun h => ?_, by rw [List.length_mapIdx]; cases t <;> simp [Tm.kids], ?_, fun k hkm => ?_⟩
      · unfold headN at h
        rcases hc with e | e | e | e | e | e | e | e <;> rw [e] at h <;> revert h <;> decide
      · unfold headN
        rcases hc with e | e | e | e | e | e | e | e <;> rw [e] <;> decide
      · rw [List.mem_mapIdx] at hkm
        obtain ⟨i, hi, rfl⟩ := hkm
        have hm : t.kids[i] ∈ t.kids := List.getElem_mem _
        have hdk := kid_depth hm
        refine knT_ok n _ _ (by omega) (Tm.kid_good hg hm) ?_
        split
        · exact okF_deeper hf (binds_len t)
        · exact okF_less hf
/-- The text of a nameless term. -/
def nlT (n : Nat) (f : UInt8 → Int) (t : Tm) : Text := knText n (knT n f t)
theorem nlT_num (n : Nat) (f : UInt8 → Int) (k : Nat) : nlT (n + 1) f (.num k) = numN k := by simp [nlT, knT, knText]
theorem nam_ne {c : UInt8} (h : isNam c = true) : c ≠ 35 ∧ c ≠ 36 ∧ c ≠ 40 := by
  refine ⟨?_, ?_, ?_⟩ <;> (rintro rfl; exact absurd h (by decide))
theorem nlT_free (n : Nat) {f : UInt8 → Int} {c : UInt8} (hc : isNam c = true) (h : f c = -1) : nlT (n + 1) f (.var c) = [c] := by
  obtain ⟨h1, h2, h3⟩ := nam_ne hc
  simp [nlT, knT, h, knText, h1, h2, h3]
theorem nlT_bound (n : Nat) {f : UInt8 → Int} {c : UInt8} (h : f c ≠ -1) : nlT (n + 1) f (.var c) = 36 :: (decN (f c).toNat ++ [59]) := by
  simp [nlT, knT, h, knText]
theorem kind_node {t : Tm} (hg : t.good) (hk : t.kids ≠ []) : kindOf t ≠ 110 ∧ kindOf t ≠ 118 := by
  cases t with
  | num k => exact absurd rfl hk
  | var k => exact absurd rfl hk
  | op o x y => rcases hg.1 with h | h | h <;> subst h <;> simp [kindOf]
  | _ => simp [kindOf]
theorem head_node {t : Tm} (hg : t.good) (hk : t.kids ≠ []) : headN t ≠ 35 ∧ headN t ≠ 36 ∧ ((headN t = 40) ↔ kindOf t = 40) := by
  obtain ⟨h1, h2⟩ := kind_node hg hk
  unfold headN
  rcases kind_cases hg h1 h2 with e | e | e | e | e | e | e | e <;> rw [e] <;> decide
theorem nlT_node (n : Nat) (f : UInt8 → Int) {t : Tm} (hg : t.good) (hk : t.kids ≠ []) : nlT (n + 1) f t = headN t :: ((((t.kids.mapIdx (knK n f t)).map (knText n)).flatten) ++ tailN t) := by
  obtain ⟨h1, h2, h3⟩ := head_node hg hk
  unfold nlT
  rw [knT_node n f hg hk]
  simp only [knText, if_neg h1, if_neg h2]
  unfold tailN
  by_cases e : kindOf t = 40
  · rw [if_pos (h3.2 e), if_pos e]
  · rw [if_neg (fun h => e (h3.1 h)), if_neg e]
/-- What a first byte tells. -/
def clsB (b : UInt8) : Nat := if isDig b = true ∨ b = 35 then 1 else if isNam b = true then 2 else if b = 36 then 3 else b.toNat
def clsT (f : UInt8 → Int) (t : Tm) : Nat := match t with
  | .num _ => 1
  | .var c => if f c = -1 then 2 else 3
  | t => kindOf t
theorem nlT_head (n : Nat) (f : UInt8 → Int) {t : Tm} (hg : t.good) : ∃ b r, nlT (n + 1) f t = b :: r ∧ clsB b = clsT f t := by
  by_cases hk : t.kids = []
  · cases t with
    | num k =>
      rw [nlT_num]
      unfold numN
      by_cases h : k < 10
      · rw [if_pos h]
        unfold decN
        rw [if_pos h]
        exact ⟨_, _, rfl, by unfold clsB clsT; rw [if_pos (.inl (dig_is h))]⟩
      · rw [if_neg h]
        exact ⟨_, _, rfl, by show clsB 35 = 1; decide⟩
    | var c =>
      have hc : isNam c = true := hg
      obtain ⟨h1, h2, h3⟩ := nam_ne hc
      by_cases h : f c = -1
      · rw [nlT_free n hc h]
        refine ⟨_, _, rfl, ?_⟩
        unfold clsB clsT
        have hd : isDig c = false := by
          unfold isNam at hc
          unfold isDig
          simp at hc ⊢
          omega
        simp [hd, h1, hc, h]
      · rw [nlT_bound n h]
        exact ⟨_, _, rfl, by simp only [clsT, if_neg h]; decide⟩
    | _ => simp [Tm.kids] at hk
  · rw [nlT_node n f hg hk]
    refine ⟨_, _, rfl, ?_⟩
    obtain ⟨h1, h2⟩ := kind_node hg hk
    have e2 : clsT f t = kindOf t := by
      cases t with
      | num k => exact absurd rfl hk
      | var k => exact absurd rfl hk
      | _ => rfl
    rw [e2]
    unfold headN
    rcases kind_cases hg h1 h2 with e | e | e | e | e | e | e | e <;> rw [e] <;> decide
theorem dec_inj {a b : Nat} (ha : a ≤ 99) (hb : b ≤ 99) {r r' : Text} (h : decN a ++ 59 :: r = decN b ++ 59 :: r') : a = b ∧ r = r' := by
  have key : ∀ x y : Nat, x < 10 → y < 10 → UInt8.ofNat (48 + x) = UInt8.ofNat (48 + y) → x = y := by
    intro x y hx hy e
    have := congrArg UInt8.toNat e
    rw [dig_toN hx, dig_toN hy] at this
    omega
  have key2 : ∀ x : Nat, x < 10 → UInt8.ofNat (48 + x) ≠ 59 := by
    intro x hx e
    have := congrArg UInt8.toNat e
    rw [dig_toN hx] at this
    have : (59 : UInt8).toNat = 59 := rfl
    omega
  unfold decN at h
  by_cases h1 : a < 10 <;> by_cases h2 : b < 10
  · rw [if_pos h1, if_pos h2] at h
    simp only [List.cons_append, List.nil_append, List.cons.injEq, true_and] at h
    exact ⟨key a b h1 h2 h.1, h.2⟩
  · rw [if_pos h1, if_neg h2] at h
    simp only [List.cons_append, List.nil_append, List.cons.injEq] at h
    exact absurd h.2.1.symm (key2 (b % 10) (by omega))
  · rw [if_neg h1, if_pos h2] at h
    simp only [List.cons_append, List.nil_append, List.cons.injEq] at h
    exact absurd h.2.1 (key2 (a % 10) (by omega))
  · rw [if_neg h1, if_neg h2] at h
    simp only [List.cons_append, List.nil_append, List.cons.injEq, true_and] at h
    have e1 := key (a / 10) (b / 10) (by omega) (by omega) h.1
    have e2 := key (a % 10) (b % 10) (by omega) (by omega) h.2.1
    exact ⟨by omega, h.2.2⟩
theorem cls_kind {f f' : UInt8 → Int} {t t' : Tm} (hg : t.good) (hg' : t'.good) (h : clsT f t = clsT f' t') (hk : t.kids ≠ []) : t'.kids ≠ [] ∧ kindOf t = kindOf t' := by
  obtain ⟨h1, h2⟩ := kind_node hg hk
  have e2 : clsT f t = kindOf t := by
    cases t with
    | num k => exact absurd rfl hk
    | var k => exact absurd rfl hk
    | _ => rfl
  have hb := kind_cases hg h1 h2
  rw [e2] at h
  cases t' with
  | num k => simp only [clsT] at h; rw [h] at hb; simp at hb
  | var c =>
    simp only [clsT] at h
    by_cases e : f' c = -1
    · rw [if_pos e] at h; rw [h] at hb; simp at hb
    · rw [if_neg e] at h; rw [h] at hb; simp at hb
  | _ => exact ⟨by simp [Tm.kids], h⟩
/-- Two that have the same text in front are the same. -/
theorem nlT_inj : ∀ (n : Nat) (f f' : UInt8 → Int) (t t' : Tm) (r r' : Text), t.depth ≤ n → t'.depth ≤ n → t.good → t'.good → OkF n f → OkF n f' → nlT n f t ++ r = nlT n f' t' ++ r' → knT n f t = knT n f' t' ∧ r = r'
  | 0, f, f', t, t', r, r', hd, _, _, _, _, _, _ => absurd hd (by have := t.depth_pos; omega)
  | n + 1, f, f', t, t', r, r', hd, hd', hg, hg', hf, hf', h => by
    obtain ⟨b, s, e1, c1⟩ := nlT_head n f hg
    obtain ⟨b', s', e2, c2⟩ := nlT_head n f' hg'
    have hcl : clsT f t = clsT f' t' := by
      rw [e1, e2] at h
      simp only [List.cons_append, List.cons.injEq] at h
      rw [← c1, ← c2, h.1]
    by_cases hk : t.kids = []
    · have hk' : t'.kids = [] := Classical.byContradiction fun hk' => (cls_kind hg' hg hcl.symm hk').1 hk
      cases t with
      | num k =>
        cases t' with
        | num k' =>
          rw [nlT_num, nlT_num] at h
          have p1 := text_parse (.num k) hg 1 r (by simp [Tm.depth])
          have p2 := text_parse (.num k') hg' 1 r' (by simp [Tm.depth])
          rw [show textN (.num k) ++ r = textN (.num k') ++ r' from h, p2] at p1
          simp only [Option.some.injEq, Prod.mk.injEq, Tm.num.injEq] at p1
          exact ⟨by rw [p1.1]; rfl, p1.2.symm⟩
        | var c => simp only [clsT] at hcl; split at hcl <;> omega
        | _ => simp [Tm.kids] at hk'
      | var c =>
        have hc : isNam c = true := hg
        cases t' with
        | num k' => simp only [clsT] at hcl; split at hcl <;> omega
        | var c' =>
          have hc' : isNam c' = true := hg'
          simp only [clsT] at hcl
          by_cases a1 : f c = -1 <;> by_cases a2 : f' c' = -1
          · rw [nlT_free n hc a1, nlT_free n hc' a2] at h
            simp only [List.cons_append, List.nil_append, List.cons.injEq] at h
            obtain ⟨rfl, hr⟩ := h
            exact ⟨by simp only [knT, if_pos a1, if_pos a2], hr⟩
          · simp [a1, a2] at hcl
          · simp [a1, a2] at hcl
          · rw [nlT_bound n a1, nlT_bound n a2] at h
            simp only [List.cons_append, List.append_assoc, List.nil_append, List.cons.injEq, true_and] at h
            have b1 := hf.2 c
            have b2 := hf'.2 c'
            obtain ⟨h1, h2⟩ := dec_inj (by omega) (by omega) h
            exact ⟨by simp only [knT, if_neg a1, if_neg a2]; congr 1; omega, h2⟩
        | _ => simp [Tm.kids] at hk'
      | _ => simp [Tm.kids] at hk
    · obtain ⟨hk', hkk⟩ := cls_kind hg hg' hcl hk
      rw [nlT_node n f hg hk, nlT_node n f' hg' hk'] at h
      rw [knT_node n f hg hk, knT_node n f' hg' hk']
      have hhd : headN t = headN t' := by unfold headN; rw [hkk]
      have htl : tailN t = tailN t' := by unfold tailN; rw [hkk]
      rw [← hhd, ← htl] at h
      simp only [List.cons_append, List.append_assoc, List.cons.injEq, true_and] at h
      have hlen : t.kids.length = t'.kids.length := by
        have : ∀ s : Tm, s.good → s.kids ≠ [] → s.kids.length = (if kindOf s = 92 ∨ kindOf s = 64 then 1 else if kindOf s = 63 then 3 else 2) := by
          intro s hs hks
          cases s with
          | num k => exact absurd rfl hks
          | var k => exact absurd rfl hks
          | op o x y => rcases hs.1 with h | h | h <;> subst h <;> rfl
          | _ => rfl
        rw [this t hg hk, this t' hg' hk', hkk]
      have key : ∀ (ks ls : List Tm) (g g' : UInt8 → UInt8 → Int) (F F' : Nat → UInt8 → Int) (q q' : Text), ks.length = ls.length → (∀ s ∈ ks, s.depth ≤ n ∧ s.good) → (∀ s ∈ ls, s.depth ≤ n ∧ s.good) → (∀ i, OkF n (F i)) → (∀ i, OkF n (F' i)) →
          ((ks.mapIdx fun i s => knT n (F i) s).map (knText n)).flatten ++ q = ((ls.mapIdx fun i s => knT n (F' i) s).map (knText n)).flatten ++ q' →
          (ks.mapIdx fun i s => knT n (F i) s) = (ls.mapIdx fun i s => knT n (F' i) s) ∧ q = q' := by
        intro ks
        induction ks with
        | nil =>
          intro ls g g' F F' q q' hl _ _ _ _ he
          cases ls with
          | nil => exact ⟨rfl, by simpa using he⟩
          | cons a ls => simp at hl
        | cons a ks ih =>
          intro ls g g' F F' q q' hl h1 h2 h3 h4 he
          cases ls with
          | nil => simp at hl
          | cons a' ls =>
            simp only [List.mapIdx_cons, List.map_cons, List.flatten_cons, List.append_assoc] at he ⊢
            obtain ⟨x1, x2⟩ := nlT_inj n (F 0) (F' 0) a a' _ _ (h1 a (by simp)).1 (h2 a' (by simp)).1 (h1 a (by simp)).2 (h2 a' (by simp)).2 (h3 0) (h4 0) he
            obtain ⟨y1, y2⟩ := ih ls g g' (fun i => F (i + 1)) (fun i => F' (i + 1)) q q' (by simpa using hl) (fun s hs => h1 s (by simp [hs])) (fun s hs => h2 s (by simp [hs])) (fun i => h3 (i + 1)) (fun i => h4 (i + 1)) x2
            exact ⟨by rw [x1, y1], y2⟩
      obtain ⟨z1, z2⟩ := key t.kids t'.kids (fun _ _ => 0) (fun _ _ => 0) (fun i => if i + 1 = t.kids.length then deeper (bindsOf t) f else f) (fun i => if i + 1 = t'.kids.length then deeper (bindsOf t') f' else f') (tailN t ++ r) (tailN t ++ r') hlen
        (fun s hs => ⟨by have := kid_depth hs; omega, Tm.kid_good hg hs⟩) (fun s hs => ⟨by have := kid_depth hs; omega, Tm.kid_good hg' hs⟩)
        (fun i => by show OkF n (if i + 1 = t.kids.length then deeper (bindsOf t) f else f); split; exact okF_deeper hf (binds_len t); exact okF_less hf)
        (fun i => by show OkF n (if i + 1 = t'.kids.length then deeper (bindsOf t') f' else f'); split; exact okF_deeper hf' (binds_len t'); exact okF_less hf') h
      refine ⟨?_, List.append_cancel_left z2⟩
      rw [← hhd]
      congr 1
/-- The test is right. -/
theorem eqK_iff : ∀ (n : Nat) (k k' : Knot), okK n k → okK n k' → (eqK n k k' = true ↔ k = k')
  | 0, k, k', h, _ => absurd h (by simp [okK])
  | n + 1, .mk s v ks, .mk s' v' ks', h, h' => by
    have e1 := h.2.2.2
    have e2 := h'.2.2.2
    have key : ∀ ls ls' : List Knot, (∀ k ∈ ls, okK n k) → (∀ k ∈ ls', okK n k) → ((ls.length = ls'.length ∧ (ls.zip ls').all (fun p => eqK n p.1 p.2) = true) ↔ ls = ls') := by
      intro ls
      induction ls with
      | nil => intro ls' _ _; cases ls' <;> simp
      | cons a ls ih =>
        intro ls' h1 h2
        cases ls' with
        | nil => simp
        | cons a' ls' =>
          have i1 := eqK_iff n a a' (h1 a (by simp)) (h2 a' (by simp))
          have i2 := ih ls' (fun k hk => h1 k (by simp [hk])) (fun k hk => h2 k (by simp [hk]))
          simp only [List.length_cons, List.zip_cons_cons, List.all_cons, Bool.and_eq_true, List.cons.injEq, Nat.add_right_cancel_iff]
          rw [i1, ← i2]
          constructor
          · rintro ⟨x, y, z⟩; exact ⟨y, x, z⟩
          · rintro ⟨x, y, z⟩; exact ⟨y, x, z⟩
    have h3 := key ks ks' e1 e2
    simp only [eqK, Bool.and_eq_true, decide_eq_true_eq, Knot.mk.injEq, ← h3, and_assoc]
/-- Both roads: the same knots, the same texts. -/
theorem same_both {n : Nat} {f f' : UInt8 → Int} {t t' : Tm} (hd : t.depth ≤ n) (hd' : t'.depth ≤ n) (hg : t.good) (hg' : t'.good) (hf : OkF n f) (hf' : OkF n f') : eqK n (knT n f t) (knT n f' t') = decide (nlT n f t = nlT n f' t') := by
  have h := eqK_iff n _ _ (knT_ok n f t hd hg hf) (knT_ok n f' t' hd' hg' hf')
  by_cases e : nlT n f t = nlT n f' t'
  · rw [decide_eq_true e]
    exact h.2 (nlT_inj n f f' t t' [] [] hd hd' hg hg' hf hf' (by rw [e])).1
  · rw [decide_eq_false e]
    rcases hb : eqK n (knT n f t) (knT n f' t') with _ | _
    · rfl
    · exact absurd (congrArg (knText n) (h.1 hb)) e
end Go.Proofs.YtcabmcpalgpfpaaGreatDoor
