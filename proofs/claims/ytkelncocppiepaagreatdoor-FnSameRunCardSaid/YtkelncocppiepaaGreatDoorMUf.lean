import Derived.Test.YtkelncocppiepaaGreatDoorMUd
import Derived.Test.YtkelncocppiepaaGreatDoorMPe
/- Unique: the specification's renaming of a name that is read; pure facts on what a node comes to. -/
namespace Go.Proofs.YtkelncocppiepaaGreatDoor
open Go.RowKit
open Ff
set_option linter.unusedVariables false

/-- What a name is by two texts: the last one counts. -/
def envL (fr to : Text) (c : UInt8) : UInt8 := ((fr.zip to).reverse.lookup c).getD c
theorem lookup_app (l m : List (UInt8 × UInt8)) (c : UInt8) : (l ++ m).lookup c = (l.lookup c).or (m.lookup c) := by
  induction l with
  | nil => simp
  | cons a l ih =>
    obtain ⟨x, y⟩ := a
    simp only [List.cons_append, List.lookup_cons]
    cases c == x <;> simp [ih]
theorem envL_over {fr to ns ms : Text} (hl : fr.length = to.length) (hn : ms.length = ns.length) (hd : Dif ns) (h2 : ns.length ≤ 2) : envL (fr ++ ns) (to ++ ms) = over ns ms (envL fr to) := by
  funext c
  unfold envL over
  rw [List.zip_append hl, List.reverse_append, lookup_app]
  have key : (ns.zip ms).reverse.lookup c = (ns.zip ms).lookup c := by
    match ns, ms, hn with
    | [], [], _ => rfl
    | [a], [x], _ => rfl
    | [a, b], [x, y], _ =>
      have hab : a ≠ b := fun e => hd 0 1 a (by omega) rfl (by rw [e]; rfl)
      simp only [List.zip_cons_cons, List.zip_nil_right, List.reverse_cons, List.reverse_nil, List.nil_append, List.cons_append, List.lookup_cons, List.lookup_nil]
      by_cases h1 : c = a
      · subst h1
        have : (c == b) = false := by simpa using hab
        simp [this]
      · have h1' : (c == a) = false := by simpa using h1
        simp [h1']
    | _ :: _ :: _ :: _, _, _ => simp at h2
  rw [key]
  cases (ns.zip ms).lookup c <;> rfl
/-- Nothing from place k on is the name. -/
theorem envL_none {fr to : Text} {c : UInt8} (h : ∀ j : Nat, fr[j]? ≠ some c) : envL fr to c = c := by
  unfold envL
  have : ∀ l : List (UInt8 × UInt8), (∀ p ∈ l, p.1 ≠ c) → l.lookup c = none := by
    intro l
    induction l with
    | nil => intro _; rfl
    | cons a l ih =>
      intro hh
      obtain ⟨x, y⟩ := a
      have hx : (c == x) = false := by
        have := hh (x, y) (by simp)
        simp only at this
        rw [beq_eq_false_iff_ne]
        exact fun e => this e.symm
      rw [List.lookup_cons, hx]
      exact ih (fun p hp => hh p (by simp [hp]))
  rw [this _ (fun p hp => ?_)]
  · rfl
  · rw [List.mem_reverse] at hp
    have hp1 := (List.of_mem_zip (a := p.1) (b := p.2) hp).1
    obtain ⟨j, hj⟩ := List.getElem?_of_mem hp1
    intro e
    exact h j (by rw [hj, e])
theorem envL_at {fr to : Text} {c d : UInt8} {k : Nat} (hl : fr.length = to.length) (hk : fr[k]? = some c) (hd : to[k]? = some d) (h : ∀ j : Nat, k < j → fr[j]? ≠ some c) : envL fr to c = d := by
  have hkl := (List.getElem?_eq_some_iff.1 hk).1
  have e1 : fr = (fr.take k ++ [c]) ++ fr.drop (k + 1) := by
    rw [← take_snoc hk, List.take_append_drop]
  have e2 : to = (to.take k ++ [d]) ++ to.drop (k + 1) := by
    rw [← take_snoc hd, List.take_append_drop]
  have h0 : envL (fr.drop (k + 1)) (to.drop (k + 1)) c = c := envL_none fun j hj => by
    rw [List.getElem?_drop] at hj
    exact h (k + 1 + j) (by omega) hj
  unfold envL
  have e3 : fr.zip to = ((fr.take k).zip (to.take k) ++ [(c, d)]) ++ (fr.drop (k + 1)).zip (to.drop (k + 1)) := by
    conv => lhs; rw [e1, e2]
    rw [List.zip_append (by simp; omega), List.zip_append (by simp; omega)]
    rfl
  rw [e3, List.reverse_append, List.reverse_append, lookup_app]
  rcases hx : ((fr.drop (k + 1)).zip (to.drop (k + 1))).reverse.lookup c with _ | z
  · simp
  · exfalso
    have : (c, z) ∈ ((fr.drop (k + 1)).zip (to.drop (k + 1))).reverse := by
      have gen : ∀ l : List (UInt8 × UInt8), l.lookup c = some z → (c, z) ∈ l := by
        intro l
        induction l with
        | nil => intro h; simp at h
        | cons a l ih =>
          obtain ⟨x, y⟩ := a
          intro hh
          rw [List.lookup_cons] at hh
          by_cases e : c = x
          · subst e
            simp at hh
            subst hh
            simp
          · have : (c == x) = false := by simpa using e
            rw [this] at hh
            exact List.mem_cons_of_mem _ (ih hh)
      exact gen _ hx
    rw [List.mem_reverse] at this
    obtain ⟨j, hj⟩ := List.getElem?_of_mem (List.of_mem_zip this).1
    rw [List.getElem?_drop] at hj
    exact h (k + 1 + j) (by omega) hj

/-- Two boxes: a node, and what is told. -/
structure Un2 (w : World) (k n : Int) (s : ByteArray) (a : Option Addr) (l c : Nat) (W : World) : Prop where
  body : W.heap[w.heap.size]? = some (tmO k n s a l c)
  res : W.heap[w.heap.size + 1]? = some (tmO 0 0 ⟨#[]⟩ none 0 0)
  below : Below w.heap.size w W
  size : w.heap.size + 2 ≤ W.heap.size
theorem Un2.new (w : World) (k n : Int) (s : ByteArray) (a : Option Addr) (l c : Nat) : Un2 w k n s a l c ((w.alloc (tmO k n s a l c)).alloc (tmO 0 0 ⟨#[]⟩ none 0 0)) := by
  refine ⟨?_, ?_, below_two w _ _, by simp⟩
  · rw [alloc_farP _ _ (by simp)]; exact alloc_here _ _
  · have := alloc_here (w.alloc (tmO k n s a l c)) (tmO 0 0 ⟨#[]⟩ none 0 0)
    rwa [World.size_alloc] at this
theorem Un2.keep {w W W' : World} {k n : Int} {s : ByteArray} {a : Option Addr} {l c : Nat} (h : Un2 w k n s a l c W) (hb : Below W.heap.size W W') : Un2 w k n s a l c W' :=
  ⟨(hb.block _ (by have := h.size; omega)).trans h.body, (hb.block _ (by have := h.size; omega)).trans h.res, h.below.trans (hb.mono h.below.size), by have := hb.size; have := h.size; omega⟩
theorem Un2.grow {w W W' : World} {k n : Int} {s : ByteArray} {a : Option Addr} {l c : Nat} {row : Option Nat} (h : Un2 w k n s a l c W) (hg : W.grownBy W' row) (hr : ∀ g, row = some g → w.heap.size + 2 ≤ g) : Un2 w k n s a l c W' := by
  have hs := h.size
  have key : ∀ j, j < w.heap.size + 2 → W'.heap[j]? = W.heap[j]? := fun j hj => hg.block j (by omega) (fun e => by have := hr j e.symm; omega)
  exact ⟨(key _ (by omega)).trans h.body, (key _ (by omega)).trans h.res, h.below.trans ⟨hg.os, hg.tape, hg.output, hg.size, fun j hj => key j (by omega)⟩, by have := hg.size; omega⟩
/-- What the specification's comes to. -/
def UnqSP (S : Nat → Prop) (w : World) (o : Option (Tm × Text)) (e : Ending) (w' : World) : Prop := Below w.heap.size w w' ∧ ∃ (v0 v1 : Int) (v2 : ByteArray) (v3 : Option Addr) (v4 v5 : Nat),
  (∃ r, o = some r ∧ e = .returned (.tuple #[.agg #[.int .u8 v0, .int .i64 v1, .string v2, .slice v3 v4 v5], .string ⟨r.2.toArray⟩, .bool true]) ∧ Rep (fun g => S g ∨ New w w' g) w' r.1 (.agg #[.int .u8 v0, .int .i64 v1, .string v2, .slice v3 v4 v5])) ∨
  (o = none ∧ ∃ x : ByteArray, e = .returned (.tuple #[.agg #[.int .u8 v0, .int .i64 v1, .string v2, .slice v3 v4 v5], .string x, .bool false]))
def UnqSC (n : Nat) : Prop := ∀ (S : Nat → Prop) (fr to u : Text) (t : Tm) (vt : Value) (w : World), t.depth ≤ n → n ≤ 4000 → t.good → Used u → fr.length = to.length → fr.length + 2 * n ≤ 100000 → (∀ g, S g → g < w.heap.size) → Rep S w t vt →
  Calls Tryz.prog 17 #[vt, .string ⟨fr.toArray⟩, .string ⟨to.toArray⟩, .string ⟨u.toArray⟩] w (UnqSP S w (unqT n (envL fr to) u t))
set_option maxRecDepth 100000 in
set_option maxHeartbeats 4000000 in
theorem unqS_var (n : Nat) (S : Nat → Prop) (fr to u : Text) (c : UInt8) (vt : Value) (w : World) (hl : fr.length = to.length) (hfl : fr.length ≤ 100000) (hS : ∀ g, S g → g < w.heap.size) (hrt : Rep S w (.var c) vt) :
    Calls Tryz.prog 17 #[vt, .string ⟨fr.toArray⟩, .string ⟨to.toArray⟩, .string ⟨u.toArray⟩] w (UnqSP S w (unqT (n + 1) (envL fr to) u (.var c))) := by
  cases hrt with
  | mk _ g cap cs hg hc hk =>
  clear hc hk
  unfold tmHead
  have hR : ∀ (d : UInt8) (W : World), Rep (fun g => S g ∨ New w W g) W (.var d) (.agg #[.int .u8 118, .int .i64 0, .string ⟨#[d]⟩, .slice (some ⟨g, 0, none⟩) 0 cap]) := fun d W =>
    .mk (.var d) g cap (fun _ => undef) (.inl hg) (fun k hk => by simp [Tm.kids] at hk) (fun i s hi => by simp [Tm.kids] at hi) (Nat.zero_le _)
  show Calls Tryz.prog 17 #[.agg #[.int .u8 118, .int .i64 0, .string ⟨#[c]⟩, .slice (some ⟨g, 0, none⟩) 0 cap], .string ⟨fr.toArray⟩, .string ⟨to.toArray⟩, .string ⟨u.toArray⟩] w _
  have U0 := Un2.new w 118 0 ⟨#[c]⟩ (some ⟨g, 0, none⟩) 0 cap
  have hq : IntKind.i64.wrap ((fr.length : Int) - 1) = (fr.length : Int) - 1 := by rw [IntKind.wrap_i64]; omega
  have HR := Lib.hid hR
  have HL := Lib.hid hl
  clear hR hl
  go_enter Tryz.func17, Tryz.ntmps17
  go_wp2_with fail
  generalize hW0 : ((w.alloc (tmO 118 0 ⟨#[c]⟩ (some ⟨g, 0, none⟩) 0 cap)).alloc (tmO 0 0 ⟨#[]⟩ none 0 0)) = W0 at *
  clear hW0
  go_loopw [11] (fun ix wr => ∃ k : Nat, k ≤ fr.length ∧ ix = .int .i64 ((k : Int) - 1) ∧ (∀ j : Nat, k ≤ j → fr[j]? ≠ some c) ∧ Un2 w 118 0 ⟨#[c]⟩ (some ⟨g, 0, none⟩) 0 cap wr) (fun ix _ => (intOf ix + 1).toNat)
  case atStart => exact ⟨fr.length, Nat.le_refl _, rfl, fun j hj => by rw [List.getElem?_eq_none hj]; simp, U0⟩
  case round =>
    clear U0
    obtain ⟨k, hk, rfl, hno, U0⟩ := hrel
    obtain ⟨c0, c1, c2, c3, f0, f1, f2, f3⟩ := cells4 U0.body
    obtain ⟨r0, r1, r2, r3, e0, e1, e2, e3⟩ := cells4 U0.res
    have HNO := Lib.hid hno
    clear hno
    cases k with
    | zero =>
      have hm : IntKind.i64.wrap (-1 : Int) = -1 := by rw [IntKind.wrap_i64]; omega
      go_wp2_with fail
      refine bodyPost_ret (v := .tuple #[.agg #[.int .u8 118, .int .i64 0, .string ⟨#[c]⟩, .slice (some ⟨g, 0, none⟩) 0 cap], .string ⟨u.toArray⟩, .bool true]) (by simp [results, Tryz.results17, go_sem, r0, r1, r2, r3]) rfl ?_
      refine ⟨set4_below U0.below (by omega) _ _ _ _, _, _, _, _, _, _, .inl ⟨(.var (envL fr to c), u), rfl, rfl, ?_⟩⟩
      rw [envL_none (fun j => HNO.out j (Nat.zero_le _))]
      exact HR.out c _
    | succ m =>
      obtain ⟨d, hd⟩ : ∃ d, fr[m]? = some d := ⟨_, List.getElem?_eq_getElem (by omega)⟩
      obtain ⟨z, hz⟩ : ∃ z, to[m]? = some z := ⟨_, List.getElem?_eq_getElem (by have := HL.out; omega)⟩
      have hm1 : ((m + 1 : Nat) : Int) - 1 = (m : Int) := by omega
      have hx1 := extract_one fr m d hd
      have hx2 := extract_one to m z hz
      have hw1 : IntKind.i64.wrap ((m : Int) + 1) = (m : Int) + 1 := by rw [IntKind.wrap_i64]; omega
      have hw2 : IntKind.i64.wrap ((m : Int) - 1) = (m : Int) - 1 := by rw [IntKind.wrap_i64]; omega
      have qb1 : (0 : Int) ≤ (m : Int) := by omega
      have qb2 : (0 : Int) ≤ (m : Int) + 1 := by omega
      have qb3 : (m : Int) ≤ (m : Int) + 1 := by omega
      have qb4 : (m : Int) + 1 ≤ (fr.length : Int) := by omega
      have qb5 : (m : Int) ≤ (fr.length : Int) := by omega
      have qb6 : (m : Int) + 1 ≤ (to.length : Int) := by have := HL.out; omega
      have qb7 : (m : Int) ≤ (to.length : Int) := by have := HL.out; omega
      have HD := Lib.hid hd
      have HZ := Lib.hid hz
      rw [hm1]
      clear hd hz hm1
      by_cases hdc : d = c
      · subst hdc
        go_wp2_with fail
        go_region
        all_goals go_wp2_with fail
        all_goals refine bodyPost_ret (v := .tuple #[.agg #[.int .u8 118, .int .i64 0, .string ⟨#[z]⟩, .slice (some ⟨g, 0, none⟩) 0 cap], .string ⟨u.toArray⟩, .bool true]) (by simp [results, Tryz.results17, go_sem, r0, r1, r2, r3]) rfl ?_
        all_goals refine ⟨set4_below (U0.below.drew.setCell (p := ⟨w.heap.size, 2, none⟩) (Nat.le_refl _) _) (by omega) _ _ _ _, _, _, _, _, _, _, .inl ⟨(.var (envL fr to d), u), rfl, rfl, ?_⟩⟩
        all_goals rw [envL_at HL.out HD.out HZ.out (fun j hj => HNO.out j hj)]
        all_goals exact HR.out z _
      · have hne := byte_ne hdc
        have U1 : Un2 w 118 0 ⟨#[c]⟩ (some ⟨g, 0, none⟩) 0 cap wr.drew := U0.keep (Below.refl _ wr).drew
        have hno2 : ∀ j : Nat, m ≤ j → fr[j]? ≠ some c := fun j hj => by
          by_cases e : j = m
          · subst e; rw [HD.out]; intro e; injection e with e; exact hdc e
          · exact HNO.out j (by omega)
        have HN2 := Lib.hid hno2
        clear hno2
        go_wp2_with fail
        go_region
        all_goals go_wp2_with fail
        all_goals exact ⟨⟨m, by omega, rfl, HN2.out, U1⟩, by simp [intOf]⟩
end Go.Proofs.YtkelncocppiepaaGreatDoor

/- Unique: the specification's, at a node. -/
namespace Go.Proofs.YtkelncocppiepaaGreatDoor
open Go.RowKit
open Ff
set_option linter.unusedVariables false

theorem novar_names {t : Tm} (h : ∀ c, t ≠ .var c) : namesOf t = bindsOf t := by
  cases t with
  | var c => exact absurd rfl (h c)
  | _ => rfl
theorem novar_kind {t : Tm} (h : ∀ c, t ≠ .var c) (hg : t.good) : kindOf t ≠ 118 := by
  cases t with
  | op s l r => rcases hg.1 with h | h | h <;> subst h <;> simp [kindOf]
  | var c => exact absurd rfl (h c)
  | _ => simp [kindOf]
/-- What a node is that gets names and kids. -/
theorem reTm_facts {t : Tm} (h : ∀ c, t ≠ .var c) {ns : Text} {ks : List Tm} (hn : ns.length = (bindsOf t).length) (hk : ks.length = t.kids.length) :
    kindOf (reTm t ns ks) = kindOf t ∧ numOf (reTm t ns ks) = numOf t ∧ namesOf (reTm t ns ks) = ns ∧ (reTm t ns ks).kids = ks := by
  cases t with
  | var c => exact absurd rfl (h c)
  | num k =>
    match ns, ks, hn, hk with
    | [], [], _, _ => exact ⟨rfl, rfl, rfl, rfl⟩
  | fn c b =>
    match ns, ks, hn, hk with
    | [d0], [s0], _, _ => exact ⟨rfl, rfl, rfl, rfl⟩
  | fix f c b =>
    match ns, ks, hn, hk with
    | [d0, d1], [s0], _, _ => exact ⟨rfl, rfl, rfl, rfl⟩
  | app f a =>
    match ns, ks, hn, hk with
    | [], [s0, s1], _, _ => exact ⟨rfl, rfl, rfl, rfl⟩
  | bind c v b =>
    match ns, ks, hn, hk with
    | [d0], [s0, s1], _, _ => exact ⟨rfl, rfl, rfl, rfl⟩
  | op o l r =>
    match ns, ks, hn, hk with
    | [], [s0, s1], _, _ => exact ⟨rfl, rfl, rfl, rfl⟩
  | sel x y z =>
    match ns, ks, hn, hk with
    | [], [s0, s1, s2], _, _ => exact ⟨rfl, rfl, rfl, rfl⟩
/-- A round's call. -/
theorem kid_unq (n : Nat) (ih : UnqSC n) (S : Nat → Prop) (fr to u : Text) (s : Tm) (vs : Value) (w W : World) (hS : ∀ g, S g → g < w.heap.size) (hW : Below w.heap.size w W) (hd : s.depth ≤ n) (hn : n ≤ 4000) (hgs : s.good) (hu : Used u) (hl : fr.length = to.length) (hfl : fr.length + 2 * n ≤ 100000) (hrs : Rep S w s vs) :
    Calls Tryz.prog 17 #[vs, .string ⟨fr.toArray⟩, .string ⟨to.toArray⟩, .string ⟨u.toArray⟩] W (UnqSP S W (unqT n (envL fr to) u s)) :=
  ih S fr to u s vs W hd hn hgs hu hl hfl (fun g hg => by have := hS g hg; have := hW.size; omega) (hrs.keep (fun g hg => hW.block g (hS g hg)) (fun g hg => hg))
theorem unq_none {S : Nat → Prop} {w w' : World} {e : Ending} (h : UnqSP S w none e w') : ∃ (v0 v1 : Int) (v2 : ByteArray) (v3 : Option Addr) (v4 v5 : Nat) (x : ByteArray), e = .returned (.tuple #[.agg #[.int .u8 v0, .int .i64 v1, .string v2, .slice v3 v4 v5], .string x, .bool false]) ∧ Below w.heap.size w w' := by
  obtain ⟨h1, v0, v1, v2, v3, v4, v5, h2⟩ := h
  rcases h2 with ⟨r, h2, _⟩ | ⟨_, x, h2⟩
  · cases h2
  · exact ⟨v0, v1, v2, v3, v4, v5, x, h2, h1⟩
theorem unq_some {S : Nat → Prop} {w w' : World} {r : Tm × Text} {e : Ending} (h : UnqSP S w (some r) e w') : ∃ (v0 v1 : Int) (v2 : ByteArray) (v3 : Option Addr) (v4 v5 : Nat), e = .returned (.tuple #[.agg #[.int .u8 v0, .int .i64 v1, .string v2, .slice v3 v4 v5], .string ⟨r.2.toArray⟩, .bool true]) ∧ Below w.heap.size w w' ∧ Rep (fun g => S g ∨ New w w' g) w' r.1 (.agg #[.int .u8 v0, .int .i64 v1, .string v2, .slice v3 v4 v5]) := by
  obtain ⟨h1, v0, v1, v2, v3, v4, v5, h2⟩ := h
  rcases h2 with ⟨r', h2, h3, h4⟩ | ⟨h2, _⟩
  · injection h2 with h2
    subst h2
    exact ⟨v0, v1, v2, v3, v4, v5, h3, h1, h4⟩
  · cases h2
set_option maxRecDepth 100000 in
set_option maxHeartbeats 8000000 in
theorem unqS_node (n : Nat) (ih : UnqSC n) (S : Nat → Prop) (fr to u : Text) (t : Tm) (vt : Value) (w : World) (hd : t.depth ≤ n + 1) (hn : n + 1 ≤ 4000) (hg : t.good) (hu : Used u) (hl : fr.length = to.length) (hfl : fr.length + 2 * (n + 1) ≤ 100000) (hS : ∀ g, S g → g < w.heap.size) (hrt : Rep S w t vt) (hv : ∀ c, t ≠ .var c) :
    Calls Tryz.prog 17 #[vt, .string ⟨fr.toArray⟩, .string ⟨to.toArray⟩, .string ⟨u.toArray⟩] w (UnqSP S w (unqT (n + 1) (envL fr to) u t)) := by
  obtain ⟨i0, hi, hz0, hz1, hz2⟩ := info_parts Tryz.infoTerm
  have hkv := novar_kind hv hg
  have hnm := novar_names hv
  have hL3 : t.kids.length ≤ 3 := by cases t <;> simp [Tm.kids]
  have hb2 := binds_len t
  obtain ⟨O, hO⟩ : ∃ O, O = unqT (n + 1) (envL fr to) u t := ⟨_, rfl⟩
  rw [← hO]
  rw [unqT_node n _ u hv] at hO
  have hdif := binds_dif hg
  cases hrt with
  | mk _ g cap c hgS hc hkr =>
  have hgw := hS g hgS
  have KC := fun (k : Nat) (s : Tm) (hs : t.kids[k]? = some s) => kid_cells hgw hc hkr hs
  have KS := fun (k : Nat) (s : Tm) (hs : t.kids[k]? = some s) (fr' to' u' : Text) (hu' : Used u') (hl' : fr'.length = to'.length) (hf' : fr'.length + 2 * n ≤ 100000) (y0 y1 : Int) (y2 : ByteArray) (y3 : Option Addr) (y4 y5 : Nat) (hr : Rep S w s (.agg #[.int .u8 y0, .int .i64 y1, .string y2, .slice y3 y4 y5])) (W : World) (hW : Below w.heap.size w W) =>
    kid_unq n ih S fr' to' u' s _ w W hS hW (by have := kid_depth (List.mem_of_getElem? hs); omega) (by omega) (Tm.kid_good hg (List.mem_of_getElem? hs)) hu' hl' hf' hr
  clear hc hkr
  unfold tmHead
  rw [hnm]
  obtain ⟨B, hB⟩ : ∃ B, bindsOf t = B := ⟨_, rfl⟩
  rw [hB] at hO hb2 hdif ⊢
  obtain ⟨L, hL⟩ : ∃ L, t.kids.length = L := ⟨_, rfl⟩
  rw [hL] at hO hL3 ⊢
  have U0 := Un2.new w (kindOf t : Int) (numOf t : Int) ⟨B.toArray⟩ (some ⟨g, 0, none⟩) L cap
  have q1 : ((kindOf t : Int) == 118) = false := by rw [beq_eq_false_iff_ne]; omega
  have q3 : IntKind.i64.wrap ((L : Int) - 1) = (L : Int) - 1 := by rw [IntKind.wrap_i64]; omega
  have hul := used_len hu
  have HO := Lib.hid hO
  have HB := Lib.hid hB
  have HL := Lib.hid hL
  have HLL := Lib.hid hl
  have HU := Lib.hid hu
  have HKS := Lib.hid KS
  have HKC := Lib.hid KC
  clear hO hB hL hnm hl KS KC hu
  go_enter Tryz.func17, Tryz.ntmps17
  go_wp2_with fail
  obtain ⟨W0, hW0⟩ : ∃ W0, ((w.alloc (tmO (kindOf t : Int) (numOf t : Int) ⟨B.toArray⟩ (some ⟨g, 0, none⟩) L cap)).alloc (tmO 0 0 ⟨#[]⟩ none 0 0)) = W0 := ⟨_, rfl⟩
  rw [hW0] at U0 ⊢
  clear hW0
  obtain ⟨x0, x1, x2, x3, _⟩ := cells4 U0.body
  go_wp2_with fail
  clear x0 x1 x2 x3
  go_loopw [3, 12, 52] (fun us nm ix wr => ∃ (k : Nat) (ns : Text), k ≤ B.length ∧ ix = .int .i64 k ∧ freshK u k = some ns ∧ us = .string ⟨(u ++ ns).toArray⟩ ∧ nm = .string ⟨ns.toArray⟩ ∧ Un2 w (kindOf t : Int) (numOf t : Int) ⟨B.toArray⟩ (some ⟨g, 0, none⟩) L cap wr) (fun _ _ ix _ => B.length - (intOf ix).toNat)
  case atStart => exact ⟨0, [], Nat.zero_le _, rfl, rfl, by rw [List.append_nil], rfl, U0⟩
  case round =>
    clear U0
    obtain ⟨k, ns, hk, rfl, hns, rfl, rfl, hU⟩ := hrel
    obtain ⟨hnl, hus⟩ := freshK_some HU.out hns
    have hul2 := used_len hus
    obtain ⟨c0, c1, c2, c3, _⟩ := cells4 hU.body
    obtain ⟨us, hus'⟩ : ∃ us, us = u ++ ns := ⟨_, rfl⟩
    rw [← hus'] at hus hul2 ⊢
    have hnl2 : ns.length ≤ 16 := by rw [hus'] at hul2; simp at hul2; omega
    have HNS := Lib.hid hns
    have HNL := Lib.hid hnl
    have HUS := Lib.hid hus
    have HUE := Lib.hid hus'
    clear hns hnl hus hus'
    by_cases hlt : k < B.length
    · have KN := fun w' => sl2New_c us w' (by omega)
      unfold newT at KN
      rcases hnew : newO us with _ | d
      · rw [hnew] at KN
        have hnone : O = none := by
          have h1 := freshK_none (show freshK u (k + 1) = none by rw [freshK, HNS.out, Option.bind_some, ← HUE.out, hnew]; rfl) (B.length - (k + 1))
          rw [show k + 1 + (B.length - (k + 1)) = B.length by omega] at h1
          rw [HO.out, h1]; rfl
        have HNN := Lib.hid hnone
        clear hnone hnew c0 c1 c2 c3
        go_wp2_with (go_at_call 33; refine (KN _).mono ?_; clear KN; rintro e w6 ⟨rfl, hb6⟩; have hU6 := hU.keep hb6; obtain ⟨c0, c1, c2, c3, _⟩ := cells4 hU6.body; obtain ⟨r0, r1, r2, r3, f0, f1, f2, f3⟩ := cells4 hU6.res)
        refine bodyPost_ret (v := .tuple #[.agg #[.int .u8 (kindOf t : Int), .int .i64 (numOf t : Int), .string ⟨B.toArray⟩, .slice (some ⟨g, 0, none⟩) L cap], .string ⟨us.toArray⟩, .bool false]) (by simp [results, Tryz.results17, go_sem, r0, r1, r2, r3]) rfl ?_
        exact ⟨set4_below hU6.below (by omega) _ _ _ _, _, _, _, _, _, _, .inr ⟨HNN.out, _, rfl⟩⟩
      · rw [hnew] at KN
        have e1 : (⟨ns.toArray⟩ ++ ⟨#[d]⟩ : ByteArray) = ⟨(ns ++ [d]).toArray⟩ := by
          show (⟨ns.toArray⟩ ++ ⟨([d] : Text).toArray⟩ : ByteArray) = _
          rw [str_app2]
        have e2 : (⟨us.toArray⟩ ++ ⟨#[d]⟩ : ByteArray) = ⟨(us ++ [d]).toArray⟩ := by
          show (⟨us.toArray⟩ ++ ⟨([d] : Text).toArray⟩ : ByteArray) = _
          rw [str_app2]
        have p1 : ¬ 9223372036854775807 < ns.length + 1 := by omega
        have p2 : ¬ 9223372036854775807 < us.length + 1 := by omega
        have HNW := Lib.hid hnew
        clear hnew c0 c1 c2 c3
        go_wp2_with (go_at_call 33; refine (KN _).mono ?_; clear KN; rintro e w6 ⟨rfl, hb6⟩; have hU6 := hU.keep hb6)
        refine ⟨⟨k + 1, ns ++ [d], by omega, by go_num, by rw [freshK, HNS.out, Option.bind_some, ← HUE.out, HNW.out]; rfl, by rw [HUE.out, List.append_assoc], rfl, hU6⟩, by simp [intOf]; omega⟩
    · obtain rfl : k = B.length := by omega
      have hO2 : O = (unqAt (unqT n) (envL fr to) (over B ns (envL fr to)) us t.kids L).map fun r => (reTm t ns r.1, r.2) := by rw [HO.out, HNS.out, HUE.out]; rfl
      have HO2 := Lib.hid hO2
      clear HO hO2
      have U1 := hU.grow (World.grownBy_alloc wr (.cells #[] 42) none) (by simp)
      have Z0 := ks_zero wr (w.heap.size + 2) S hU.size
      obtain ⟨x0, x1, x2, x3, _⟩ := cells4 U1.body
      clear c0 c1 c2 c3 hU
      go_wp2_with fail
      generalize hq : wr.heap.size = q at *
      generalize wr.alloc (.cells #[] 42) = W1 at *
      clear hq x0 x1 x2 x3
      go_loopw [3, 14, 75] (fun uv ks ix wr => ∃ (j : Nat) (st : List Tm × Text), j ≤ L ∧ ix = .int .i64 j ∧ unqAt (unqT n) (envL fr to) (over B ns (envL fr to)) us t.kids j = some st ∧ uv = .string ⟨st.2.toArray⟩ ∧ KsAt (w.heap.size + 2) S st.1 ks wr ∧ Un2 w (kindOf t : Int) (numOf t : Int) ⟨B.toArray⟩ (some ⟨g, 0, none⟩) L cap wr) (fun _ _ ix _ => L - (intOf ix).toNat)
      case atStart => exact ⟨0, ([], us), Nat.zero_le _, rfl, rfl, rfl, Z0, U1⟩
      case round =>
        clear Z0 U1
        rename_i wr'
        obtain ⟨j, st, hj, rfl, hst, rfl, hat, hU⟩ := hrel
        have hsl := unqAt_len _ _ hst
        have hsu := unqAt_used (unqT_used n) HUS.out _ _ hst
        have hsu2 := used_len hsu
        obtain ⟨gk, ck, rfl, hgk1, hgk2⟩ := ks_shape hat
        obtain ⟨c0, c1, c2, c3, _⟩ := cells4 hU.body
        have hUz := hU.size
        have hBl := hU.below
        have HST := Lib.hid hst
        have HSL := Lib.hid hsl
        have HAT := Lib.hid hat
        rw [hsl]
        obtain ⟨u2, hu2⟩ : ∃ u2, u2 = st.2 := ⟨_, rfl⟩
        rw [← hu2] at hsu hsu2 ⊢
        have HU2 := Lib.hid hu2
        clear hst hsl hat hu2
        by_cases hlt : j < L
        · obtain ⟨s, hs⟩ : ∃ s, t.kids[j]? = some s := ⟨_, List.getElem?_eq_getElem (by have := HL.out; omega)⟩
          obtain ⟨y0, y1, y2, y3, y4, y5, hrs, hcc⟩ := HKC.out j s hs
          obtain ⟨e0, e1, e2, e3⟩ := hcc _ hBl
          have hnext : unqAt (unqT n) (envL fr to) (over B ns (envL fr to)) us t.kids (j + 1) = (unqT n (if j + 1 = L then over B ns (envL fr to) else envL fr to) u2 s).map fun r => (st.1 ++ [r.1], r.2) := by
            rw [unqAt, HST.out, Option.bind_some, hs, Option.bind_some, HL.out, HU2.out]
          have hw2 : Below w.heap.size w (wr.alloc (tmO y0 y1 y2 y3 y4 y5)) := hBl.alloc hBl.size _
          have hUk := hU.keep ((Below.refl _ wr).alloc (Nat.le_refl _) (tmO y0 y1 y2 y3 y4 y5))
          obtain ⟨a0, a1, a2, a3, _⟩ := cells4 hUk.body
          have hnB : ns.length = B.length := HNL.out
          have HNB := Lib.hid hnB
          clear hnB
          by_cases hlast : j + 1 = L
          · have C := HKS.out j s hs (fr ++ B) (to ++ ns) u2 hsu (by have := HLL.out; have := HNB.out; simp; omega) (by simp; omega) y0 y1 y2 y3 y4 y5 hrs _ hw2
            rw [envL_over HLL.out HNB.out hdif hb2] at C
            rw [if_pos hlast] at hnext
            have eF : (⟨fr.toArray⟩ ++ ⟨B.toArray⟩ : ByteArray) = ⟨(fr ++ B).toArray⟩ := str_app2 _ _
            have eT : (⟨to.toArray⟩ ++ ⟨ns.toArray⟩ : ByteArray) = ⟨(to ++ ns).toArray⟩ := str_app2 _ _
            have p1 : ¬ 9223372036854775807 < fr.length + B.length := by omega
            have p2 : ¬ 9223372036854775807 < to.length + ns.length := by have := HLL.out; omega
            have hq := last_eq hlast
            have HLA := Lib.hid hlast
            clear hlast
            generalize hres : unqT n (over B ns (envL fr to)) u2 s = res at C hnext
            have HNX := Lib.hid hnext
            clear hnext hs hcc hres
            rcases res with _ | r
            · have hnone : O = none := by
                have h1 := unqAt_none (show unqAt (unqT n) (envL fr to) (over B ns (envL fr to)) us t.kids (j + 1) = none by rw [HNX.out]; rfl) (L - (j + 1))
                rw [show j + 1 + (L - (j + 1)) = L by omega] at h1
                rw [HO2.out, h1]; rfl
              have C' := C.mono (fun e w' h => unq_none h)
              have HNN := Lib.hid hnone
              clear C hnone
              go_wp2_with (go_at_call 17; refine C'.mono ?_; clear C'; rintro e w3 ⟨v0, v1, v2, v3, v4, v5, x, rfl, hb3⟩; have hU3 := (hUk.keep hb3).keep ((Below.refl _ w3).alloc (Nat.le_refl _) (tmO v0 v1 v2 v3 v4 v5)); obtain ⟨b0, b1, b2, b3, _⟩ := cells4 hU3.body; obtain ⟨r0, r1, r2, r3, f0, f1, f2, f3⟩ := cells4 hU3.res)
              refine bodyPost_ret (v := .tuple #[.agg #[.int .u8 (kindOf t : Int), .int .i64 (numOf t : Int), .string ⟨B.toArray⟩, .slice (some ⟨g, 0, none⟩) L cap], .string ⟨u2.toArray⟩, .bool false]) (by simp [results, Tryz.results17, go_sem, r0, r1, r2, r3]) rfl ?_
              exact ⟨set4_below hU3.below (by omega) _ _ _ _, _, _, _, _, _, _, .inr ⟨HNN.out, _, rfl⟩⟩
            · have C' := C.mono (fun e w' h => unq_some h)
              have hq3 : j + 1 ≤ maxLen := by unfold maxLen; omega
              clear C
              go_wp2_with (first
                | (go_at_call 17; refine C'.mono ?_; clear C'; rintro e w3 ⟨v0, v1, v2, v3, v4, v5, rfl, hb3, hr3⟩
                   obtain ⟨xs, hown, hrep, hrt', hb4, _, _⟩ := round_made (base := w.heap.size + 2) (fun g hg => by have := hS g hg; omega) hUz HAT.out hb3 hr3
                   have hown4 := hown.alloc (tmO v0 v1 v2 v3 v4 v5)
                   rw [HSL.out] at hown4
                   have z5 := four_new (w3.alloc (tmO v0 v1 v2 v3 v4 v5)) (.int .u8 v0) (.int .i64 v1) (.string v2) (.slice v3 v4 v5) 42
                   rw [World.size_alloc] at z5
                   have q5 : w.heap.size + 2 ≤ ((w3.alloc (tmO v0 v1 v2 v3 v4 v5)).alloc (tmO v0 v1 v2 v3 v4 v5)).heap.size := by have := hb4.size; simp at this ⊢; omega
                   have q6 : ∀ u ∈ [Value.int .u8 v0, .int .i64 v1, .string v2, .slice v3 v4 v5], u.oneCell' = true := by simp [Value.oneCell']
                   have HOWN := Lib.hid hown
                   have HREP := Lib.hid hrep
                   have HRT := Lib.hid hrt'
                   clear hown hrep hrt' hr3 hb3)
                | (at_builtin; (refine wpList_append_own_at _ rfl _ _ 40 rfl (w.heap.size + 2) 42 i0 _ 4 56 Tryz.underlying40 hi hz0 hz1 hz2 rfl (by decide) _ _ _ rfl hown4 ⟨w3.heap.size + 1, 0, none⟩ 1 1 [.int .u8 v0, .int .i64 v1, .string v2, .slice v3 v4 v5] rfl rfl z5 q6 hq3 (by omega) q5 ?_); intro v' w4 hown' hgrow hnil hwhere; have HN := Lib.hid hnil; have HW := Lib.hid hwhere; clear hnil hwhere))
              refine ⟨⟨j + 1, (st.1 ++ [r.1], r.2), by omega, by go_num, HNX.out, rfl, ?_, ?_⟩, by simp [intOf]; omega⟩
              · refine ks_round (o := tmO v0 v1 v2 v3 v4 v5) (fun g hg => by have := hS g hg; omega) (by have := hb4.size; omega) HOWN.out (by simp) HREP.out HRT.out ?_ ?_ ?_ ?_
                · rw [HSL.out]; exact hown'
                · rw [HSL.out]; exact hgrow
                · rw [HSL.out]; exact HN.out
                · rw [HSL.out]; exact HW.out
              · refine ((hU.keep hb4).keep ((Below.refl _ _).alloc (Nat.le_refl _) _)).grow hgrow (fun g' hg' => ?_)
                have hg9 : gk = g' := Option.some.inj hg'
                omega
          · have C := HKS.out j s hs fr to u2 hsu HLL.out (by omega) y0 y1 y2 y3 y4 y5 hrs _ hw2
            rw [if_neg hlast] at hnext
            have hq := last_ne hlast
            have HLA := Lib.hid hlast
            clear hlast
            generalize hres : unqT n (envL fr to) u2 s = res at C hnext
            have HNX := Lib.hid hnext
            clear hnext hs hcc hres
            rcases res with _ | r
            · have hnone : O = none := by
                have h1 := unqAt_none (show unqAt (unqT n) (envL fr to) (over B ns (envL fr to)) us t.kids (j + 1) = none by rw [HNX.out]; rfl) (L - (j + 1))
                rw [show j + 1 + (L - (j + 1)) = L by omega] at h1
                rw [HO2.out, h1]; rfl
              have C' := C.mono (fun e w' h => unq_none h)
              have HNN := Lib.hid hnone
              clear C hnone
              go_wp2_with (go_at_call 17; refine C'.mono ?_; clear C'; rintro e w3 ⟨v0, v1, v2, v3, v4, v5, x, rfl, hb3⟩; have hU3 := (hUk.keep hb3).keep ((Below.refl _ w3).alloc (Nat.le_refl _) (tmO v0 v1 v2 v3 v4 v5)); obtain ⟨b0, b1, b2, b3, _⟩ := cells4 hU3.body; obtain ⟨r0, r1, r2, r3, f0, f1, f2, f3⟩ := cells4 hU3.res)
              refine bodyPost_ret (v := .tuple #[.agg #[.int .u8 (kindOf t : Int), .int .i64 (numOf t : Int), .string ⟨B.toArray⟩, .slice (some ⟨g, 0, none⟩) L cap], .string ⟨u2.toArray⟩, .bool false]) (by simp [results, Tryz.results17, go_sem, r0, r1, r2, r3]) rfl ?_
              exact ⟨set4_below hU3.below (by omega) _ _ _ _, _, _, _, _, _, _, .inr ⟨HNN.out, _, rfl⟩⟩
            · have C' := C.mono (fun e w' h => unq_some h)
              have hq3 : j + 1 ≤ maxLen := by unfold maxLen; omega
              clear C
              go_wp2_with (first
                | (go_at_call 17; refine C'.mono ?_; clear C'; rintro e w3 ⟨v0, v1, v2, v3, v4, v5, rfl, hb3, hr3⟩
                   obtain ⟨xs, hown, hrep, hrt', hb4, _, _⟩ := round_made (base := w.heap.size + 2) (fun g hg => by have := hS g hg; omega) hUz HAT.out hb3 hr3
                   have hown4 := hown.alloc (tmO v0 v1 v2 v3 v4 v5)
                   rw [HSL.out] at hown4
                   have z5 := four_new (w3.alloc (tmO v0 v1 v2 v3 v4 v5)) (.int .u8 v0) (.int .i64 v1) (.string v2) (.slice v3 v4 v5) 42
                   rw [World.size_alloc] at z5
                   have q5 : w.heap.size + 2 ≤ ((w3.alloc (tmO v0 v1 v2 v3 v4 v5)).alloc (tmO v0 v1 v2 v3 v4 v5)).heap.size := by have := hb4.size; simp at this ⊢; omega
                   have q6 : ∀ u ∈ [Value.int .u8 v0, .int .i64 v1, .string v2, .slice v3 v4 v5], u.oneCell' = true := by simp [Value.oneCell']
                   have HOWN := Lib.hid hown
                   have HREP := Lib.hid hrep
                   have HRT := Lib.hid hrt'
                   clear hown hrep hrt' hr3 hb3)
                | (at_builtin; (refine wpList_append_own_at _ rfl _ _ 40 rfl (w.heap.size + 2) 42 i0 _ 4 56 Tryz.underlying40 hi hz0 hz1 hz2 rfl (by decide) _ _ _ rfl hown4 ⟨w3.heap.size + 1, 0, none⟩ 1 1 [.int .u8 v0, .int .i64 v1, .string v2, .slice v3 v4 v5] rfl rfl z5 q6 hq3 (by omega) q5 ?_); intro v' w4 hown' hgrow hnil hwhere; have HN := Lib.hid hnil; have HW := Lib.hid hwhere; clear hnil hwhere))
              refine ⟨⟨j + 1, (st.1 ++ [r.1], r.2), by omega, by go_num, HNX.out, rfl, ?_, ?_⟩, by simp [intOf]; omega⟩
              · refine ks_round (o := tmO v0 v1 v2 v3 v4 v5) (fun g hg => by have := hS g hg; omega) (by have := hb4.size; omega) HOWN.out (by simp) HREP.out HRT.out ?_ ?_ ?_ ?_
                · rw [HSL.out]; exact hown'
                · rw [HSL.out]; exact hgrow
                · rw [HSL.out]; exact HN.out
                · rw [HSL.out]; exact HW.out
              · refine ((hU.keep hb4).keep ((Below.refl _ _).alloc (Nat.le_refl _) _)).grow hgrow (fun g' hg' => ?_)
                have hg9 : gk = g' := Option.some.inj hg'
                omega
        · obtain rfl : j = L := by omega
          obtain ⟨p1, p2, p3, p4⟩ := reTm_facts (ns := ns) (ks := st.1) hv (by rw [HNL.out, HB.out]) (by rw [HSL.out, HL.out])
          have hOs : O = some (reTm t ns st.1, st.2) := by rw [HO2.out, HST.out]; rfl
          obtain ⟨r0, r1, r2, r3, f0, f1, f2, f3⟩ := cells4 hU.res
          obtain ⟨_, _, _, _, g0, g1, g2, g3⟩ := cells4 hU.body
          have HOS := Lib.hid hOs
          have P1 := Lib.hid p1
          have P2 := Lib.hid p2
          have P3 := Lib.hid p3
          have P4 := Lib.hid p4
          clear hOs p1 p2 p3 p4
          go_wp2_with fail
          refine bodyPost_ret (v := .tuple #[.agg #[.int .u8 (kindOf t : Int), .int .i64 (numOf t : Int), .string ⟨ns.toArray⟩, .slice (some ⟨gk, 0, none⟩) j ck], .string ⟨u2.toArray⟩, .bool true]) (by simp [results, Tryz.results17, go_sem, r0, r1, r2, r3]) rfl ?_
          refine ⟨set4_below ((hBl.setCell (p := ⟨w.heap.size, 2, none⟩) (Nat.le_refl _) _).setCell (p := ⟨w.heap.size, 3, none⟩) (Nat.le_refl _) _) (by omega) _ _ _ _, _, _, _, _, _, _, .inl ⟨_, HOS.out, by rw [HU2.out], ?_⟩⟩
          have R := ks_rep (W' := set4 ((wr.setCell ⟨w.heap.size, 2, none⟩ (.string ⟨ns.toArray⟩)).setCell ⟨w.heap.size, 3, none⟩ (.slice (some ⟨gk, 0, none⟩) j ck)) (w.heap.size + 1) (.int .u8 (kindOf t : Int)) (.int .i64 (numOf t : Int)) (.string ⟨ns.toArray⟩) (.slice (some ⟨gk, 0, none⟩) j ck)) HAT.out (fun g hg => by have := hS g hg; omega) P4.out (by rw [set4_size]; simp [World.setCell]) (fun g' hg' => by
            have : g' ≠ w.heap.size ∧ g' ≠ w.heap.size + 1 := by
              rcases hg' with h | h
              · have := hS g' h; omega
              · omega
            exact (set4_farP _ _ _ _ _ _ g' this.2).trans ((Below.heap_setCell _ _ _ _ this.1).trans (Below.heap_setCell _ _ _ _ this.1)))
          unfold tmHead at R
          rw [P1.out, P2.out, P3.out, P4.out, HSL.out] at R
          exact R.keep (fun g' _ => rfl) (fun g' hg' => hg'.imp id (fun h => ⟨by omega, h.2⟩))
theorem unqS_c : ∀ n, UnqSC n
  | 0 => fun S fr to u t vt w hd => absurd hd (by have := t.depth_pos; omega)
  | n + 1 => by
    intro S fr to u t vt w hd hn hg hu hl hfl hS hrt
    by_cases hv : ∃ c, t = .var c
    · obtain ⟨c, rfl⟩ := hv
      exact unqS_var n S fr to u c vt w hl (by omega) hS hrt
    · exact unqS_node n (unqS_c n) S fr to u t vt w hd hn hg hu hl hfl hS hrt (fun c e => hv ⟨c, e⟩)
end Go.Proofs.YtkelncocppiepaaGreatDoor
