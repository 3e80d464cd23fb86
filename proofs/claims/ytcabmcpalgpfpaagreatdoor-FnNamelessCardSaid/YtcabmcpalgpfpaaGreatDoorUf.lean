import Derived.Test.YtcabmcpalgpfpaaGreatDoorMUd
import Derived.Test.YtcabmcpalgpfpaaGreatDoorMPe
/- Unique: the specification's renaming of a name that is read; pure facts on what a node comes to. -/
namespace Go.Proofs.YtcabmcpalgpfpaaGreatDoor
open Go.RowKit
open Ff
set_option linter.unusedVariables false

/-- What a name is by two texts: the last one counts. -/
def envL (fr to : Text) (c : UInt8) : UInt8 := ((fr.zip to).reverse.lookup c).getD c
theorem lookup_app (l m : List (UInt8 × UInt8)) (c : UInt8) : (l ++ m).lookup c = (l.lookup c).or (m.lookup c) := by
  induction l with
  | nil => simp
  | cons a l ih =>
    obtain ⟨x, y⟩ := a
    simp only [List.cons_append, List.lookup_cons]
    cases c == x <;> simp [ih]
theorem envL_over {fr to ns ms : Text} (hl : fr.length = to.length) (hn : ms.length = ns.length) (hd : Dif ns) (h2 : ns.length ≤ 2) : envL (fr ++ ns) (to ++ ms) = over ns ms (envL fr to) := by
  funext c
  unfold envL over
  rw [List.zip_append hl, List.reverse_append, lookup_app]
  have key : (ns.zip ms).reverse.lookup c = (ns.zip ms).lookup c := by
    match ns, ms, hn with
    | [], [], _ => rfl
    | [a], [x], _ => rfl
    | [a, b], [x, y], _ =>
      have hab : a ≠ b := fun e => hd 0 1 a (by omega) rfl (by rw [e]; rfl)
      simp only [List.zip_cons_cons, List.zip_nil_right, List.reverse_cons, List.reverse_nil, List.nil_append, List.cons_append, List.lookup_cons, List.lookup_nil]
      by_cases h1 : c = a
      · subst h1
        have : (c == b) = false := by simpa using hab
        simp [this]
      · have h1' : (c == a) = false := by simpa using h1
        simp [h1']
    | _ :: _ :: _ :: _, _, _ => simp at h2
  rw [key]
  cases (ns.zip ms).lookup c <;> rfl
/-- Nothing from place k on is the name. -/
theorem envL_none {fr to : Text} {c : UInt8} (h : ∀ j : Nat, fr[j]? ≠ some c) : envL fr to c = c := by
  unfold envL
  have : ∀ l : List (UInt8 × UInt8), (∀ p ∈ l, p.1 ≠ c) → l.lookup c = none := by
    intro l
    induction l with
    | nil => intro _; rfl
    | cons a l ih =>
      intro hh
      obtain ⟨x, y⟩ := a
      have hx : (c == x) = false := by
        have := hh (x, y) (by simp)
        simp only at this
        rw [beq_eq_false_iff_ne]
        exact fun e => this e.symm
      rw [List.lookup_cons, hx]
      exact ih (fun p hp => hh p (by simp [hp]))
  rw [this _ (fun p hp => ?_)]
  · rfl
  · rw [List.mem_reverse] at hp
    have hp1 := (List.of_mem_zip (a := p.1) (b := p.2) hp).1
    obtain ⟨j, hj⟩ := List.getElem?_of_mem hp1
    intro e
    exact h j (by rw [hj, e])
theorem envL_at {fr to : Text} {c d : UInt8} {k : Nat} (hl : fr.length = to.length) (hk : fr[k]? = some c) (hd : to[k]? = some d) (h : ∀ j : Nat, k < j → fr[j]? ≠ some c) : envL fr to c = d := by
  have hkl := (List.getElem?_eq_some_iff.1 hk).1
  have e1 : fr = (fr.take k ++ [c]) ++ fr.drop (k + 1) := by
    rw [← take_snoc hk, List.take_append_drop]
  have e2 : to = (to.take k ++ [d]) ++ to.drop (k + 1) := by
    rw [← take_snoc hd, List.take_append_drop]
  have h0 : envL (fr.drop (k + 1)) (to.drop (k + 1)) c = c := envL_none fun j hj => by
    rw [List.getElem?_drop] at hj
    exact h (k + 1 + j) (by omega) hj
  unfold envL
  have e3 : fr.zip to = ((fr.take k).zip (to.take k) ++ [(c, d)]) ++ (fr.drop (k + 1)).zip (to.drop (k + 1)) := by
    conv => lhs; rw [e1, e2]
    rw [List.zip_append (by simp; omega), List.zip_append (by simp; omega)]
    rfl
  rw [e3, List.reverse_append, List.reverse_append, lookup_app]
  rcases hx : ((fr.drop (k + 1)).zip (to.drop (k + 1))).reverse.lookup c with _ | z
  · simp
  · exfalso
    have : (c, z) ∈ ((fr.drop (k + 1)).zip (to.drop (k + 1))).reverse := by
      have gen : ∀ l : List (UInt8 × UInt8), l.lookup c = some z → (c, z) ∈ l := by
        intro l
        induction l with
        | nil => intro h; simp at h
        | cons a l ih =>
          obtain ⟨x, y⟩ := a
          intro hh
          rw [List.lookup_cons] at hh
          by_cases e : c = x
          · subst e
            simp at hh
            subst hh
            simp
          · have : (c == x) = false := by simpa using e
            rw [this] at hh
            exact List.mem_cons_of_mem _ (ih hh)
      exact gen _ hx
    rw [List.mem_reverse] at this
    obtain ⟨j, hj⟩ := List.getElem?_of_mem (List.of_mem_zip this).1
    rw [List.getElem?_drop] at hj
    exact h (k + 1 + j) (by omega) hj

/-- Two boxes: a node, and what is told. -/
structure Un2 (w : World) (k n : Int) (s : ByteArray) (a : Option Addr) (l c : Nat) (W : World) : Prop where
  body : W.heap[w.heap.size]? = some (tmO k n s a l c)
  res : W.heap[w.heap.size + 1]? = some (tmO 0 0 ⟨#[]⟩ none 0 0)
  below : Below w.heap.size w W
  size : w.heap.size + 2 ≤ W.heap.size
theorem Un2.new (w : World) (k n : Int) (s : ByteArray) (a : Option Addr) (l c : Nat) : Un2 w k n s a l c ((w.alloc (tmO k n s a l c)).alloc (tmO 0 0 ⟨#[]⟩ none 0 0)) := by
  refine ⟨?_, ?_, below_two w _ _, by simp⟩
  · rw [alloc_far _ _ (by simp)]; exact alloc_here _ _
  · have := alloc_here (w.alloc (tmO k n s a l c)) (tmO 0 0 ⟨#[]⟩ none 0 0)
    rwa [World.size_alloc] at this
theorem Un2.keep {w W W' : World} {k n : Int} {s : ByteArray} {a : Option Addr} {l c : Nat} (h : Un2 w k n s a l c W) (hb : Below W.heap.size W W') : Un2 w k n s a l c W' :=
  ⟨(hb.block _ (by have := h.size; omega)).trans h.body, (hb.block _ (by have := h.size; omega)).trans h.res, h.below.trans (hb.mono h.below.size), by have := hb.size; have := h.size; omega⟩
theorem Un2.grow {w W W' : World} {k n : Int} {s : ByteArray} {a : Option Addr} {l c : Nat} {row : Option Nat} (h : Un2 w k n s a l c W) (hg : W.grownBy W' row) (hr : ∀ g, row = some g → w.heap.size + 2 ≤ g) : Un2 w k n s a l c W' := by
  have hs := h.size
  have key : ∀ j, j < w.heap.size + 2 → W'.heap[j]? = W.heap[j]? := fun j hj => hg.block j (by omega) (fun e => by have := hr j e.symm; omega)
  exact ⟨(key _ (by omega)).trans h.body, (key _ (by omega)).trans h.res, h.below.trans ⟨hg.os, hg.tape, hg.output, hg.size, fun j hj => key j (by omega)⟩, by have := hg.size; omega⟩
/-- What the specification's comes to. -/
def UnqSP (S : Nat → Prop) (w : World) (o : Option (Tm × Text)) (e : Ending) (w' : World) : Prop := Below w.heap.size w w' ∧ ∃ (v0 v1 : Int) (v2 : ByteArray) (v3 : Option Addr) (v4 v5 : Nat),
  (∃ r, o = some r ∧ e = .returned (.tuple #[.agg #[.int .u8 v0, .int .i64 v1, .string v2, .slice v3 v4 v5], .string ⟨r.2.toArray⟩, .bool true]) ∧ Rep (fun g => S g ∨ New w w' g) w' r.1 (.agg #[.int .u8 v0, .int .i64 v1, .string v2, .slice v3 v4 v5])) ∨
  (o = none ∧ ∃ x : ByteArray, e = .returned (.tuple #[.agg #[.int .u8 v0, .int .i64 v1, .string v2, .slice v3 v4 v5], .string x, .bool false]))
def UnqSC (n : Nat) : Prop := ∀ (S : Nat → Prop) (fr to u : Text) (t : Tm) (vt : Value) (w : World), t.depth ≤ n → n ≤ 4000 → t.good → Used u → fr.length = to.length → fr.length + 2 * n ≤ 100000 → (∀ g, S g → g < w.heap.size) → Rep S w t vt →
  Calls Tryz.prog 42 #[vt, .string ⟨fr.toArray⟩, .string ⟨to.toArray⟩, .string ⟨u.toArray⟩] w (UnqSP S w (unqT n (envL fr to) u t))
set_option maxRecDepth 100000 in
set_option maxHeartbeats 4000000 in
theorem unqS_var (n : Nat) (S : Nat → Prop) (fr to u : Text) (c : UInt8) (vt : Value) (w : World) (hl : fr.length = to.length) (hfl : fr.length ≤ 100000) (hS : ∀ g, S g → g < w.heap.size) (hrt : Rep S w (.var c) vt) :
    Calls Tryz.prog 42 #[vt, .string ⟨fr.toArray⟩, .string ⟨to.toArray⟩, .string ⟨u.toArray⟩] w (UnqSP S w (unqT (n + 1) (envL fr to) u (.var c))) := by
  cases hrt with
  | mk _ g cap cs hg hc hk =>
  clear hc hk
  unfold tmHead
  have hR : ∀ (d : UInt8) (W : World), Rep (fun g => S g ∨ New w W g) W (.var d) (.agg #[.int .u8 118, .int .i64 0, .string ⟨#[d]⟩, .slice (some ⟨g, 0, none⟩) 0 cap]) := fun d W =>
    .mk (.var d) g cap (fun _ => undef) (.inl hg) (fun k hk => by simp [Tm.kids] at hk) (fun i s hi => by simp [Tm.kids] at hi) (Nat.zero_le _)
  show Calls Tryz.prog 42 #[.agg #[.int .u8 118, .int .i64 0, .string ⟨#[c]⟩, .slice (some ⟨g, 0, none⟩) 0 cap], .string ⟨fr.toArray⟩, .string ⟨to.toArray⟩, .string ⟨u.toArray⟩] w _
  have U0 := Un2.new w 118 0 ⟨#[c]⟩ (some ⟨g, 0, none⟩) 0 cap
  have hq : IntKind.i64.wrap ((fr.length : Int) - 1) = (fr.length : Int) - 1 := by rw [IntKind.wrap_i64]; omega
  have HR := Lib.hid hR
  have HL := Lib.hid hl
  clear hR hl
  go_enter Tryz.func42, Tryz.ntmps42
  go_wp2_with fail
  generalize hW0 : ((w.alloc (tmO 118 0 ⟨#[c]⟩ (some ⟨g, 0, none⟩) 0 cap)).alloc (tmO 0 0 ⟨#[]⟩ none 0 0)) = W0 at *
  clear hW0
  go_loopw [11] (fun ix wr => ∃ k : Nat, k ≤ fr.length ∧ ix = .int .i64 ((k : Int) - 1) ∧ (∀ j : Nat, k ≤ j → fr[j]? ≠ some c) ∧ Un2 w 118 0 ⟨#[c]⟩ (some ⟨g, 0, none⟩) 0 cap wr) (fun ix _ => (intOf ix + 1).toNat)
  case atStart => exact ⟨fr.length, Nat.le_refl _, rfl, fun j hj => by rw [List.getElem?_eq_none hj]; simp, U0⟩
  case round =>
    clear U0
    obtain ⟨k, hk, rfl, hno, U0⟩ := hrel
    obtain ⟨c0, c1, c2, c3, f0, f1, f2, f3⟩ := cells4 U0.body
    obtain ⟨r0, r1, r2, r3, e0, e1, e2, e3⟩ := cells4 U0.res
    have HNO := Lib.hid hno
    clear hno
    cases k with
    | zero =>
      have hm : IntKind.i64.wrap (-1 : Int) = -1 := by rw [IntKind.wrap_i64]; omega
      go_wp2_with fail
      refine bodyPost_ret (v := .tuple #[.agg #[.int .u8 118, .int .i64 0, .string ⟨#[c]⟩, .slice (some ⟨g, 0, none⟩) 0 cap], .string ⟨u.toArray⟩, .bool true]) (by simp [results, Tryz.results42, go_sem, r0, r1, r2, r3]) rfl ?_
      refine ⟨set4_below U0.below (by omega) _ _ _ _, _, _, _, _, _, _, .inl ⟨(.var (envL fr to c), u), rfl, rfl, ?_⟩⟩
      rw [envL_none (fun j => HNO.out j (Nat.zero_le _))]
      exact HR.out c _
    | succ m =>
      obtain ⟨d, hd⟩ : ∃ d, fr[m]? = some d := ⟨_, List.getElem?_eq_getElem (by omega)⟩
      obtain ⟨z, hz⟩ : ∃ z, to[m]? = some z := ⟨_, List.getElem?_eq_getElem (by have := HL.out; omega)⟩
      have hm1 : ((m + 1 : Nat) : Int) - 1 = (m : Int) := by omega
      have hx1 := extract_one fr m d hd
      have hx2 := extract_one to m z hz
      have hw1 : IntKind.i64.wrap ((m : Int) + 1) = (m : Int) + 1 := by rw [IntKind.wrap_i64]; omega
      have hw2 : IntKind.i64.wrap ((m : Int) - 1) = (m : Int) - 1 := by rw [IntKind.wrap_i64]; omega
      have qb1 : (0 : Int) ≤ (m : Int) := by omega
      have qb2 : (0 : Int) ≤ (m : Int) + 1 := by omega
      have qb3 : (m : Int) ≤ (m : Int) + 1 := by omega
      have qb4 : (m : Int) + 1 ≤ (fr.length : Int) := by omega
      have qb5 : (m : Int) ≤ (fr.length : Int) := by omega
      have qb6 : (m : Int) + 1 ≤ (to.length : Int) := by have := HL.out; omega
      have qb7 : (m : Int) ≤ (to.length : Int) := by have := HL.out; omega
      have HD := Lib.hid hd
      have HZ := Lib.hid hz
      rw [hm1]
      clear hd hz hm1
      by_cases hdc : d = c
      · subst hdc
        go_wp2_with fail
        go_region
        all_goals go_wp2_with fail
        all_goals refine bodyPost_ret (v := .tuple #[.agg #[.int .u8 118, .int .i64 0, .string ⟨#[z]⟩, .slice (some ⟨g, 0, none⟩) 0 cap], .string ⟨u.toArray⟩, .bool true]) (by simp [results, Tryz.results42, go_sem, r0, r1, r2, r3]) rfl ?_
        all_goals refine ⟨set4_below (U0.below.drew.setCell (p := ⟨w.heap.size, 2, none⟩) (Nat.le_refl _) _) (by omega) _ _ _ _, _, _, _, _, _, _, .inl ⟨(.var (envL fr to d), u), rfl, rfl, ?_⟩⟩
        all_goals rw [envL_at HL.out HD.out HZ.out (fun j hj => HNO.out j hj)]
        all_goals exact HR.out z _
      · have hne := byte_ne hdc
        have U1 : Un2 w 118 0 ⟨#[c]⟩ (some ⟨g, 0, none⟩) 0 cap wr.drew := U0.keep (Below.refl _ wr).drew
        have hno2 : ∀ j : Nat, m ≤ j → fr[j]? ≠ some c := fun j hj => by
          by_cases e : j = m
          · subst e; rw [HD.out]; intro e; injection e with e; exact hdc e
          · exact HNO.out j (by omega)
        have HN2 := Lib.hid hno2
        clear hno2
        go_wp2_with fail
        go_region
        all_goals go_wp2_with fail
        all_goals exact ⟨⟨m, by omega, rfl, HN2.out, U1⟩, by simp [intOf]⟩
end Go.Proofs.YtcabmcpalgpfpaaGreatDoor
