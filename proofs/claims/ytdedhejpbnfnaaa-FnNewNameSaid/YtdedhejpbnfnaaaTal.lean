/- The program's tallies: a map from names to how often. -/
import Derived.Test.YtdedhejpbnfnaaaCnt
import Derived.Maps.OwnIn
import Derived.Maps.Ext
namespace Go.Proofs.Ytdedhejpbnfnaaa
open Go.RowKit
open Go.Maps (Keyed int_keyed keyOf_int_mk)
open Ff
set_option linter.unusedVariables false

theorem Try.underTally : Try.prog.underlying 35 = some (.map 5 3) := by kernel_rfl
theorem Try.under8 : Try.prog.underlying 5 = some (.int .u8) := by kernel_rfl
theorem Try.underInt : Try.prog.underlying 3 = some (.int .i64) := by kernel_rfl
theorem Try.zeroInt (w : World) : (zeroValue 3).run Try.prog w = .ok (.int .i64 0) w := by kernel_rfl
theorem Try.law8 : Keyed Try.prog 5 := int_keyed Try.under8

/-- A name's key. -/
abbrev lk (c : UInt8) : Lit := .int .u8 (c.toNat : Int)
theorem lk_inj {c d : UInt8} (h : lk c = lk d) : c = d := by
  simp only [lk, Lit.int.injEq, true_and] at h
  exact UInt8.toNat_inj.1 (by omega)
theorem lk_wf (c : UInt8) : (lk c).wf = true := by
  have := c.toNat_lt
  simp [Lit.wf, IntKind.min, IntKind.max, IntKind.signed, IntKind.bits]
  try omega
theorem lk_key (c : UInt8) : keyOf Try.prog 5 (.int .u8 (c.toNat : Int)) = some (lk c) := keyOf_int_mk Try.under8 (lk_wf c)
theorem lk_isKey (c : UInt8) : WideAt.IsKeyLit (lk c) := Try.law8.key (lk_key c)
theorem lk_of_wf {x : Int} (h : (Lit.int .u8 x).wf = true) : ∃ c : UInt8, Lit.int .u8 x = lk c ∧ x = (c.toNat : Int) := by
  have hb : 0 ≤ x ∧ x < 256 := by
    simp [Lit.wf, IntKind.min, IntKind.max, IntKind.signed, IntKind.bits] at h
    omega
  refine ⟨UInt8.ofNat x.toNat, ?_, ?_⟩
  all_goals
    have e : (UInt8.ofNat x.toNat).toNat = x.toNat := by
      rw [UInt8.toNat_ofNat']
      omega
    simp only [lk, e]
    first | (congr 1; omega) | omega
theorem wf_i64 {k : Nat} (h : k < 9223372036854775808) : (Lit.int .i64 (k : Int)).wf = true := WalkArith.wf_i64 (by omega)

/-- Block b of the world is a tally of at most n names, with the numbers m. -/
def Tally (w : World) (b n : Nat) (m : UInt8 → Nat) : Prop :=
  ∃ D : DataW Unit, w.ownsMap Try.prog 5 (plainElem Try.prog 3) b n D ∧ (∀ c, D.atKey (lk c) (.lit (.int .i64 0)) = .lit (.int .i64 (m c : Int)) ∧ Maps.has D (lk c) = decide (m c ≠ 0)) ∧ ∀ kl, Maps.has D kl = true → ∃ c, kl = lk c
/-- .. with another number for one name. -/
def upd (m : UInt8 → Nat) (c : UInt8) (k : Nat) : UInt8 → Nat := fun x => if x = c then k else m x
theorem upd_same (m : UInt8 → Nat) (c : UInt8) (k : Nat) : upd m c k c = k := by simp [upd]
theorem upd_other (m : UInt8 → Nat) (c : UInt8) (k : Nat) {x : UInt8} (h : x ≠ c) : upd m c k x = m x := by simp [upd, h]

theorem Tally.congr {w : World} {b n : Nat} {m m' : UInt8 → Nat} (h : Tally w b n m) (e : ∀ c, m c = m' c) : Tally w b n m' := by
  have : m = m' := funext e
  exact this ▸ h
theorem Tally.mono {w : World} {b n n' : Nat} {m : UInt8 → Nat} (h : Tally w b n m) (hn : n ≤ n') : Tally w b n' m := by
  obtain ⟨D, h1, h2⟩ := h
  exact ⟨D, h1.mono hn, h2⟩
theorem Tally.lt {w : World} {b n : Nat} {m : UInt8 → Nat} (h : Tally w b n m) : b < w.heap.size := by
  obtain ⟨D, h1, _⟩ := h
  exact h1.lt
theorem Tally.kept {w w' : World} {row : Option Nat} {b n : Nat} {m : UInt8 → Nat} (h : Tally w b n m) (hg : w.grownBy w' row) (hne : some b ≠ row) : Tally w' b n m := by
  obtain ⟨D, h1, h2⟩ := h
  exact ⟨D, h1.kept hg hne, h2⟩
theorem Tally.below {w w' : World} {b n : Nat} {m : UInt8 → Nat} (h : Tally w b n m) (hg : Below w.heap.size w w') : Tally w' b n m := h.kept (row := none) ⟨hg.os, hg.tape, hg.output, hg.size, fun j hj _ => hg.block j hj⟩ (by simp)
theorem Tally.alloc {w : World} {b n : Nat} {m : UInt8 → Nat} (h : Tally w b n m) (o : Obj) : Tally (w.alloc o) b n m := h.kept (World.grownBy_alloc w o none) (by simp)
theorem Tally.setCell {w : World} {b n : Nat} {m : UInt8 → Nat} (h : Tally w b n m) {a : Addr} (ha : b ≠ a.block) (u : Value) : Tally (w.setCell a u) b n m := by
  obtain ⟨D, h1, h2⟩ := h
  exact ⟨D, h1.setCell ha u, h2⟩
theorem tally_made (w : World) : Tally (w.alloc (.map #[] 0)) w.heap.size 0 (fun _ => 0) :=
  ⟨.map [], World.ownsMap_made _ _ _ _, fun c => ⟨rfl, rfl⟩, fun kl h => by cases h⟩
theorem tally_put {D : DataW Unit} (hD : Maps.IsMap D) {m : UInt8 → Nat} (h : (∀ c, D.atKey (lk c) (.lit (.int .i64 0)) = .lit (.int .i64 (m c : Int)) ∧ Maps.has D (lk c) = decide (m c ≠ 0)) ∧ ∀ kl, Maps.has D kl = true → ∃ c, kl = lk c) (c : UInt8) (k : Nat) (hk : k ≠ 0) :
    (∀ x, (D.put (lk c) (.lit (.int .i64 (k : Int)))).atKey (lk x) (.lit (.int .i64 0)) = .lit (.int .i64 (upd m c k x : Int)) ∧ Maps.has (D.put (lk c) (.lit (.int .i64 (k : Int)))) (lk x) = decide (upd m c k x ≠ 0)) ∧ ∀ kl, Maps.has (D.put (lk c) (.lit (.int .i64 (k : Int)))) kl = true → ∃ c, kl = lk c := by
  refine ⟨fun x => ?_, fun kl hkl => ?_⟩
  · by_cases e : x = c
    · subst e
      rw [Maps.atKey_put_same hD (lk_isKey x), Maps.has_put_same hD (lk_isKey x), upd_same]
      exact ⟨rfl, by simp [hk]⟩
    · have hne : lk x ≠ lk c := fun h => e (lk_inj h)
      rw [Maps.atKey_put_other hne, Maps.has_put_other hne, upd_other _ _ _ e]
      exact h.1 x
  · by_cases e : kl = lk c
    · exact ⟨c, e⟩
    · rw [Maps.has_put_other e] at hkl
      exact h.2 kl hkl
theorem tally_del {D : DataW Unit} {m : UInt8 → Nat} (h : (∀ c, D.atKey (lk c) (.lit (.int .i64 0)) = .lit (.int .i64 (m c : Int)) ∧ Maps.has D (lk c) = decide (m c ≠ 0)) ∧ ∀ kl, Maps.has D kl = true → ∃ c, kl = lk c) (c : UInt8) :
    (∀ x, (D.del (lk c)).atKey (lk x) (.lit (.int .i64 0)) = .lit (.int .i64 (upd m c 0 x : Int)) ∧ Maps.has (D.del (lk c)) (lk x) = decide (upd m c 0 x ≠ 0)) ∧ ∀ kl, Maps.has (D.del (lk c)) kl = true → ∃ c, kl = lk c := by
  refine ⟨fun x => ?_, fun kl hkl => ?_⟩
  · by_cases e : x = c
    · subst e
      rw [Maps.atKey_del_same, Maps.has_del_same, upd_same]
      exact ⟨rfl, by simp⟩
    · have hne : lk x ≠ lk c := fun h => e (lk_inj h)
      rw [Maps.atKey_del_other hne, Maps.has_del_other hne, upd_other _ _ _ e]
      exact h.1 x
  · by_cases e : kl = lk c
    · exact ⟨c, e⟩
    · rw [Maps.has_del_other e] at hkl
      exact h.2 kl hkl
theorem tally_size {w : World} {b n : Nat} {D : DataW Unit} (hown : w.ownsMap Try.prog 5 (plainElem Try.prog 3) b n D) {m : UInt8 → Nat} (h : (∀ c, D.atKey (lk c) (.lit (.int .i64 0)) = .lit (.int .i64 (m c : Int)) ∧ Maps.has D (lk c) = decide (m c ≠ 0)) ∧ ∀ kl, Maps.has D kl = true → ∃ c, kl = lk c) :
    Maps.size D = 0 ↔ ∀ c, m c = 0 := by
  obtain ⟨es, rfl, _, hk⟩ := hown.entries Try.law8
  constructor
  · intro h0 c
    have he : es = [] := List.length_eq_zero_iff.1 h0
    subst he
    have := (h.1 c).2
    by_cases e : m c = 0
    · exact e
    · simp [Maps.has, e] at this
  · intro h0
    cases es with
    | nil => rfl
    | cons p r =>
      have hp : Maps.has (.map (p :: r)) p.1 = true := by
        simp [Maps.has, WideAt.sameKey_self (hk p (by simp))]
      obtain ⟨c, hc⟩ := h.2 _ hp
      have h2 := (h.1 c).2
      rw [← hc, hp, h0 c] at h2
      simp at h2

/-- 'len' and the look-up, as equations for the walk. -/
theorem Tally.len {w : World} {b n : Nat} {m : UInt8 → Nat} (h : Tally w b n m) : ∃ k : Nat, (k = 0 ↔ ∀ c, m c = 0) ∧ k ≤ n ∧ ∀ t, (Builtin.len_ #[35] t #[.map (some b)]).run Try.prog w = .ok (.int .i64 (k : Int)) w := by
  obtain ⟨D, hown, h1⟩ := h
  exact ⟨_, tally_size hown h1, hown.size_le, fun t => hown.len Try.underTally t⟩
set_option maxRecDepth 100000 in
theorem Tally.look {w : World} {b n : Nat} {m : UInt8 → Nat} (h : Tally w b n m) (c : UInt8) : (Instr.lookup 35 (.map (some b)) (.int .u8 (c.toNat : Int)) false).run Try.prog w = .ok (.int .i64 (m c : Int)) w := by
  obtain ⟨D, hown, h1, _⟩ := h
  obtain ⟨d, hr, hat, _⟩ := hown.lookup_int Try.law8 Try.underTally Try.underInt (Try.zeroInt _) (lk_key c)
  rw [(h1 c).1] at hat
  injection hat with hat
  injection hat with _ hat
  subst hat
  exact hr
section
variable {w : World} {ops : Array Oper} {rest : List Oper} {o : Oper} {a : Act} {Q : Exit → Act → World → Prop} {b n : Nat} {m : UInt8 → Nat}
theorem wpList_lookup_tally (hg : o.guard = none) (mo x : Operand) (hop : o.op = Op.lookup 35 mo x false) (hm : a.eval mo = .map (some b)) (hT : Tally w b n m) (c : UInt8) (hx : a.eval x = .int .u8 (c.toNat : Int))
    (hK : wpList Try.prog ops Q rest (a.put o.dst (.int .i64 (m c : Int))) w) : wpList Try.prog ops Q (o :: rest) a w := by
  obtain ⟨D, hown, h1, _⟩ := hT
  refine wpList_lookup_own_int _ hg mo x _ hop _ _ .i64 Try.law8 Try.underTally Try.underInt (Try.zeroInt _) b n D hm hown _ _ hx (lk_key c) ?_
  intro d hat _
  rw [(h1 c).1] at hat
  injection hat with hat
  injection hat with _ hat
  subst hat
  exact hK
theorem wpList_update_tally (hg : o.guard = none) (mo x v : Operand) (hop : o.op = Op.mapUpdate 35 mo x v) (hm : a.eval mo = .map (some b)) (hT : Tally w b n m) (c : UInt8) (hx : a.eval x = .int .u8 (c.toNat : Int)) (k : Nat) (hv : a.eval v = .int .i64 (k : Int))
    (hn : n < maxLen) (hk : k ≠ 0) (hk2 : k < 9223372036854775808)
    (hK : ∀ w', Tally w' b (n + 1) (upd m c k) → w.grownBy w' (some b) → wpList Try.prog ops Q rest (a.put o.dst undef) w') : wpList Try.prog ops Q (o :: rest) a w := by
  obtain ⟨D, hown, h1⟩ := hT
  refine wpList_mapUpdate_own _ hg mo x v _ hop _ _ Try.law8 Try.underTally _ b n D hm hown hn _ _ _ hx hv (lk_key c) _ [] (plainElem_int Try.underInt (wf_i64 hk2)) ?_
  intro w1 hown1 hgr
  exact hK w1 ⟨_, hown1, tally_put hown.isMap h1 c k hk⟩ hgr
theorem wpList_delete_tally (hg : o.guard = none) (mo x : Operand) (hop : o.op = Op.call { callee := Callee.builtin Builtin.delete, args := #[mo, x], argTypes := #[35, 5] }) (hm : a.eval mo = .map (some b)) (hT : Tally w b n m) (c : UInt8) (hx : a.eval x = .int .u8 (c.toNat : Int))
    (hK : ∀ w', Tally w' b n (upd m c 0) → w.grownBy w' (some b) → wpList Try.prog ops Q rest (a.put o.dst (.tuple #[])) w') : wpList Try.prog ops Q (o :: rest) a w := by
  obtain ⟨D, hown, h1⟩ := hT
  refine wpList_delete_own _ hg mo x _ _ hop _ Try.law8 Try.underTally _ b n D hm hown _ _ hx (lk_key c) ?_
  intro w1 hown1 hgr
  exact hK w1 ⟨_, hown1, tally_del h1 c⟩ hgr.grown
theorem wpList_len_tally (hg : o.guard = none) (mo : Operand) (hop : o.op = Op.call { callee := Callee.builtin Builtin.len, args := #[mo], argTypes := #[35] }) (hm : a.eval mo = .map (some b)) (hT : Tally w b n m)
    (hK : ∀ k : Nat, (k = 0 ↔ ∀ c, m c = 0) → k ≤ n → wpList Try.prog ops Q rest (a.put o.dst (.int .i64 (k : Int))) w) : wpList Try.prog ops Q (o :: rest) a w := by
  obtain ⟨D, hown, h1⟩ := hT
  exact wpList_len_own _ hg mo _ hop _ _ Try.underTally _ b n D hm hown (hK _ (tally_size hown h1) hown.size_le)
end
section
variable {F : Fence} {nF : Nat} {w : World} {ops : Array Oper} {rest : List Oper} {o : Oper} {a : Act} {Q : Exit → Act → World → Prop} {b n : Nat} {m : UInt8 → Nat}
theorem wpListIn_lookup_tally (hg : o.guard = none) (mo x : Operand) (hop : o.op = Op.lookup 35 mo x false) (hm : a.eval mo = .map (some b)) (hT : Tally w b n m) (c : UInt8) (hx : a.eval x = .int .u8 (c.toNat : Int))
    (hK : wpListIn F nF Try.prog ops Q rest (a.put o.dst (.int .i64 (m c : Int))) w) : wpListIn F nF Try.prog ops Q (o :: rest) a w := by
  obtain ⟨D, hown, h1, _⟩ := hT
  refine wpListIn_lookup_own_int _ hg mo x _ hop _ _ .i64 Try.law8 Try.underTally Try.underInt (Try.zeroInt _) b n D hm hown _ _ hx (lk_key c) ?_
  intro d hat _
  rw [(h1 c).1] at hat
  injection hat with hat
  injection hat with _ hat
  subst hat
  exact hK
theorem wpListIn_update_tally (hg : o.guard = none) (mo x v : Operand) (hop : o.op = Op.mapUpdate 35 mo x v) (hm : a.eval mo = .map (some b)) (hT : Tally w b n m) (c : UInt8) (hx : a.eval x = .int .u8 (c.toNat : Int)) (k : Nat) (hv : a.eval v = .int .i64 (k : Int))
    (hn : n < maxLen) (hk : k ≠ 0) (hk2 : k < 9223372036854775808)
    (hK : ∀ w', Tally w' b (n + 1) (upd m c k) → w.grownBy w' (some b) → wpListIn F nF Try.prog ops Q rest (a.put o.dst undef) w') : wpListIn F nF Try.prog ops Q (o :: rest) a w := by
  obtain ⟨D, hown, h1⟩ := hT
  refine wpListIn_mapUpdate_own _ hg mo x v _ hop _ _ Try.law8 Try.underTally _ b n D hm hown hn _ _ _ hx hv (lk_key c) _ [] (plainElem_int Try.underInt (wf_i64 hk2)) ?_
  intro w1 hown1 hgr
  exact hK w1 ⟨_, hown1, tally_put hown.isMap h1 c k hk⟩ hgr
end

/-- A range over a tally is under way: who is still to come, and how many. -/
def Under (w : World) (b r n : Nat) (m : UInt8 → Nat) (left : UInt8 → Bool) (cnt : Nat) : Prop :=
  ∃ (D : DataW Unit) (lf : Lit → Bool), w.ranges Try.prog 5 (plainElem Try.prog 3) b r n D lf cnt ∧ ((∀ c, D.atKey (lk c) (.lit (.int .i64 0)) = .lit (.int .i64 (m c : Int)) ∧ Maps.has D (lk c) = decide (m c ≠ 0)) ∧ ∀ kl, Maps.has D kl = true → ∃ c, kl = lk c) ∧ ∀ c, left c = lf (lk c)
theorem Under.tally {w : World} {b r n cnt : Nat} {m : UInt8 → Nat} {left : UInt8 → Bool} (h : Under w b r n m left cnt) : Tally w b n m := by
  obtain ⟨D, lf, h1, h2, _⟩ := h
  exact ⟨D, h1.owns, h2⟩
theorem Under.lt {w : World} {b r n cnt : Nat} {m : UInt8 → Nat} {left : UInt8 → Bool} (h : Under w b r n m left cnt) : r < w.heap.size := by
  obtain ⟨D, lf, h1, h2, _⟩ := h
  exact h1.lt
theorem Under.ne {w : World} {b r n cnt : Nat} {m : UInt8 → Nat} {left : UInt8 → Bool} (h : Under w b r n m left cnt) : r ≠ b := by
  obtain ⟨D, lf, h1, h2, _⟩ := h
  exact h1.ne
theorem Under.left_eq {w : World} {b r n cnt : Nat} {m : UInt8 → Nat} {left : UInt8 → Bool} (h : Under w b r n m left cnt) : w.rangeLeft b r = cnt := by
  obtain ⟨D, lf, h1, h2, _⟩ := h
  exact h1.left_eq
theorem Under.kept {w w' : World} {row : Option Nat} {b r n cnt : Nat} {m : UInt8 → Nat} {left : UInt8 → Bool} (h : Under w b r n m left cnt) (hg : w.grownBy w' row) (h1 : some b ≠ row) (h2 : some r ≠ row) : Under w' b r n m left cnt := by
  obtain ⟨D, lf, k1, k2⟩ := h
  exact ⟨D, lf, k1.kept hg h1 h2, k2⟩
section
variable {w : World} {ops : Array Oper} {rest : List Oper} {o : Oper} {a : Act} {Q : Exit → Act → World → Prop} {b n : Nat} {m : UInt8 → Nat}
theorem wpList_range_tally (hg : o.guard = none) (mo : Operand) (hop : o.op = Op.range 35 mo) (hm : a.eval mo = .map (some b)) (hT : Tally w b n m)
    (hK : ∀ w' cnt, Under w' b w.heap.size n m (fun c => decide (m c ≠ 0)) cnt → cnt ≤ n → w.grownBy w' none → w'.heap.size = w.heap.size + 1 → wpList Try.prog ops Q rest (a.put o.dst (.pointer (some ⟨w.heap.size, 0, none⟩))) w') : wpList Try.prog ops Q (o :: rest) a w := by
  obtain ⟨D, hown, h1⟩ := hT
  refine wpList_range_own _ hg mo _ hop _ _ Try.law8 Try.underTally _ b n D hm hown ?_
  intro w' hr hgr hsz
  exact hK w' _ ⟨D, _, hr, h1, fun c => ((h1.1 c).2).symm⟩ hown.size_le hgr hsz
theorem wpList_next_tally (hg : o.guard = none) (it : Operand) (hop : o.op = Op.next it false) {r cnt : Nat} {left : UInt8 → Bool} (hit : a.eval it = .pointer (some ⟨r, 0, none⟩)) (h : Under w b r n m left cnt)
    (hDone : (∀ c, left c = false) → wpList Try.prog ops Q rest (a.put o.dst (.tuple #[.bool false])) w)
    (hMore : ∀ (c : UInt8) (w' : World) (cnt' : Nat), left c = true → m c ≠ 0 → Under w' b r n m (fun x => left x && !decide (x = c)) cnt' → cnt' < cnt → w.grownBy w' (some r) → w'.heap.size = w.heap.size →
      (Instr.entry (.pointer (some ⟨r, 0, none⟩))).run Try.prog w' = .ok (.tuple #[.int .u8 (c.toNat : Int), .int .i64 (m c : Int)]) w' → wpList Try.prog ops Q rest (a.put o.dst (.tuple #[.bool true, .int .u8 (c.toNat : Int), .int .i64 (m c : Int)])) w') :
    wpList Try.prog ops Q (o :: rest) a w := by
  obtain ⟨D, lf, hr, h1, hl⟩ := h
  refine wpList_next_ranges_ii _ hg it hop _ _ .u8 .i64 Try.law8 Try.under8 Try.underInt b r n D lf cnt hit hr ?_ ?_
  · intro _ h0
    exact hDone (fun c => (hl c).trans (h0 _))
  · intro x d w1 cnt1 hwx hwd hlx hat hr1 hlt hgr hsz hen
    obtain ⟨c, hc, rfl⟩ := lk_of_wf hwx
    have hd := (h1.1 c).1
    rw [hat] at hd
    injection hd with hd
    injection hd with _ hd
    subst hd
    have hh := Maps.has_true_of_atKey hat
    have hm0 : m c ≠ 0 := by
      have := (h1.1 c).2
      rw [hh] at this
      simpa using this.symm
    refine hMore c w1 cnt1 ((hl c).trans hlx) hm0 ⟨D, _, hr1, h1, fun y => ?_⟩ hlt hgr hsz hen
    show (left y && !decide (y = c)) = (lf (lk y) && !(lk y).sameKey (lk c))
    rw [hl y]
    by_cases e : y = c
    · subst e
      simp [WideAt.sameKey_self (lk_isKey y)]
    · simp [Maps.sameKey_ne (fun h => e (lk_inj h)), e]
end
end Go.Proofs.Ytdedhejpbnfnaaa
