import Derived.Test.YtjfhncfbejephaaGreatDoorMFr
import Derived.Test.YtjfhncfbejephaaGreatDoorMYi
import Derived.Maps.OwnIn
import Derived.Maps.Ext
import Derived.Test.YtjfhncfbejephaaGreatDoorMSc
import Derived.Laws.IdiomStrings
/- How often a name stands free in a term; which names. No program in sight. -/
namespace Go.Proofs.YtjfhncfbejephaaGreatDoor
open Ff
set_option linter.unusedVariables false

/-- How often a name stands free. -/
def cntF : Tm → UInt8 → Nat
  | .num _, _ => 0
  | .var c, x => if x = c then 1 else 0
  | .fn c b, x => if x ∈ [c] then 0 else cntF b x
  | .fix f c b, x => if x ∈ [f, c] then 0 else cntF b x
  | .app f a, x => cntF f x + cntF a x
  | .bind c v b, x => cntF v x + (if x ∈ [c] then 0 else cntF b x)
  | .op _ l r, x => cntF l x + cntF r x
  | .sel a b c, x => cntF a x + cntF b x + cntF c x
/-- The names that a term itself binds. -/
def bindsOf : Tm → Text
  | .fn c _ => [c]
  | .fix f c _ => [f, c]
  | .bind c _ _ => [c]
  | _ => []
theorem binds_len (t : Tm) : (bindsOf t).length ≤ 2 := by cases t <;> simp [bindsOf]
/-- How often in the first k kids, those names struck that the term binds. -/
def cntTo (t : Tm) : Nat → UInt8 → Nat
  | 0, _ => 0
  | k + 1, x => cntTo t k x + (match t.kids[k]? with | some s => if k + 1 = t.kids.length ∧ x ∈ bindsOf t then 0 else cntF s x | none => 0)
theorem cnt_kids (t : Tm) (h : kindOf t ≠ 118) (x : UInt8) : cntF t x = cntTo t t.kids.length x := by
  cases t with
  | var c => simp [kindOf] at h
  | _ => simp [cntF, cntTo, Tm.kids, bindsOf]
theorem cntTo_succ (t : Tm) (k : Nat) (s : Tm) (h : t.kids[k]? = some s) (x : UInt8) : cntTo t (k + 1) x = cntTo t k x + (if k + 1 = t.kids.length ∧ x ∈ bindsOf t then 0 else cntF s x) := by
  simp only [cntTo, h]
theorem cnt_le (t : Tm) (x : UInt8) : cntF t x ≤ (parts t).length := by
  induction t with
  | num n => simp [cntF]
  | var c => simp only [cntF, parts, List.length_cons, List.length_nil]; split <;> omega
  | fn c b ih => simp only [cntF, parts, List.length_cons]; split <;> omega
  | fix f c b ih => simp only [cntF, parts, List.length_cons]; split <;> omega
  | app f a h1 h2 => simp only [cntF, parts, List.length_cons, List.length_append]; omega
  | bind c f a h1 h2 => simp only [cntF, parts, List.length_cons, List.length_append]; split <;> omega
  | op s f a h1 h2 => simp only [cntF, parts, List.length_cons, List.length_append]; omega
  | sel a b c h1 h2 h3 => simp only [cntF, parts, List.length_cons, List.length_append]; omega

theorem nam_letter {c : UInt8} (h : isNam c = true) : c ∈ letters := by
  simp only [isNam, Bool.and_eq_true, decide_eq_true_eq] at h
  obtain ⟨h1, h2⟩ := h
  obtain ⟨d, hd, hn⟩ := letters_at (c.toNat - 97) (by omega)
  have e : d = c := by apply UInt8.toNat_inj.1; omega
  rw [← e]
  exact List.mem_of_getElem? hd
theorem mem_sort (s : Text) (x : UInt8) : x ∈ sortN s ↔ x ∈ letters ∧ x ∈ s := by simp [sortN, List.mem_filter]
theorem mem_less (s n : Text) (x : UInt8) : x ∈ lessN s n ↔ x ∈ s ∧ x ∉ n := by simp [lessN, List.mem_filter]
theorem free_letters {t : Tm} (h : t.good) {x : UInt8} (hx : x ∈ sfree t) : x ∈ letters := by
  induction t with
  | num n => exact ((mem_sort _ _).1 hx).1
  | var c => simp only [sfree, List.mem_singleton] at hx; subst hx; exact nam_letter h
  | fn c b ih => exact ih h.2 ((mem_less _ _ _).1 hx).1
  | fix f c b ih => exact ih h.2.2.2 ((mem_less _ _ _).1 hx).1
  | app | bind | op | sel => exact ((mem_sort _ _).1 hx).1
theorem mem_free {t : Tm} (h : t.good) (x : UInt8) : x ∈ sfree t ↔ cntF t x ≠ 0 := by
  induction t with
  | num n => simp [sfree, mem_sort, cntF]
  | var c => simp only [sfree, List.mem_singleton, cntF]; split <;> simp_all
  | fn c b ih => rw [sfree, mem_less, ih h.2, cntF]; split <;> simp_all
  | fix f c b ih => rw [sfree, mem_less, ih h.2.2.2, cntF]; split <;> simp_all
  | app f a h1 h2 =>
    have k1 := h1 h.1; have k2 := h2 h.2
    have l1 := fun hx => free_letters h.1 (x := x) hx; have l2 := fun hx => free_letters h.2 (x := x) hx
    rw [sfree, mem_sort, List.mem_append, cntF]
    constructor
    · rintro ⟨_, h | h⟩
      · have := k1.1 h; omega
      · have := k2.1 h; omega
    · intro hn
      by_cases e : cntF f x = 0
      · have := k2.2 (by omega); exact ⟨l2 this, .inr this⟩
      · have := k1.2 e; exact ⟨l1 this, .inl this⟩
  | op s f a h1 h2 =>
    have k1 := h1 h.2.1; have k2 := h2 h.2.2
    have l1 := fun hx => free_letters h.2.1 (x := x) hx; have l2 := fun hx => free_letters h.2.2 (x := x) hx
    rw [sfree, mem_sort, List.mem_append, cntF]
    constructor
    · rintro ⟨_, h | h⟩
      · have := k1.1 h; omega
      · have := k2.1 h; omega
    · intro hn
      by_cases e : cntF f x = 0
      · have := k2.2 (by omega); exact ⟨l2 this, .inr this⟩
      · have := k1.2 e; exact ⟨l1 this, .inl this⟩
  | bind c f a h1 h2 =>
    have k1 := h1 h.2.1; have k2 := h2 h.2.2
    have l1 := fun hx => free_letters h.2.1 (x := x) hx; have l2 := fun hx => free_letters h.2.2 (x := x) hx
    rw [sfree, mem_sort, List.mem_append, mem_less, cntF]
    constructor
    · rintro ⟨_, h | h⟩
      · have := k1.1 h; omega
      · rw [if_neg h.2]; have := k2.1 h.1; omega
    · intro hn
      by_cases e : cntF f x = 0
      · by_cases ec : x ∈ [c]
        · rw [if_pos ec] at hn; omega
        · rw [if_neg ec] at hn
          have := k2.2 (by omega); exact ⟨l2 this, .inr ⟨this, ec⟩⟩
      · have := k1.2 e; exact ⟨l1 this, .inl this⟩
  | sel a b c h1 h2 h3 =>
    have k1 := h1 h.1; have k2 := h2 h.2.1; have k3 := h3 h.2.2
    have l1 := fun hx => free_letters h.1 (x := x) hx; have l2 := fun hx => free_letters h.2.1 (x := x) hx; have l3 := fun hx => free_letters h.2.2 (x := x) hx
    rw [sfree, mem_sort, List.mem_append, List.mem_append, cntF]
    constructor
    · rintro ⟨_, h | h | h⟩
      · have := k1.1 h; omega
      · have := k2.1 h; omega
      · have := k3.1 h; omega
    · intro hn
      by_cases e : cntF a x = 0
      · by_cases e2 : cntF b x = 0
        · have := k3.2 (by omega); exact ⟨l3 this, .inr (.inr this)⟩
        · have := k2.2 e2; exact ⟨l2 this, .inr (.inl this)⟩
      · have := k1.2 e; exact ⟨l1 this, .inl this⟩
theorem free_filter {t : Tm} (h : t.good) : ∃ p : UInt8 → Bool, sfree t = letters.filter p := by
  induction t with
  | num n => exact ⟨fun c => decide (c ∈ ([] : Text)), by rw [sfree, sortN]⟩
  | var c =>
    refine ⟨fun d => decide (d = c), ?_⟩
    have hl := nam_letter (c := c) h
    simp only [letters, List.mem_cons, List.not_mem_nil, or_false] at hl
    rcases hl with h | h | h | h | h | h | h | h | h | h | h | h | h | h | h | h <;> subst h <;> decide
  | fn c b ih => obtain ⟨p, hp⟩ := ih h.2; exact ⟨_, by rw [sfree, hp, lessN, List.filter_filter]⟩
  | fix f c b ih => obtain ⟨p, hp⟩ := ih h.2.2.2; exact ⟨_, by rw [sfree, hp, lessN, List.filter_filter]⟩
  | app f a => exact ⟨fun c => decide (c ∈ sfree f ++ sfree a), by rw [sfree, sortN]⟩
  | op s f a => exact ⟨fun c => decide (c ∈ sfree f ++ sfree a), by rw [sfree, sortN]⟩
  | bind d f a => exact ⟨fun c => decide (c ∈ sfree f ++ lessN (sfree a) [d]), by rw [sfree, sortN]⟩
  | sel a b d => exact ⟨fun c => decide (c ∈ sfree a ++ (sfree b ++ sfree d)), by rw [sfree, sortN]⟩
/-- The names that have a number, in order. -/
def namesIn (m : UInt8 → Nat) : Text := letters.filter (fun c => decide (m c ≠ 0))
theorem free_names {t : Tm} (h : t.good) : sfree t = namesIn (cntF t) := by
  obtain ⟨p, hp⟩ := free_filter h
  rw [hp]
  unfold namesIn
  refine List.filter_congr fun c hc => ?_
  have h1 := mem_free h c
  rw [hp, List.mem_filter] at h1
  have h2 : p c = true ↔ cntF t c ≠ 0 := ⟨fun e => h1.1 ⟨hc, e⟩, fun e => (h1.2 e).2⟩
  cases hpc : p c
  · have : ¬ cntF t c ≠ 0 := fun e => by rw [h2.2 e] at hpc; cases hpc
    simp [this]
  · simp [h2.1 hpc]
theorem free_nil {t : Tm} (h : t.good) : sfree t = [] ↔ ∀ x, cntF t x = 0 := by
  constructor
  · intro e x
    have h1 := mem_free h x
    rw [e] at h1
    by_cases h0 : cntF t x = 0
    · exact h0
    · exact absurd (h1.2 h0) (by simp)
  · intro e
    rw [free_names h]
    simp [namesIn, e]

/-- The names that the first k of the parts bind. -/
def boundTo (l : List Tm) (k : Nat) : Text := (l.take k).flatMap bindsOf
theorem boundTo_succ (l : List Tm) (k : Nat) (s : Tm) (h : l[k]? = some s) : boundTo l (k + 1) = boundTo l k ++ bindsOf s := by
  unfold boundTo
  rw [List.take_add_one, h]
  simp
theorem boundTo_len (l : List Tm) (k : Nat) : (boundTo l k).length ≤ 2 * k := by
  induction k with
  | zero => simp [boundTo]
  | succ k ih =>
    rcases h : l[k]? with _ | s
    · have e : boundTo l (k + 1) = boundTo l k := by unfold boundTo; rw [List.take_add_one, h]; simp
      rw [e]; omega
    · rw [boundTo_succ l k s h, List.length_append]
      have := binds_len s
      omega
/-- The names that some part binds, in order. -/
def sbound (t : Tm) : Text := sortN (boundTo (parts t) (parts t).length)
/-- How often some part binds a name, among the terms of a list. -/
def cntB (l : List Tm) (x : UInt8) : Nat := (l.flatMap bindsOf).count x
theorem cntB_snoc (l : List Tm) (s : Tm) (x : UInt8) : cntB (l ++ [s]) x = cntB l x + (bindsOf s).count x := by
  simp [cntB, List.count_append]
theorem cntB_le (l : List Tm) (x : UInt8) : cntB l x ≤ 2 * l.length := by
  refine Nat.le_trans List.count_le_length ?_
  have := boundTo_len l l.length
  rwa [boundTo, List.take_length] at this
theorem bound_names (t : Tm) : sbound t = namesIn (cntB (parts t)) := by
  unfold sbound namesIn sortN boundTo cntB
  rw [List.take_length]
  refine List.filter_congr fun c _ => ?_
  have : c ∈ (parts t).flatMap bindsOf ↔ List.count c ((parts t).flatMap bindsOf) ≠ 0 := by
    rw [← List.count_pos_iff]; omega
  simp only [this]
end Go.Proofs.YtjfhncfbejephaaGreatDoor

/- The program's tallies: a map from names to how often. -/
namespace Go.Proofs.YtjfhncfbejephaaGreatDoor
open Go.RowKit
open Go.Maps (Keyed int_keyed keyOf_int_mk)
open Ff
set_option linter.unusedVariables false

theorem Tryz.underTally : Tryz.prog.underlying 98 = some (.map 5 3) := by kernel_rfl
theorem Tryz.under8 : Tryz.prog.underlying 5 = some (.int .u8) := by kernel_rfl
theorem Tryz.underInt : Tryz.prog.underlying 3 = some (.int .i64) := by kernel_rfl
theorem Tryz.zeroInt (w : World) : (zeroValue 3).run Tryz.prog w = .ok (.int .i64 0) w := by kernel_rfl
theorem Tryz.law8 : Keyed Tryz.prog 5 := int_keyed Tryz.under8

/-- A name's key. -/
abbrev lk (c : UInt8) : Lit := .int .u8 (c.toNat : Int)
theorem lk_inj {c d : UInt8} (h : lk c = lk d) : c = d := by
  simp only [lk, Lit.int.injEq, true_and] at h
  exact UInt8.toNat_inj.1 (by omega)
theorem lk_wf (c : UInt8) : (lk c).wf = true := by
  have := c.toNat_lt
  simp [Lit.wf, IntKind.min, IntKind.max, IntKind.signed, IntKind.bits]
  try omega
theorem lk_key (c : UInt8) : keyOf Tryz.prog 5 (.int .u8 (c.toNat : Int)) = some (lk c) := keyOf_int_mk Tryz.under8 (lk_wf c)
theorem lk_isKey (c : UInt8) : WideAt.IsKeyLit (lk c) := Tryz.law8.key (lk_key c)
theorem lk_of_wf {x : Int} (h : (Lit.int .u8 x).wf = true) : ∃ c : UInt8, Lit.int .u8 x = lk c ∧ x = (c.toNat : Int) := by
  have hb : 0 ≤ x ∧ x < 256 := by
    simp [Lit.wf, IntKind.min, IntKind.max, IntKind.signed, IntKind.bits] at h
    omega
  refine ⟨UInt8.ofNat x.toNat, ?_, ?_⟩
  all_goals
    have e : (UInt8.ofNat x.toNat).toNat = x.toNat := by
      rw [UInt8.toNat_ofNat']
      omega
    simp only [lk, e]
    first | (congr 1; omega) | omega
theorem wf_i64 {k : Nat} (h : k < 9223372036854775808) : (Lit.int .i64 (k : Int)).wf = true := WalkArith.wf_i64 (by omega)

/-- Block b of the world is a tally of at most n names, with the numbers m. -/
def Tally (w : World) (b n : Nat) (m : UInt8 → Nat) : Prop :=
  ∃ D : DataW Unit, w.ownsMap Tryz.prog 5 (plainElem Tryz.prog 3) b n D ∧ (∀ c, D.atKey (lk c) (.lit (.int .i64 0)) = .lit (.int .i64 (m c : Int)) ∧ Maps.has D (lk c) = decide (m c ≠ 0)) ∧ ∀ kl, Maps.has D kl = true → ∃ c, kl = lk c
/-- .. with another number for one name. -/
def upd (m : UInt8 → Nat) (c : UInt8) (k : Nat) : UInt8 → Nat := fun x => if x = c then k else m x
theorem upd_same (m : UInt8 → Nat) (c : UInt8) (k : Nat) : upd m c k c = k := by simp [upd]
theorem upd_other (m : UInt8 → Nat) (c : UInt8) (k : Nat) {x : UInt8} (h : x ≠ c) : upd m c k x = m x := by simp [upd, h]

theorem Tally.congr {w : World} {b n : Nat} {m m' : UInt8 → Nat} (h : Tally w b n m) (e : ∀ c, m c = m' c) : Tally w b n m' := by
  have : m = m' := funext e
  exact this ▸ h
theorem Tally.mono {w : World} {b n n' : Nat} {m : UInt8 → Nat} (h : Tally w b n m) (hn : n ≤ n') : Tally w b n' m := by
  obtain ⟨D, h1, h2⟩ := h
  exact ⟨D, h1.mono hn, h2⟩
theorem Tally.lt {w : World} {b n : Nat} {m : UInt8 → Nat} (h : Tally w b n m) : b < w.heap.size := by
  obtain ⟨D, h1, _⟩ := h
  exact h1.lt
theorem Tally.kept {w w' : World} {row : Option Nat} {b n : Nat} {m : UInt8 → Nat} (h : Tally w b n m) (hg : w.grownBy w' row) (hne : some b ≠ row) : Tally w' b n m := by
  obtain ⟨D, h1, h2⟩ := h
  exact ⟨D, h1.kept hg hne, h2⟩
theorem Tally.below {w w' : World} {b n : Nat} {m : UInt8 → Nat} (h : Tally w b n m) (hg : Below w.heap.size w w') : Tally w' b n m := h.kept (row := none) ⟨hg.os, hg.tape, hg.output, hg.size, fun j hj _ => hg.block j hj⟩ (by simp)
theorem Tally.alloc {w : World} {b n : Nat} {m : UInt8 → Nat} (h : Tally w b n m) (o : Obj) : Tally (w.alloc o) b n m := h.kept (World.grownBy_alloc w o none) (by simp)
theorem Tally.setCell {w : World} {b n : Nat} {m : UInt8 → Nat} (h : Tally w b n m) {a : Addr} (ha : b ≠ a.block) (u : Value) : Tally (w.setCell a u) b n m := by
  obtain ⟨D, h1, h2⟩ := h
  exact ⟨D, h1.setCell ha u, h2⟩
theorem tally_made (w : World) : Tally (w.alloc (.map #[] 0)) w.heap.size 0 (fun _ => 0) :=
  ⟨.map [], World.ownsMap_made _ _ _ _, fun c => ⟨rfl, rfl⟩, fun kl h => by cases h⟩
theorem tally_put {D : DataW Unit} (hD : Maps.IsMap D) {m : UInt8 → Nat} (h : (∀ c, D.atKey (lk c) (.lit (.int .i64 0)) = .lit (.int .i64 (m c : Int)) ∧ Maps.has D (lk c) = decide (m c ≠ 0)) ∧ ∀ kl, Maps.has D kl = true → ∃ c, kl = lk c) (c : UInt8) (k : Nat) (hk : k ≠ 0) :
    (∀ x, (D.put (lk c) (.lit (.int .i64 (k : Int)))).atKey (lk x) (.lit (.int .i64 0)) = .lit (.int .i64 (upd m c k x : Int)) ∧ Maps.has (D.put (lk c) (.lit (.int .i64 (k : Int)))) (lk x) = decide (upd m c k x ≠ 0)) ∧ ∀ kl, Maps.has (D.put (lk c) (.lit (.int .i64 (k : Int)))) kl = true → ∃ c, kl = lk c := by
  refine ⟨fun x => ?_, fun kl hkl => ?_⟩
  · by_cases e : x = c
    · subst e
      rw [Maps.atKey_put_same hD (lk_isKey x), Maps.has_put_same hD (lk_isKey x), upd_same]
      exact ⟨rfl, by simp [hk]⟩
    · have hne : lk x ≠ lk c := fun h => e (lk_inj h)
      rw [Maps.atKey_put_other hne, Maps.has_put_other hne, upd_other _ _ _ e]
      exact h.1 x
  · by_cases e : kl = lk c
    · exact ⟨c, e⟩
    · rw [Maps.has_put_other e] at hkl
      exact h.2 kl hkl
theorem tally_del {D : DataW Unit} {m : UInt8 → Nat} (h : (∀ c, D.atKey (lk c) (.lit (.int .i64 0)) = .lit (.int .i64 (m c : Int)) ∧ Maps.has D (lk c) = decide (m c ≠ 0)) ∧ ∀ kl, Maps.has D kl = true → ∃ c, kl = lk c) (c : UInt8) :
    (∀ x, (D.del (lk c)).atKey (lk x) (.lit (.int .i64 0)) = .lit (.int .i64 (upd m c 0 x : Int)) ∧ Maps.has (D.del (lk c)) (lk x) = decide (upd m c 0 x ≠ 0)) ∧ ∀ kl, Maps.has (D.del (lk c)) kl = true → ∃ c, kl = lk c := by
  refine ⟨fun x => ?_, fun kl hkl => ?_⟩
  · by_cases e : x = c
    · subst e
      rw [Maps.atKey_del_same, Maps.has_del_same, upd_same]
      exact ⟨rfl, by simp⟩
    · have hne : lk x ≠ lk c := fun h => e (lk_inj h)
      rw [Maps.atKey_del_other hne, Maps.has_del_other hne, upd_other _ _ _ e]
      exact h.1 x
  · by_cases e : kl = lk c
    · exact ⟨c, e⟩
    · rw [Maps.has_del_other e] at hkl
      exact h.2 kl hkl
theorem tally_size {w : World} {b n : Nat} {D : DataW Unit} (hown : w.ownsMap Tryz.prog 5 (plainElem Tryz.prog 3) b n D) {m : UInt8 → Nat} (h : (∀ c, D.atKey (lk c) (.lit (.int .i64 0)) = .lit (.int .i64 (m c : Int)) ∧ Maps.has D (lk c) = decide (m c ≠ 0)) ∧ ∀ kl, Maps.has D kl = true → ∃ c, kl = lk c) :
    Maps.size D = 0 ↔ ∀ c, m c = 0 := by
  obtain ⟨es, rfl, _, hk⟩ := hown.entries Tryz.law8
  constructor
  · intro h0 c
    have he : es = [] := List.length_eq_zero_iff.1 h0
    subst he
    have := (h.1 c).2
    by_cases e : m c = 0
    · exact e
    · simp [Maps.has, e] at this
  · intro h0
    cases es with
    | nil => rfl
    | cons p r =>
      have hp : Maps.has (.map (p :: r)) p.1 = true := by
        simp [Maps.has, WideAt.sameKey_self (hk p (by simp))]
      obtain ⟨c, hc⟩ := h.2 _ hp
      have h2 := (h.1 c).2
      rw [← hc, hp, h0 c] at h2
      simp at h2

/-- 'len' and the look-up, as equations for the walk. -/
theorem Tally.len {w : World} {b n : Nat} {m : UInt8 → Nat} (h : Tally w b n m) : ∃ k : Nat, (k = 0 ↔ ∀ c, m c = 0) ∧ k ≤ n ∧ ∀ t, (Builtin.len_ #[98] t #[.map (some b)]).run Tryz.prog w = .ok (.int .i64 (k : Int)) w := by
  obtain ⟨D, hown, h1⟩ := h
  exact ⟨_, tally_size hown h1, hown.size_le, fun t => hown.len Tryz.underTally t⟩
set_option maxRecDepth 100000 in
theorem Tally.look {w : World} {b n : Nat} {m : UInt8 → Nat} (h : Tally w b n m) (c : UInt8) : (Instr.lookup 98 (.map (some b)) (.int .u8 (c.toNat : Int)) false).run Tryz.prog w = .ok (.int .i64 (m c : Int)) w := by
  obtain ⟨D, hown, h1, _⟩ := h
  obtain ⟨d, hr, hat, _⟩ := hown.lookup_int Tryz.law8 Tryz.underTally Tryz.underInt (Tryz.zeroInt _) (lk_key c)
  rw [(h1 c).1] at hat
  injection hat with hat
  injection hat with _ hat
  subst hat
  exact hr
section
variable {w : World} {ops : Array Oper} {rest : List Oper} {o : Oper} {a : Act} {Q : Exit → Act → World → Prop} {b n : Nat} {m : UInt8 → Nat}
theorem wpList_lookup_tally (hg : o.guard = none) (mo x : Operand) (hop : o.op = Op.lookup 98 mo x false) (hm : a.eval mo = .map (some b)) (hT : Tally w b n m) (c : UInt8) (hx : a.eval x = .int .u8 (c.toNat : Int))
    (hK : wpList Tryz.prog ops Q rest (a.put o.dst (.int .i64 (m c : Int))) w) : wpList Tryz.prog ops Q (o :: rest) a w := by
  obtain ⟨D, hown, h1, _⟩ := hT
  refine wpList_lookup_own_int _ hg mo x _ hop _ _ .i64 Tryz.law8 Tryz.underTally Tryz.underInt (Tryz.zeroInt _) b n D hm hown _ _ hx (lk_key c) ?_
  intro d hat _
  rw [(h1 c).1] at hat
  injection hat with hat
  injection hat with _ hat
  subst hat
  exact hK
theorem wpList_update_tally (hg : o.guard = none) (mo x v : Operand) (hop : o.op = Op.mapUpdate 98 mo x v) (hm : a.eval mo = .map (some b)) (hT : Tally w b n m) (c : UInt8) (hx : a.eval x = .int .u8 (c.toNat : Int)) (k : Nat) (hv : a.eval v = .int .i64 (k : Int))
    (hn : n < maxLen) (hk : k ≠ 0) (hk2 : k < 9223372036854775808)
    (hK : ∀ w', Tally w' b (n + 1) (upd m c k) → w.grownBy w' (some b) → wpList Tryz.prog ops Q rest (a.put o.dst undef) w') : wpList Tryz.prog ops Q (o :: rest) a w := by
  obtain ⟨D, hown, h1⟩ := hT
  refine wpList_mapUpdate_own _ hg mo x v _ hop _ _ Tryz.law8 Tryz.underTally _ b n D hm hown hn _ _ _ hx hv (lk_key c) _ [] (plainElem_int Tryz.underInt (wf_i64 hk2)) ?_
  intro w1 hown1 hgr
  exact hK w1 ⟨_, hown1, tally_put hown.isMap h1 c k hk⟩ hgr
theorem wpList_delete_tally (hg : o.guard = none) (mo x : Operand) (hop : o.op = Op.call { callee := Callee.builtin Builtin.delete, args := #[mo, x], argTypes := #[98, 5] }) (hm : a.eval mo = .map (some b)) (hT : Tally w b n m) (c : UInt8) (hx : a.eval x = .int .u8 (c.toNat : Int))
    (hK : ∀ w', Tally w' b n (upd m c 0) → w.grownBy w' (some b) → wpList Tryz.prog ops Q rest (a.put o.dst (.tuple #[])) w') : wpList Tryz.prog ops Q (o :: rest) a w := by
  obtain ⟨D, hown, h1⟩ := hT
  refine wpList_delete_own _ hg mo x _ _ hop _ Tryz.law8 Tryz.underTally _ b n D hm hown _ _ hx (lk_key c) ?_
  intro w1 hown1 hgr
  exact hK w1 ⟨_, hown1, tally_del h1 c⟩ hgr.grown
theorem wpList_len_tally (hg : o.guard = none) (mo : Operand) (hop : o.op = Op.call { callee := Callee.builtin Builtin.len, args := #[mo], argTypes := #[98] }) (hm : a.eval mo = .map (some b)) (hT : Tally w b n m)
    (hK : ∀ k : Nat, (k = 0 ↔ ∀ c, m c = 0) → k ≤ n → wpList Tryz.prog ops Q rest (a.put o.dst (.int .i64 (k : Int))) w) : wpList Tryz.prog ops Q (o :: rest) a w := by
  obtain ⟨D, hown, h1⟩ := hT
  exact wpList_len_own _ hg mo _ hop _ _ Tryz.underTally _ b n D hm hown (hK _ (tally_size hown h1) hown.size_le)
end
section
variable {F : Fence} {nF : Nat} {w : World} {ops : Array Oper} {rest : List Oper} {o : Oper} {a : Act} {Q : Exit → Act → World → Prop} {b n : Nat} {m : UInt8 → Nat}
theorem wpListIn_lookup_tally (hg : o.guard = none) (mo x : Operand) (hop : o.op = Op.lookup 98 mo x false) (hm : a.eval mo = .map (some b)) (hT : Tally w b n m) (c : UInt8) (hx : a.eval x = .int .u8 (c.toNat : Int))
    (hK : wpListIn F nF Tryz.prog ops Q rest (a.put o.dst (.int .i64 (m c : Int))) w) : wpListIn F nF Tryz.prog ops Q (o :: rest) a w := by
  obtain ⟨D, hown, h1, _⟩ := hT
  refine wpListIn_lookup_own_int _ hg mo x _ hop _ _ .i64 Tryz.law8 Tryz.underTally Tryz.underInt (Tryz.zeroInt _) b n D hm hown _ _ hx (lk_key c) ?_
  intro d hat _
  rw [(h1 c).1] at hat
  injection hat with hat
  injection hat with _ hat
  subst hat
  exact hK
theorem wpListIn_update_tally (hg : o.guard = none) (mo x v : Operand) (hop : o.op = Op.mapUpdate 98 mo x v) (hm : a.eval mo = .map (some b)) (hT : Tally w b n m) (c : UInt8) (hx : a.eval x = .int .u8 (c.toNat : Int)) (k : Nat) (hv : a.eval v = .int .i64 (k : Int))
    (hn : n < maxLen) (hk : k ≠ 0) (hk2 : k < 9223372036854775808)
    (hK : ∀ w', Tally w' b (n + 1) (upd m c k) → w.grownBy w' (some b) → wpListIn F nF Tryz.prog ops Q rest (a.put o.dst undef) w') : wpListIn F nF Tryz.prog ops Q (o :: rest) a w := by
  obtain ⟨D, hown, h1⟩ := hT
  refine wpListIn_mapUpdate_own _ hg mo x v _ hop _ _ Tryz.law8 Tryz.underTally _ b n D hm hown hn _ _ _ hx hv (lk_key c) _ [] (plainElem_int Tryz.underInt (wf_i64 hk2)) ?_
  intro w1 hown1 hgr
  exact hK w1 ⟨_, hown1, tally_put hown.isMap h1 c k hk⟩ hgr
end

/-- A range over a tally is under way: who is still to come, and how many. -/
def Under (w : World) (b r n : Nat) (m : UInt8 → Nat) (left : UInt8 → Bool) (cnt : Nat) : Prop :=
  ∃ (D : DataW Unit) (lf : Lit → Bool), w.ranges Tryz.prog 5 (plainElem Tryz.prog 3) b r n D lf cnt ∧ ((∀ c, D.atKey (lk c) (.lit (.int .i64 0)) = .lit (.int .i64 (m c : Int)) ∧ Maps.has D (lk c) = decide (m c ≠ 0)) ∧ ∀ kl, Maps.has D kl = true → ∃ c, kl = lk c) ∧ ∀ c, left c = lf (lk c)
theorem Under.tally {w : World} {b r n cnt : Nat} {m : UInt8 → Nat} {left : UInt8 → Bool} (h : Under w b r n m left cnt) : Tally w b n m := by
  obtain ⟨D, lf, h1, h2, _⟩ := h
  exact ⟨D, h1.owns, h2⟩
theorem Under.lt {w : World} {b r n cnt : Nat} {m : UInt8 → Nat} {left : UInt8 → Bool} (h : Under w b r n m left cnt) : r < w.heap.size := by
  obtain ⟨D, lf, h1, h2, _⟩ := h
  exact h1.lt
theorem Under.ne {w : World} {b r n cnt : Nat} {m : UInt8 → Nat} {left : UInt8 → Bool} (h : Under w b r n m left cnt) : r ≠ b := by
  obtain ⟨D, lf, h1, h2, _⟩ := h
  exact h1.ne
theorem Under.left_eq {w : World} {b r n cnt : Nat} {m : UInt8 → Nat} {left : UInt8 → Bool} (h : Under w b r n m left cnt) : w.rangeLeft b r = cnt := by
  obtain ⟨D, lf, h1, h2, _⟩ := h
  exact h1.left_eq
theorem Under.kept {w w' : World} {row : Option Nat} {b r n cnt : Nat} {m : UInt8 → Nat} {left : UInt8 → Bool} (h : Under w b r n m left cnt) (hg : w.grownBy w' row) (h1 : some b ≠ row) (h2 : some r ≠ row) : Under w' b r n m left cnt := by
  obtain ⟨D, lf, k1, k2⟩ := h
  exact ⟨D, lf, k1.kept hg h1 h2, k2⟩
section
variable {w : World} {ops : Array Oper} {rest : List Oper} {o : Oper} {a : Act} {Q : Exit → Act → World → Prop} {b n : Nat} {m : UInt8 → Nat}
theorem wpList_range_tally (hg : o.guard = none) (mo : Operand) (hop : o.op = Op.range 98 mo) (hm : a.eval mo = .map (some b)) (hT : Tally w b n m)
    (hK : ∀ w' cnt, Under w' b w.heap.size n m (fun c => decide (m c ≠ 0)) cnt → cnt ≤ n → w.grownBy w' none → w'.heap.size = w.heap.size + 1 → wpList Tryz.prog ops Q rest (a.put o.dst (.pointer (some ⟨w.heap.size, 0, none⟩))) w') : wpList Tryz.prog ops Q (o :: rest) a w := by
  obtain ⟨D, hown, h1⟩ := hT
  refine wpList_range_own _ hg mo _ hop _ _ Tryz.law8 Tryz.underTally _ b n D hm hown ?_
  intro w' hr hgr hsz
  exact hK w' _ ⟨D, _, hr, h1, fun c => ((h1.1 c).2).symm⟩ hown.size_le hgr hsz
theorem wpList_next_tally (hg : o.guard = none) (it : Operand) (hop : o.op = Op.next it false) {r cnt : Nat} {left : UInt8 → Bool} (hit : a.eval it = .pointer (some ⟨r, 0, none⟩)) (h : Under w b r n m left cnt)
    (hDone : (∀ c, left c = false) → wpList Tryz.prog ops Q rest (a.put o.dst (.tuple #[.bool false])) w)
    (hMore : ∀ (c : UInt8) (w' : World) (cnt' : Nat), left c = true → m c ≠ 0 → Under w' b r n m (fun x => left x && !decide (x = c)) cnt' → cnt' < cnt → w.grownBy w' (some r) → w'.heap.size = w.heap.size →
      (Instr.entry (.pointer (some ⟨r, 0, none⟩))).run Tryz.prog w' = .ok (.tuple #[.int .u8 (c.toNat : Int), .int .i64 (m c : Int)]) w' → wpList Tryz.prog ops Q rest (a.put o.dst (.tuple #[.bool true, .int .u8 (c.toNat : Int), .int .i64 (m c : Int)])) w') :
    wpList Tryz.prog ops Q (o :: rest) a w := by
  obtain ⟨D, lf, hr, h1, hl⟩ := h
  refine wpList_next_ranges_ii _ hg it hop _ _ .u8 .i64 Tryz.law8 Tryz.under8 Tryz.underInt b r n D lf cnt hit hr ?_ ?_
  · intro _ h0
    exact hDone (fun c => (hl c).trans (h0 _))
  · intro x d w1 cnt1 hwx hwd hlx hat hr1 hlt hgr hsz hen
    obtain ⟨c, hc, rfl⟩ := lk_of_wf hwx
    have hd := (h1.1 c).1
    rw [hat] at hd
    injection hd with hd
    injection hd with _ hd
    subst hd
    have hh := Maps.has_true_of_atKey hat
    have hm0 : m c ≠ 0 := by
      have := (h1.1 c).2
      rw [hh] at this
      simpa using this.symm
    refine hMore c w1 cnt1 ((hl c).trans hlx) hm0 ⟨D, _, hr1, h1, fun y => ?_⟩ hlt hgr hsz hen
    show (left y && !decide (y = c)) = (lf (lk y) && !(lk y).sameKey (lk c))
    rw [hl y]
    by_cases e : y = c
    · subst e
      simp [WideAt.sameKey_self (lk_isKey y)]
    · simp [Maps.sameKey_ne (fun h => e (lk_inj h)), e]
end
end Go.Proofs.YtjfhncfbejephaaGreatDoor

/- The program's names that a term binds; adding tallies; the names of a tally in order. -/
namespace Go.Proofs.YtjfhncfbejephaaGreatDoor
open Go.RowKit
open Ff
set_option linter.unusedVariables false

def isLet : Tm → Bool
  | .bind _ _ _ => true | _ => false
def letV : Tm → Value
  | .bind c v b => pl (.bind c v b) | _ => .agg #[.int .u8 0, .nilIface, .nilIface]
theorem ta_let (t : Tm) (w : World) : (Instr.typeAssert (.iface (ty t) (pl t)) 63 146 true).run Tryz.prog w = .ok (.tuple #[letV t, .bool (isLet t)]) w := by
  cases t <;> kernel_rfl
/-- A name as a value. -/
abbrev bv (c : UInt8) : Value := .int .u8 (c.toNat : Int)

set_option maxHeartbeats 1000000 in
theorem boundBy_none (t : Tm) (h1 : isFun t = false) (h2 : isLet t = false) (w : World) :
    Calls Tryz.prog 53 #[enc t] w fun e w' => e = .returned (.slice none 0 0) ∧ w' = w := by
  have a1 := ta_fun t
  have a2 := ta_let t
  rw [h1] at a1
  rw [h2] at a2
  rw [enc_ty t]
  clear h1 h2
  go_enter Tryz.func53, Tryz.ntmps53
  go_wp2_with fail
  go_ret
  exact ⟨rfl, rfl⟩
set_option maxHeartbeats 1000000 in
theorem boundBy_fn (c : UInt8) (b : Tm) (w : World) :
    Calls Tryz.prog 53 #[enc (.fn c b)] w fun e w' => ∃ o, e = .returned (.slice (some ⟨w.heap.size + 1, 0, none⟩) 1 1) ∧ w' = (w.alloc o).alloc (.cells [bv c].toArray 5) := by
  have a1 := ta_fun (.fn c b)
  obtain ⟨n, v, hv⟩ := enc_gen b
  simp only [ty, pl, funV, isFun, hv] at a1
  simp only [enc, hv]
  go_enter Tryz.func53, Tryz.ntmps53
  go_wp2_with fail
  go_ret
  exact ⟨_, rfl, rfl⟩
set_option maxHeartbeats 1000000 in
theorem boundBy_fix (f c : UInt8) (b : Tm) (hf : f.toNat ≠ 0) (w : World) :
    Calls Tryz.prog 53 #[enc (.fix f c b)] w fun e w' => ∃ o, e = .returned (.slice (some ⟨w.heap.size + 1, 0, none⟩) 2 2) ∧ w' = (w.alloc o).alloc (.cells [bv f, bv c].toArray 5) := by
  have a1 := ta_fun (.fix f c b)
  obtain ⟨n, v, hv⟩ := enc_gen b
  simp only [ty, pl, funV, isFun, hv] at a1
  simp only [enc, hv]
  have b1 : ((f.toNat : Int) == 0) = false := by simp; omega
  go_enter Tryz.func53, Tryz.ntmps53
  go_wp2_with fail
  go_ret
  exact ⟨_, rfl, rfl⟩
set_option maxHeartbeats 1000000 in
theorem boundBy_bind (c : UInt8) (x b : Tm) (w : World) :
    Calls Tryz.prog 53 #[enc (.bind c x b)] w fun e w' => ∃ o, e = .returned (.slice (some ⟨w.heap.size + 1, 0, none⟩) 1 1) ∧ w' = (w.alloc o).alloc (.cells [bv c].toArray 5) := by
  have a1 := ta_fun (.bind c x b)
  have a2 := ta_let (.bind c x b)
  obtain ⟨n, v, hv⟩ := enc_gen b
  obtain ⟨n2, v2, hv2⟩ := enc_gen x
  simp only [ty, pl, funV, isFun, hv, hv2] at a1
  simp only [ty, pl, letV, isLet, hv, hv2] at a2
  simp only [enc, hv, hv2]
  go_enter Tryz.func53, Tryz.ntmps53
  go_wp2_with fail
  go_ret
  exact ⟨_, rfl, rfl⟩
theorem boundBy_c (t : Tm) (hgd : t.good) (w : World) :
    Calls Tryz.prog 53 #[enc t] w fun e w' => ∃ v, e = .returned v ∧ SliceOf w.heap.size w' v ((bindsOf t).map bv) ∧ Below w.heap.size w w' := by
  have none : ∀ s : Tm, isFun s = false → isLet s = false → bindsOf s = [] → Calls Tryz.prog 53 #[enc s] w fun e w' => ∃ v, e = .returned v ∧ SliceOf w.heap.size w' v ((bindsOf s).map bv) ∧ Below w.heap.size w w' := fun s h1 h2 h3 =>
    (boundBy_none s h1 h2 w).mono (by rintro e w' ⟨rfl, rfl⟩; exact ⟨_, rfl, .inl ⟨by rw [h3]; rfl, rfl⟩, Below.refl _ _⟩)
  cases t with
  | fn c b => exact (boundBy_fn c b w).mono (by rintro e w' ⟨o, rfl, rfl⟩; exact ⟨_, rfl, slice_new w o [bv c] _ (by simp), below_two w _ _⟩)
  | fix f c b =>
    have hf : f.toNat ≠ 0 := by
      have := hgd.1
      simp only [isNam, Bool.and_eq_true, decide_eq_true_eq] at this
      omega
    exact (boundBy_fix f c b hf w).mono (by rintro e w' ⟨o, rfl, rfl⟩; exact ⟨_, rfl, slice_new w o [bv f, bv c] _ (by simp), below_two w _ _⟩)
  | bind c x b => exact (boundBy_bind c x b w).mono (by rintro e w' ⟨o, rfl, rfl⟩; exact ⟨_, rfl, slice_new w o [bv c] _ (by simp), below_two w _ _⟩)
  | _ => exact none _ rfl rfl rfl

set_option maxRecDepth 100000 in
set_option maxHeartbeats 2000000 in
theorem add_c (b bm n0 nm : Nat) (m0 mm : UInt8 → Nat) (w : World) (hb : Tally w b n0 m0) (hbm : Tally w bm nm mm) (hne : b ≠ bm) (hn : n0 + nm ≤ 1000000) (hs : ∀ c, m0 c + mm c ≤ 1000000) :
    Calls Tryz.prog 54 #[.map (some b), .map (some bm)] w fun e w' => e = .returned (.tuple #[]) ∧ Tally w' b (n0 + nm) (fun c => m0 c + mm c) ∧ w.grownBy w' (some b) := by
  have hbl := hb.lt
  go_enter Tryz.func54, Tryz.ntmps54
  go_wp2_with (first
    | (at_range; refine wpList_range_tally rfl _ rfl rfl hbm ?_; intro w0 cnt0 hu0 hc0 hg0 hs0)
    | go_in)
  go_frame
  go_loopw [4] (fun _ wr => ∃ left cnt n', Under wr bm w.heap.size nm mm left cnt ∧ Tally wr b n' (fun c => m0 c + if left c = true then 0 else mm c) ∧ n' + cnt ≤ n0 + nm ∧ w.grownBy wr (some b))
    (fun _ wr => wr.rangeLeft bm w.heap.size)
  case atStart =>
    refine ⟨_, cnt0, n0, hu0, (hb.kept hg0 (by simp)).congr (fun c => ?_), by omega, hg0.but _⟩
    by_cases e : mm c = 0
    · simp [e]
    · simp [e]
  case round =>
    obtain ⟨left, cnt, n', hu, ht, hnc, hgr⟩ := hrel
    go_wp2_with (first
      | (at_next; refine wpList_next_tally rfl _ rfl rfl hu ?_ ?_)
      | go_in)
    · intro hl0
      go_wp2
      go_end0
      exact ⟨rfl, (ht.mono (by omega)).congr (fun c => by simp [hl0 c]), hgr⟩
    · intro c w1 cnt1 hlc hmc hu1 hlt hg1 hs1 hen
      have hul := hu.lt
      have hsz := hgr.size
      have ht1 := ht.kept hg1 (fun e => by have := Option.some.inj e; omega)
      have hv : m0 c + (if left c = true then 0 else mm c) = m0 c := by simp [hlc]
      have hsc := hs c
      go_wp2_with (first
        | (at_lookup; refine wpList_lookup_tally rfl _ _ rfl rfl ht1 c rfl ?_; rw [hv])
        | (at_mapUpdate; refine wpList_update_tally rfl _ _ _ rfl rfl ht1 c rfl (m0 c + mm c) (by go_num) (by unfold maxLen; omega) (by omega) (by omega) ?_; intro w2 ht2 hg2; go_frame)
        | go_in)
      have hu2 := hu1.kept hg2 (fun e => hne (Option.some.inj e).symm) (fun e => by have := Option.some.inj e; omega)
      go_roundw
      case rel =>
        refine ⟨_, cnt1, n' + 1, hu2, ht2.congr (fun x => ?_), by omega, (hgr.andThen hg1 (fun j hj => by cases hj; exact .inl (Nat.le_refl _))).andThen hg2 (fun j hj => Or.inr (hj ▸ rfl))⟩
        by_cases e : x = c
        · subst e; simp [upd]
        · simp [upd, e]
      case measure => rw [hu2.left_eq, hu.left_eq]; exact hlt
end Go.Proofs.YtjfhncfbejephaaGreatDoor

/- The program's names of a tally, in order. -/
namespace Go.Proofs.YtjfhncfbejephaaGreatDoor
open Go.RowKit
open Ff
set_option linter.unusedVariables false

theorem Tryz.info8 : (Tryz.prog.info? 5).map (fun i => (i.zero, i.size, i.bytes)) = some (some (.int .u8 0), 1, 1) := by kernel_rfl
/-- A string out of a slice of bytes that the call owns. -/
theorem str_own {W : World} {B n : Nat} {v : Value} {s : Text} (h : W.ownsRow B 5 1 v n (s.map bv)) : (convert 22 9 v).run Tryz.prog W = .ok (.string ⟨s.toArray⟩) W := by
  have hl := h.1
  rw [List.length_map, Nat.mul_one] at hl
  have hc := fun g hg => h.cells (g := g) hg
  rcases h.2 with ⟨rfl, rfl⟩ | ⟨g, cap, cur, rfl, _⟩
  · obtain rfl : s = [] := List.length_eq_zero_iff.1 hl
    rw [run_convert_bytes_string W _ _ 5 none 0 0 Tryz.underlying22 Tryz.underlying5 Tryz.underlying9]
    rfl
  · rw [← hl]
    refine run_convert_bytes_back W _ _ 5 ⟨g, 0, none⟩ cap s Tryz.underlying22 Tryz.underlying5 Tryz.underlying9 (fun j hj => ?_)
    exact hc g rfl j _ (by simp [List.getElem?_eq_getElem hj])
/-- The names of a tally among the first k letters. -/
def ordTo (m : UInt8 → Nat) (k : Nat) : Text := (letters.take k).filter (fun c => decide (m c ≠ 0))
theorem ord_succ (m : UInt8 → Nat) (k : Nat) (c : UInt8) (h : letters[k]? = some c) : ordTo m (k + 1) = ordTo m k ++ (if m c ≠ 0 then [c] else []) := by
  unfold ordTo
  rw [List.take_add_one, h]
  simp only [Option.toList_some, List.filter_append, List.append_cancel_left_eq]
  by_cases h2 : m c = 0 <;> simp [h2]
theorem ord_len (m : UInt8 → Nat) (k : Nat) : (ordTo m k).length ≤ k := Nat.le_trans (List.length_filter_le _ _) (by simp; omega)

end Go.Proofs.YtjfhncfbejephaaGreatDoor

/- The program's freeIn: how often each name stands free. -/
namespace Go.Proofs.YtjfhncfbejephaaGreatDoor
open Go.RowKit
open Ff
set_option linter.unusedVariables false

def isVar : Tm → Bool
  | .var _ => true | _ => false
def varV : Tm → Value
  | .var c => pl (.var c) | _ => .agg #[.int .u8 0]
theorem ta_var (t : Tm) (w : World) : (Instr.typeAssert (.iface (ty t) (pl t)) 63 122 true).run Tryz.prog w = .ok (.tuple #[varV t, .bool (isVar t)]) w := by
  cases t <;> kernel_rfl
theorem ta_novar (t : Tm) (h : isVar t = false) (w : World) : (Instr.typeAssert (.iface (ty t) (pl t)) 63 122 true).run Tryz.prog w = .ok (.tuple #[.agg #[.int .u8 0], .bool false]) w := by
  have a := ta_var t w
  cases t with
  | var c => simp [isVar] at h
  | _ => exact a
/-- What of a kid's number counts for the term. -/
def share (t : Tm) (k : Nat) (s : Tm) (j : Nat) : UInt8 → Nat := fun x => if k + 1 = t.kids.length ∧ x ∈ (bindsOf t).take j then 0 else cntF s x
theorem share_zero (t : Tm) (k : Nat) (s : Tm) (x : UInt8) : share t k s 0 x = cntF s x := by simp [share]
theorem share_not (t : Tm) (k : Nat) (s : Tm) (h : k + 1 ≠ t.kids.length) (j : Nat) (x : UInt8) : share t k s j x = cntF s x := by simp [share, h]
theorem share_all (t : Tm) (k : Nat) (s : Tm) (h : t.kids[k]? = some s) (x : UInt8) : cntTo t k x + share t k s (bindsOf t).length x = cntTo t (k + 1) x := by
  rw [cntTo_succ t k s h, share, List.take_length]
theorem share_succ (t : Tm) (k : Nat) (s : Tm) (hk : k + 1 = t.kids.length) (j : Nat) (c : UInt8) (hc : (bindsOf t)[j]? = some c) (x : UInt8) : upd (share t k s j) c 0 x = share t k s (j + 1) x := by
  unfold share upd
  rw [List.take_add_one, hc]
  by_cases e : x = c
  · subst e; simp [hk]
  · simp [hk, e]
theorem share_le (t : Tm) (k : Nat) (s : Tm) (j : Nat) (x : UInt8) : share t k s j x ≤ cntF s x := by
  unfold share; split <;> omega
theorem cntTo_le (t : Tm) (x : UInt8) : ∀ k, cntTo t k x + 1 ≤ (before t k).length
  | 0 => by simp [cntTo, before]
  | k + 1 => by
    have ih := cntTo_le t x k
    rcases h : t.kids[k]? with _ | s
    · have e1 : cntTo t (k + 1) x = cntTo t k x := by simp [cntTo, h]
      have e2 : before t (k + 1) = before t k := by unfold before; rw [List.take_add_one, h]; simp
      rw [e1, e2]; exact ih
    · rw [cntTo_succ t k s h, before_succ t k s h, List.length_append]
      have := cnt_le s x
      split <;> omega
theorem below_grown {A B : World} (h : Below A.heap.size A B) : A.grownBy B none := ⟨h.os, h.tape, h.output, h.size, fun j hj _ => h.block j hj⟩
def FreeInC (n : Nat) : Prop := ∀ (t : Tm) (w : World), t.depth ≤ n → n ≤ 4000 → (parts t).length ≤ 4000 → t.good →
  Calls Tryz.prog 38 #[enc t] w fun e w' => ∃ b k, e = .returned (.map (some b)) ∧ w.heap.size ≤ b ∧ k ≤ (parts t).length ∧ Tally w' b k (cntF t) ∧ Below w.heap.size w w'

set_option maxRecDepth 100000 in
set_option maxHeartbeats 2000000 in
theorem freeIn_var (c : UInt8) (w : World) :
    Calls Tryz.prog 38 #[enc (.var c)] w fun e w' => ∃ b k, e = .returned (.map (some b)) ∧ w.heap.size ≤ b ∧ k ≤ (parts (.var c)).length ∧ Tally w' b k (cntF (.var c)) ∧ Below w.heap.size w w' := by
  have hmm := @run_makeMap Tryz.prog
  have a0 := ta_var (.var c)
  simp only [ty, pl, varV, isVar] at a0
  simp only [enc]
  go_enter Tryz.func38, Tryz.ntmps38
  go_wp2_with (first
    | (at_mapUpdate; refine wpList_update_tally rfl _ _ _ rfl rfl ((tally_made w).alloc _) c rfl 1 rfl (by decide) (by decide) (by decide) ?_; intro w2 ht2 hg2)
    | go_in)
  go_ret
  exact ⟨_, _, rfl, Nat.le_refl _, by simp [parts], ht2.congr (fun x => by simp [upd, cntF]), (((Below.refl _ w).alloc (Nat.le_refl _) _).alloc (by simp) _).grown hg2 (by simp; omega) (fun j hj => by cases hj; exact Nat.le_refl _)⟩

set_option maxRecDepth 100000 in
set_option maxHeartbeats 4000000 in
theorem freeIn_rest (n : Nat) (ih : FreeInC n) (t : Tm) (w : World) (ht : t.depth ≤ n + 1) (hn : n + 1 ≤ 4000) (hp : (parts t).length ≤ 4000) (hgd : t.good) (hv : isVar t = false) :
    Calls Tryz.prog 38 #[enc t] w fun e w' => ∃ b k, e = .returned (.map (some b)) ∧ w.heap.size ≤ b ∧ k ≤ (parts t).length ∧ Tally w' b k (cntF t) ∧ Below w.heap.size w w' := by
  have hmm := @run_makeMap Tryz.prog
  have a0 := ta_novar t hv
  have hkl : t.kids.length ≤ 3 := by cases t <;> simp [Tm.kids]
  have hkind : kindOf t ≠ 118 := by
    cases t with
    | var c => simp [isVar] at hv
    | op s l r => have := hgd.1; rcases this with h | h | h <;> subst h <;> simp [kindOf]
    | _ => simp [kindOf]
  have KB := boundBy_c t hgd
  rw [enc_ty t] at KB ⊢
  go_enter Tryz.func38, Tryz.ntmps38
  go_wp2_with (refine wpList_invoke rfl _ _ (ty t) (pl t) rfl rfl (kf t) (kids_m t _ (by unfold KidsName; kernel_rfl) _) (kids_f t _) (fun v w' => SliceOf ((w.alloc (.map #[] 0)).alloc (.cells #[.int .u8 0] 122)).heap.size w' v (t.kids.map enc) ∧ Below ((w.alloc (.map #[] 0)).alloc (.cells #[.int .u8 0] 122)).heap.size ((w.alloc (.map #[] 0)).alloc (.cells #[.int .u8 0] 122)) w') (kids_c t _) ?_; rintro x w1 ⟨hs, hb⟩; obtain ⟨a, rfl, hcell⟩ := hs.uni; clear hs; have HC := Lib.hid hcell; clear hcell)
  have hT0 : Tally w1 w.heap.size 0 (cntTo t 0) := ((tally_made w).alloc _).below hb
  have hB0 : Below w.heap.size w w1 := (((Below.refl _ w).alloc (Nat.le_refl _) _).alloc (by simp) _).trans (hb.mono (by simp; omega))
  have hsz0 : w.heap.size + 2 ≤ w1.heap.size := by have := hb.size; simp at this; omega
  clear hb
  obtain ⟨W1, hW1⟩ : ∃ W1, w1 = W1 := ⟨_, rfl⟩
  subst hW1
  go_loopw [27] (fun i wr => ∃ k nf : Nat, k ≤ t.kids.length ∧ i = .int .i64 k ∧ nf + 1 ≤ (before t k).length ∧ Tally wr w.heap.size nf (cntTo t k) ∧ w1.grownBy wr (some w.heap.size)) (fun i _ => t.kids.length - (intOf i).toNat)
  case atStart => exact ⟨0, 0, Nat.zero_le _, rfl, by simp [before], hT0, World.grownBy.refl _ _⟩
  case round =>
    obtain ⟨k, nf, hkl2, rfl, hnf, hT, hG⟩ := hrel
    have hsz1 : w.heap.size + 2 ≤ w1.heap.size := hsz0
    have hszr := hG.size
    by_cases hlt : k < t.kids.length
    · obtain ⟨s, hs⟩ : ∃ s, t.kids[k]? = some s := ⟨_, List.getElem?_eq_getElem hlt⟩
      obtain ⟨g, rfl, hg1, hg2, hc⟩ := HC.out k (enc s) (by simp [hs])
      have hc2 := hG.cell (a := ⟨g, k, none⟩) hc (by simp at hg1 ⊢; omega)
      have hmem := List.mem_of_getElem? hs
      have hps := parts_kid_le hmem
      have hbs := before_succ t k s hs
      have hbl := before_le t (k + 1)
      have hbe : (before t (k + 1)).length = (before t k).length + (parts s).length := by rw [hbs, List.length_append]
      have C := ih s wr (by have := kid_depth hmem; omega) (by omega) (by omega) (Tm.kid_good hgd hmem)
      have hcs := fun x => share_all t k s hs x
      have HS := Lib.hid hcs
      have hall : ∀ x, cntTo t k x + share t k s (bindsOf t).length x ≤ 1000000 := fun x => by
        rw [hcs x]
        have := cntTo_le t x (k + 1)
        omega
      have HA := Lib.hid hall
      have hbk : (before t k).length ≤ 4000 := by omega
      clear hs hc HC hbs hmem hcs hall
      by_cases hlast : k + 1 = t.kids.length
      · go_wp2_with (first
          | (go_at_call 38; refine C.mono ?_; clear C; rintro e w2 ⟨bw, nw, rfl, hbw, hnw, hTw, hb2⟩)
          | (go_at_call 53; refine (KB w2).mono ?_; rintro e w3 ⟨v, rfl, hsv, hb3⟩; obtain ⟨a3, rfl, hcell3⟩ := hsv.uni; have HC3 := Lib.hid hcell3; clear hcell3 hsv))
        have hl2 := hTw.lt
        have hg12 := (hG.andThen (below_grown hb2) (fun j hj => by cases hj)).andThen (below_grown hb3) (fun j hj => by cases hj)
        obtain ⟨W3, hW3⟩ : ∃ W3, w3 = W3 := ⟨_, rfl⟩
        subst hW3
        go_loopw [42] (fun i wj => ∃ j : Nat, j ≤ (bindsOf t).length ∧ i = .int .i64 j ∧ Tally wj bw nw (share t k s j) ∧ w3.grownBy wj (some bw)) (fun i _ => (bindsOf t).length - (intOf i).toNat)
        case atStart => exact ⟨0, Nat.zero_le _, rfl, (hTw.below hb3).congr (fun x => (share_zero t k s x).symm), World.grownBy.refl _ _⟩
        case round =>
          obtain ⟨j, hj, rfl, hTj, hGj⟩ := hrel
          by_cases hltj : j < (bindsOf t).length
          · have hb2l := binds_len t
            obtain ⟨c, hc⟩ : ∃ c, (bindsOf t)[j]? = some c := ⟨_, List.getElem?_eq_getElem hltj⟩
            obtain ⟨g3, rfl, hg31, hg32, hc3⟩ := HC3.out j (bv c) (by simp [hc])
            have hc4 := hGj.cell (a := ⟨g3, j, none⟩) hc3 (by simp; omega)
            have hsh := fun x => share_succ t k s hlast j c hc x
            have HH := Lib.hid hsh
            clear hsh hc hc3 HC3
            go_wp2_with (at_delete; refine wpList_delete_tally rfl _ _ rfl rfl hTj c rfl ?_; intro w4 hT4 hg4; go_frame)
            exact ⟨⟨j + 1, by omega, by go_num, hT4.congr HH.out, hGj.andThen hg4 (fun j hj => Or.inr hj)⟩, by simp [intOf]; omega⟩
          · obtain rfl : j = (bindsOf t).length := by simp at hj hltj; omega
            have hT3 := (((hT.below hb2).below hb3).kept hGj (by simp; omega))
            go_wp2_with (go_at_call 54; refine (add_c w.heap.size bw nf nw (cntTo t k) (share t k s (bindsOf t).length) _ hT3 hTj (by omega) (by omega) HA.out).mono ?_; rintro e w5 ⟨rfl, hT5, hg5⟩)
            refine ⟨⟨k + 1, nf + nw, by omega, by go_num, by omega, hT5.congr HS.out, (hg12.andThen hGj (fun j hj => by cases hj; exact Or.inl (by omega))).andThen hg5 (fun j hj => Or.inr hj)⟩, by simp [intOf]; omega⟩
      · go_wp2_with (first
          | (go_at_call 38; refine C.mono ?_; clear C; rintro e w2 ⟨bw, nw, rfl, hbw, hnw, hTw, hb2⟩)
          | (go_at_call 54; refine (add_c w.heap.size bw nf nw (cntTo t k) (share t k s (bindsOf t).length) w2 (hT.below hb2) (hTw.congr (fun x => (share_not t k s hlast _ x).symm)) (by omega) (by omega) HA.out).mono ?_; rintro e w5 ⟨rfl, hT5, hg5⟩))
        refine ⟨⟨k + 1, nf + nw, by omega, by go_num, by omega, hT5.congr HS.out, (hG.andThen (below_grown hb2) (fun j hj => by cases hj)).andThen hg5 (fun j hj => Or.inr hj)⟩, by simp [intOf]; omega⟩
    · obtain rfl : k = t.kids.length := by omega
      have hk := hnf
      rw [before_all] at hk
      go_wp2_with fail
      go_ret
      exact ⟨_, nf, rfl, Nat.le_refl _, by omega, hT.congr (fun x => (cnt_kids t hkind x).symm), hB0.grown hG hB0.size (fun j hj => by cases hj; exact Nat.le_refl _)⟩
theorem freeIn_c : ∀ n, FreeInC n
  | 0 => fun t _ ht => absurd ht (by have := t.depth_pos; omega)
  | n + 1 => by
    intro t w ht hn hp hgd
    cases hv : isVar t with
    | true =>
      cases t with
      | var c => exact freeIn_var c w
      | _ => simp [isVar] at hv
    | false => exact freeIn_rest n (freeIn_c n) t w ht hn hp hgd hv
end Go.Proofs.YtjfhncfbejephaaGreatDoor

/- FreeOf, IsClosed: the model's and the program's. -/
namespace Go.Proofs.YtjfhncfbejephaaGreatDoor
open Go.RowKit
open Ff
set_option linter.unusedVariables false

/-- A text and whether there is one, of a term that is read. -/
def txtP (f : Tm → Text) (o : Option Tm) : Value := match o with
  | some t => .tuple #[.string ⟨(f t).toArray⟩, .bool true]
  | none => .tuple #[.string ⟨#[]⟩, .bool false]
theorem txtP_shape (f : Tm → Text) (o : Option Tm) : ∃ (s : ByteArray) (b : Bool), txtP f o = .tuple #[.string s, .bool b] := by
  cases o <;> exact ⟨_, _, rfl⟩

def closedB (o : Option Tm) : Bool := match o with | some t => decide (sfree t = []) | none => false
theorem str_nil (t : Text) : ((⟨t.toArray⟩ : ByteArray) == ⟨#[]⟩) = decide (t = []) := by
  cases t with
  | nil => rfl
  | cons c r => rfl
set_option maxRecDepth 100000 in
set_option maxHeartbeats 1000000 in
theorem sIsClosed_c (s : Text) (w : World) (hl : s.length ≤ 9223372036854775807) :
    Calls Tryz.prog 36 #[.string ⟨s.toArray⟩] w fun e w' => e = .returned (.bool (closedB (readS s))) ∧ Below w.heap.size w w' := by
  have C := sread_c s w hl
  go_enter Tryz.func36, Tryz.ntmps36
  go_wp2_with fail
  refine C.mono ?_
  clear C
  rcases hr : readS s with _ | t
  · rintro e w1 ⟨rfl, hb1⟩
    have HR := Lib.hid hr
    clear hr
    unfold zeroTm
    go_wp2_with fail
    go_ret
    exact ⟨by rw [HR.out]; rfl, hb1.alloc hb1.size _⟩
  · rintro e w1 ⟨v, rfl, hb1, hrep⟩
    have hd := readS_depth hr
    have hgd := readS_good hr
    have HR := Lib.hid hr
    clear hr
    obtain ⟨x, y, st, aa, l, cc, rfl⟩ := hrep.junk
    have D := free_c 4000 t w1.heap.size _ (w1.alloc (.cells #[.int .u8 x, .int .i64 y, .string st, .slice aa l cc] 78)) (by omega) (by omega) (hrep.keep (fun g' hg' => Below.heap_alloc _ _ _ hg'.2) (fun g' hg' => hg'.2)) (by simp) hgd
    clear hrep
    go_wp2_with (go_at_call 45; refine D.mono ?_; clear D; rintro e w2 ⟨rfl, hb2⟩)
    go_ret
    exact ⟨by rw [HR.out, closedB]; cases sfree t <;> rfl, (hb1.alloc hb1.size _).trans (hb2.mono (by have := hb1.size; simp; omega))⟩
end Go.Proofs.YtjfhncfbejephaaGreatDoor

/- Is a term a function: the program's answer. -/
namespace Go.Proofs.YtjfhncfbejephaaGreatDoor
open Go.RowKit
open Ff
set_option linter.unusedVariables false
attribute [local go_sem] Oper.semAt_some

theorem funV_shape (t : Tm) : ∃ (a b : Int), funV t = .agg #[.int .u8 a, .int .u8 b, .nilIface] ∨ ∃ n v, funV t = .agg #[.int .u8 a, .int .u8 b, .iface n v] := by
  cases t with
  | fn c b => obtain ⟨n, v, hv⟩ := enc_gen b; exact ⟨0, c.toNat, .inr ⟨n, v, by simp only [funV, pl, hv]⟩⟩
  | fix f c b => obtain ⟨n, v, hv⟩ := enc_gen b; exact ⟨f.toNat, c.toNat, .inr ⟨n, v, by simp only [funV, pl, hv]⟩⟩
  | _ => exact ⟨0, 0, .inl rfl⟩
theorem isFunction_c (t : Tm) (w : World) :
    Calls Tryz.prog 64 #[.iface (ty t) (pl t)] w fun e w' => e = .returned (.bool (isFun t)) ∧ Below w.heap.size w w' := by
  have a1 := ta_fun t
  obtain ⟨a, b, hs | ⟨n, v, hs⟩⟩ := funV_shape t
  all_goals
    rw [hs] at a1
    clear hs
    generalize isFun t = f at a1 ⊢
    go_enter Tryz.func64, Tryz.ntmps64
    go_wp2_with fail
    go_ret
    exact ⟨rfl, (Below.refl _ w).alloc (Nat.le_refl _) _⟩
end Go.Proofs.YtjfhncfbejephaaGreatDoor
