/- How often a name stands free in a term; which names. No program in sight. -/
import Derived.Test.YtdedhejpbnfnaaaFreeC
import Derived.Test.YtdedhejpbnfnaaaEach
namespace Go.Proofs.Ytdedhejpbnfnaaa
open Ff
set_option linter.unusedVariables false

/-- How often a name stands free. -/
def cntF : Tm → UInt8 → Nat
  | .num _, _ => 0
  | .var c, x => if x = c then 1 else 0
  | .fn c b, x => if x ∈ [c] then 0 else cntF b x
  | .fix f c b, x => if x ∈ [f, c] then 0 else cntF b x
  | .app f a, x => cntF f x + cntF a x
  | .bind c v b, x => cntF v x + (if x ∈ [c] then 0 else cntF b x)
  | .op _ l r, x => cntF l x + cntF r x
  | .sel a b c, x => cntF a x + cntF b x + cntF c x
/-- The names that a term itself binds. -/
def bindsOf : Tm → Text
  | .fn c _ => [c]
  | .fix f c _ => [f, c]
  | .bind c _ _ => [c]
  | _ => []
theorem binds_len (t : Tm) : (bindsOf t).length ≤ 2 := by cases t <;> simp [bindsOf]
/-- How often in the first k kids, those names struck that the term binds. -/
def cntTo (t : Tm) : Nat → UInt8 → Nat
  | 0, _ => 0
  | k + 1, x => cntTo t k x + (match t.kids[k]? with | some s => if k + 1 = t.kids.length ∧ x ∈ bindsOf t then 0 else cntF s x | none => 0)
theorem cnt_kids (t : Tm) (h : kindOf t ≠ 118) (x : UInt8) : cntF t x = cntTo t t.kids.length x := by
  cases t with
  | var c => simp [kindOf] at h
  | _ => simp [cntF, cntTo, Tm.kids, bindsOf]
theorem cntTo_succ (t : Tm) (k : Nat) (s : Tm) (h : t.kids[k]? = some s) (x : UInt8) : cntTo t (k + 1) x = cntTo t k x + (if k + 1 = t.kids.length ∧ x ∈ bindsOf t then 0 else cntF s x) := by
  simp only [cntTo, h]
theorem cnt_le (t : Tm) (x : UInt8) : cntF t x ≤ (parts t).length := by
  induction t with
  | num n => simp [cntF]
  | var c => simp only [cntF, parts, List.length_cons, List.length_nil]; split <;> omega
  | fn c b ih => simp only [cntF, parts, List.length_cons]; split <;> omega
  | fix f c b ih => simp only [cntF, parts, List.length_cons]; split <;> omega
  | app f a h1 h2 => simp only [cntF, parts, List.length_cons, List.length_append]; omega
  | bind c f a h1 h2 => simp only [cntF, parts, List.length_cons, List.length_append]; split <;> omega
  | op s f a h1 h2 => simp only [cntF, parts, List.length_cons, List.length_append]; omega
  | sel a b c h1 h2 h3 => simp only [cntF, parts, List.length_cons, List.length_append]; omega

theorem nam_letter {c : UInt8} (h : isNam c = true) : c ∈ letters := by
  simp only [isNam, Bool.and_eq_true, decide_eq_true_eq] at h
  obtain ⟨h1, h2⟩ := h
  obtain ⟨d, hd, hn⟩ := letters_at (c.toNat - 97) (by omega)
  have e : d = c := by apply UInt8.toNat_inj.1; omega
  rw [← e]
  exact List.mem_of_getElem? hd
theorem mem_sort (s : Text) (x : UInt8) : x ∈ sortN s ↔ x ∈ letters ∧ x ∈ s := by simp [sortN, List.mem_filter]
theorem mem_less (s n : Text) (x : UInt8) : x ∈ lessN s n ↔ x ∈ s ∧ x ∉ n := by simp [lessN, List.mem_filter]
theorem free_letters {t : Tm} (h : t.good) {x : UInt8} (hx : x ∈ sfree t) : x ∈ letters := by
  induction t with
  | num n => exact ((mem_sort _ _).1 hx).1
  | var c => simp only [sfree, List.mem_singleton] at hx; subst hx; exact nam_letter h
  | fn c b ih => exact ih h.2 ((mem_less _ _ _).1 hx).1
  | fix f c b ih => exact ih h.2.2.2 ((mem_less _ _ _).1 hx).1
  | app | bind | op | sel => exact ((mem_sort _ _).1 hx).1
theorem mem_free {t : Tm} (h : t.good) (x : UInt8) : x ∈ sfree t ↔ cntF t x ≠ 0 := by
  induction t with
  | num n => simp [sfree, mem_sort, cntF]
  | var c => simp only [sfree, List.mem_singleton, cntF]; split <;> simp_all
  | fn c b ih => rw [sfree, mem_less, ih h.2, cntF]; split <;> simp_all
  | fix f c b ih => rw [sfree, mem_less, ih h.2.2.2, cntF]; split <;> simp_all
  | app f a h1 h2 =>
    have k1 := h1 h.1; have k2 := h2 h.2
    have l1 := fun hx => free_letters h.1 (x := x) hx; have l2 := fun hx => free_letters h.2 (x := x) hx
    rw [sfree, mem_sort, List.mem_append, cntF]
    constructor
    · rintro ⟨_, h | h⟩
      · have := k1.1 h; omega
      · have := k2.1 h; omega
    · intro hn
      by_cases e : cntF f x = 0
      · have := k2.2 (by omega); exact ⟨l2 this, .inr this⟩
      · have := k1.2 e; exact ⟨l1 this, .inl this⟩
  | op s f a h1 h2 =>
    have k1 := h1 h.2.1; have k2 := h2 h.2.2
    have l1 := fun hx => free_letters h.2.1 (x := x) hx; have l2 := fun hx => free_letters h.2.2 (x := x) hx
    rw [sfree, mem_sort, List.mem_append, cntF]
    constructor
    · rintro ⟨_, h | h⟩
      · have := k1.1 h; omega
      · have := k2.1 h; omega
    · intro hn
      by_cases e : cntF f x = 0
      · have := k2.2 (by omega); exact ⟨l2 this, .inr this⟩
      · have := k1.2 e; exact ⟨l1 this, .inl this⟩
  | bind c f a h1 h2 =>
    have k1 := h1 h.2.1; have k2 := h2 h.2.2
    have l1 := fun hx => free_letters h.2.1 (x := x) hx; have l2 := fun hx => free_letters h.2.2 (x := x) hx
    rw [sfree, mem_sort, List.mem_append, mem_less, cntF]
    constructor
    · rintro ⟨_, h | h⟩
      · have := k1.1 h; omega
      · rw [if_neg h.2]; have := k2.1 h.1; omega
    · intro hn
      by_cases e : cntF f x = 0
      · by_cases ec : x ∈ [c]
        · rw [if_pos ec] at hn; omega
        · rw [if_neg ec] at hn
          have := k2.2 (by omega); exact ⟨l2 this, .inr ⟨this, ec⟩⟩
      · have := k1.2 e; exact ⟨l1 this, .inl this⟩
  | sel a b c h1 h2 h3 =>
    have k1 := h1 h.1; have k2 := h2 h.2.1; have k3 := h3 h.2.2
    have l1 := fun hx => free_letters h.1 (x := x) hx; have l2 := fun hx => free_letters h.2.1 (x := x) hx; have l3 := fun hx => free_letters h.2.2 (x := x) hx
    rw [sfree, mem_sort, List.mem_append, List.mem_append, cntF]
    constructor
    · rintro ⟨_, h | h | h⟩
      · have := k1.1 h; omega
      · have := k2.1 h; omega
      · have := k3.1 h; omega
    · intro hn
      by_cases e : cntF a x = 0
      · by_cases e2 : cntF b x = 0
        · have := k3.2 (by omega); exact ⟨l3 this, .inr (.inr this)⟩
        · have := k2.2 e2; exact ⟨l2 this, .inr (.inl this)⟩
      · have := k1.2 e; exact ⟨l1 this, .inl this⟩
theorem free_filter {t : Tm} (h : t.good) : ∃ p : UInt8 → Bool, sfree t = letters.filter p := by
  induction t with
  | num n => exact ⟨fun c => decide (c ∈ ([] : Text)), by rw [sfree, sortN]⟩
  | var c =>
    refine ⟨fun d => decide (d = c), ?_⟩
    have hl := nam_letter (c := c) h
    simp only [letters, List.mem_cons, List.not_mem_nil, or_false] at hl
    rcases hl with h | h | h | h | h | h | h | h | h | h | h | h | h | h | h | h <;> subst h <;> decide
  | fn c b ih => obtain ⟨p, hp⟩ := ih h.2; exact ⟨_, by rw [sfree, hp, lessN, List.filter_filter]⟩
  | fix f c b ih => obtain ⟨p, hp⟩ := ih h.2.2.2; exact ⟨_, by rw [sfree, hp, lessN, List.filter_filter]⟩
  | app f a => exact ⟨fun c => decide (c ∈ sfree f ++ sfree a), by rw [sfree, sortN]⟩
  | op s f a => exact ⟨fun c => decide (c ∈ sfree f ++ sfree a), by rw [sfree, sortN]⟩
  | bind d f a => exact ⟨fun c => decide (c ∈ sfree f ++ lessN (sfree a) [d]), by rw [sfree, sortN]⟩
  | sel a b d => exact ⟨fun c => decide (c ∈ sfree a ++ (sfree b ++ sfree d)), by rw [sfree, sortN]⟩
/-- The names that have a number, in order. -/
def namesIn (m : UInt8 → Nat) : Text := letters.filter (fun c => decide (m c ≠ 0))
theorem free_names {t : Tm} (h : t.good) : sfree t = namesIn (cntF t) := by
  obtain ⟨p, hp⟩ := free_filter h
  rw [hp]
  unfold namesIn
  refine List.filter_congr fun c hc => ?_
  have h1 := mem_free h c
  rw [hp, List.mem_filter] at h1
  have h2 : p c = true ↔ cntF t c ≠ 0 := ⟨fun e => h1.1 ⟨hc, e⟩, fun e => (h1.2 e).2⟩
  cases hpc : p c
  · have : ¬ cntF t c ≠ 0 := fun e => by rw [h2.2 e] at hpc; cases hpc
    simp [this]
  · simp [h2.1 hpc]
theorem free_nil {t : Tm} (h : t.good) : sfree t = [] ↔ ∀ x, cntF t x = 0 := by
  constructor
  · intro e x
    have h1 := mem_free h x
    rw [e] at h1
    by_cases h0 : cntF t x = 0
    · exact h0
    · exact absurd (h1.2 h0) (by simp)
  · intro e
    rw [free_names h]
    simp [namesIn, e]

/-- The names that the first k of the parts bind. -/
def boundTo (l : List Tm) (k : Nat) : Text := (l.take k).flatMap bindsOf
theorem boundTo_succ (l : List Tm) (k : Nat) (s : Tm) (h : l[k]? = some s) : boundTo l (k + 1) = boundTo l k ++ bindsOf s := by
  unfold boundTo
  rw [List.take_add_one, h]
  simp
theorem boundTo_len (l : List Tm) (k : Nat) : (boundTo l k).length ≤ 2 * k := by
  induction k with
  | zero => simp [boundTo]
  | succ k ih =>
    rcases h : l[k]? with _ | s
    · have e : boundTo l (k + 1) = boundTo l k := by unfold boundTo; rw [List.take_add_one, h]; simp
      rw [e]; omega
    · rw [boundTo_succ l k s h, List.length_append]
      have := binds_len s
      omega
/-- The names that some part binds, in order. -/
def sbound (t : Tm) : Text := sortN (boundTo (parts t) (parts t).length)
/-- How often some part binds a name, among the terms of a list. -/
def cntB (l : List Tm) (x : UInt8) : Nat := (l.flatMap bindsOf).count x
theorem cntB_snoc (l : List Tm) (s : Tm) (x : UInt8) : cntB (l ++ [s]) x = cntB l x + (bindsOf s).count x := by
  simp [cntB, List.count_append]
theorem cntB_le (l : List Tm) (x : UInt8) : cntB l x ≤ 2 * l.length := by
  refine Nat.le_trans List.count_le_length ?_
  have := boundTo_len l l.length
  rwa [boundTo, List.take_length] at this
theorem bound_names (t : Tm) : sbound t = namesIn (cntB (parts t)) := by
  unfold sbound namesIn sortN boundTo cntB
  rw [List.take_length]
  refine List.filter_congr fun c _ => ?_
  have : c ∈ (parts t).flatMap bindsOf ↔ List.count c ((parts t).flatMap bindsOf) ≠ 0 := by
    rw [← List.count_pos_iff]; omega
  simp only [this]
end Go.Proofs.Ytdedhejpbnfnaaa
