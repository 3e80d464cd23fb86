import Derived.Test.YtcabmcpalgpfpaaGreatDoorMNu
import Derived.Test.YtcabmcpalgpfpaaGreatDoorMLt
/- Nameless terms: what stands in their texts. No program in sight. -/
namespace Go.Proofs.YtcabmcpalgpfpaaGreatDoor
open Ff
set_option linter.unusedVariables false

/-- How many signs and letters stand in a text. -/
def mk (s : Text) : Nat := s.count 36 + (s.filter isNam).length
theorem mk_app (s t : Text) : mk (s ++ t) = mk s + mk t := by
  simp only [mk, List.count_append, List.filter_append, List.length_append]; omega
theorem mk_cons (c : UInt8) (s : Text) : mk (c :: s) = mk [c] + mk s := mk_app [c] s
theorem mk_low {c : UInt8} (h1 : c ≠ 36) (h2 : isNam c = false) : mk [c] = 0 := by
  simp [mk, h1, h2]
theorem mk_all {s : Text} (h : ∀ c ∈ s, c ≠ 36 ∧ isNam c = false) : mk s = 0 := by
  induction s with
  | nil => rfl
  | cons c s ih =>
    rw [mk_cons, mk_low (h c (by simp)).1 (h c (by simp)).2, ih fun d hd => h d (by simp [hd])]
theorem dec_low (k : Nat) (hk : k ≤ 99) : ∀ c ∈ decN k, c ≠ 36 ∧ isNam c = false := by
  have hd : ∀ m, m < 10 → UInt8.ofNat (48 + m) ≠ 36 ∧ isNam (UInt8.ofNat (48 + m)) = false := by
    intro m hm
    have : m = 0 ∨ m = 1 ∨ m = 2 ∨ m = 3 ∨ m = 4 ∨ m = 5 ∨ m = 6 ∨ m = 7 ∨ m = 8 ∨ m = 9 := by omega
    rcases this with h | h | h | h | h | h | h | h | h | h <;> subst h <;> decide
  intro c hc
  unfold decN at hc
  split at hc
  · simp only [List.mem_singleton] at hc; subst hc; exact hd k (by omega)
  · simp only [List.mem_cons, List.not_mem_nil, or_false] at hc
    rcases hc with h | h <;> subst h
    · exact hd _ (by omega)
    · exact hd _ (by omega)
theorem num_low (k : Nat) (hk : k ≤ 99) : ∀ c ∈ numN k, c ≠ 36 ∧ isNam c = false := by
  intro c hc
  unfold numN at hc
  split at hc
  · exact dec_low k hk c hc
  · rcases List.mem_cons.1 hc with h | h
    · subst h; decide
    · exact dec_low k hk c h
/-- What is known of a nameless term's text. -/
structure NlOk (f : UInt8 → Int) (t : Tm) (s : Text) : Prop where
  many : mk s = (readsN (parts t)).length
  mem : ∀ c, isNam c = true → (c ∈ s ↔ f c = -1 ∧ cntF t c ≠ 0)
theorem nl_text (n : Nat) (f : UInt8 → Int) (t : Tm) : nlT n f t = knText n (knT n f t) := rfl
theorem deep_neg {ns : Text} {f : UInt8 → Int} (hf : ∀ c, f c = -1 ∨ 0 ≤ f c) (c : UInt8) : deeper ns f c = -1 ↔ c ∉ ns ∧ f c = -1 := by
  by_cases m : c ∈ ns
  · have := deeper_in (f := f) m
    constructor
    · intro h; omega
    · intro h; exact absurd m h.1
  · rw [deeper_out m]
    have := hf c
    constructor
    · intro h
      refine ⟨m, ?_⟩
      split at h
      · assumption
      · omega
    · intro h; rw [if_pos h.2]
theorem low_ne {d c : UInt8} (h : isNam d = false) (hc : isNam c = true) : c ≠ d := fun e => by subst e; rw [h] at hc; cases hc
theorem bind_iff {p : Prop} [Decidable p] {q : Prop} {k : Nat} : (¬ p ∧ q) ∧ k ≠ 0 ↔ q ∧ (if p then 0 else k) ≠ 0 := by
  by_cases m : p
  · rw [if_pos m]; exact ⟨fun h => absurd m h.1.1, fun h => absurd rfl h.2⟩
  · rw [if_neg m]; exact ⟨fun h => ⟨h.1.2, h.2⟩, fun h => ⟨⟨m, h.1⟩, h.2⟩⟩
theorem two_iff {q : Prop} {a b : Nat} : (q ∧ a ≠ 0) ∨ (q ∧ b ≠ 0) ↔ q ∧ a + b ≠ 0 := by
  constructor
  · rintro (⟨h, k⟩ | ⟨h, k⟩)
    · exact ⟨h, by omega⟩
    · exact ⟨h, by omega⟩
  · rintro ⟨h, k⟩
    by_cases e : a = 0
    · exact .inr ⟨h, by omega⟩
    · exact .inl ⟨h, e⟩
theorem nl_ok : ∀ (n : Nat) (f : UInt8 → Int) (t : Tm), t.depth ≤ n → t.good → OkF n f → NlOk f t (nlT n f t)
  | 0, f, t, hd, _, _ => absurd hd (by have := t.depth_pos; omega)
  | n + 1, f, t, hd, hg, hf => by
    have hf0 : ∀ c, f c = -1 ∨ 0 ≤ f c := fun c => (hf.2 c).imp id (fun h => h.1)
    have kg := fun s (hs : s ∈ t.kids) => Tm.kid_good hg hs
    have kd := fun s (hs : s ∈ t.kids) => kid_depth hs
    have I := fun s (hs : s ∈ t.kids) => nl_ok n f s (by have := kd s hs; omega) (kg s hs) (okF_less hf)
    have D := fun (ns : Text) (hn : ns.length ≤ 2) s (hs : s ∈ t.kids) => nl_ok n (deeper ns f) s (by have := kd s hs; omega) (kg s hs) (okF_deeper hf hn)
    have low : ∀ (d : UInt8) (x : UInt8) (s : Text), isNam d = false → isNam x = true → (x ∈ d :: s ↔ x ∈ s) := fun d x s hd hx => by
      rw [List.mem_cons]
      exact ⟨fun h => h.resolve_left (low_ne hd hx), .inr⟩
    cases t with
    | num k =>
      have hk : k ≤ 99 := by have := hg; simp only [Tm.good] at this; omega
      rw [nlT_num]
      refine ⟨by rw [mk_all (num_low k hk)]; rfl, fun c hc => ⟨fun h => ?_, fun h => absurd rfl h.2⟩⟩
      have := (num_low k hk c h).2
      rw [hc] at this; cases this
    | var c =>
      have hc : isNam c = true := hg
      obtain ⟨h1, h2, h3⟩ := nam_ne hc
      by_cases h : f c = -1
      · rw [nlT_free n hc h]
        refine ⟨by simp [mk, hc, h2, readsN, parts, varOf], fun x hx => ?_⟩
        simp only [List.mem_singleton, cntF]
        by_cases e : x = c
        · subst e; simp [h]
        · simp [e]
      · rw [nlT_bound n h]
        have hv : (f c).toNat ≤ 99 := by have := hf.2 c; omega
        refine ⟨?_, fun x hx => ?_⟩
        · rw [mk_cons, mk_app, mk_all (dec_low _ hv)]
          simp [mk, readsN, parts, varOf]
          decide
        · rw [low 36 x _ (by decide) hx, List.mem_append]
          constructor
          · rintro (h5 | h5)
            · have := (dec_low _ hv x h5).2
              rw [hx] at this; cases this
            · rw [List.mem_singleton] at h5
              subst h5; cases hx
          · rintro ⟨h5, h6⟩
            simp only [cntF] at h6
            by_cases e : c = x
            · subst e; exact absurd h5 h
            · have e2 : ¬ x = c := fun h => e h.symm
              simp [e2] at h6
    | fn c b =>
      have e : nlT (n + 1) f (.fn c b) = 92 :: nlT n (deeper [c] f) b := by simp [nlT, knT, knText]
      have J := D [c] (by simp) b (by simp [Tm.kids])
      rw [e]
      refine ⟨?_, fun x hx => ?_⟩
      · rw [mk_cons, mk_low (by decide) (by decide), J.many]; simp [readsN, parts, varOf]
      · rw [low 92 x _ (by decide) hx, J.mem x hx, deep_neg hf0, bind_iff]; rfl
    | fix k c b =>
      have e : nlT (n + 1) f (.fix k c b) = 64 :: nlT n (deeper [k, c] f) b := by simp [nlT, knT, knText]
      have J := D [k, c] (by simp) b (by simp [Tm.kids])
      rw [e]
      refine ⟨?_, fun x hx => ?_⟩
      · rw [mk_cons, mk_low (by decide) (by decide), J.many]; simp [readsN, parts, varOf]
      · rw [low 64 x _ (by decide) hx, J.mem x hx, deep_neg hf0, bind_iff]; rfl
    | app a b =>
      have e : nlT (n + 1) f (.app a b) = 40 :: (nlT n f a ++ nlT n f b ++ [41]) := by simp [nlT, knT, knText]
      have J := I a (by simp [Tm.kids])
      have K := I b (by simp [Tm.kids])
      rw [e]
      refine ⟨?_, fun x hx => ?_⟩
      · rw [mk_cons, mk_low (by decide) (by decide), mk_app, mk_app, J.many, K.many, mk_low (c := 41) (by decide) (by decide)]; simp [readsN, parts, varOf]
      · rw [low 40 x _ (by decide) hx, List.mem_append, List.mem_append, J.mem x hx, K.mem x hx]
        have h41 : ¬ x ∈ [(41 : UInt8)] := fun h => by rw [List.mem_singleton] at h; subst h; cases hx
        simp only [h41, or_false]
        exact two_iff
    | bind c a b =>
      have e : nlT (n + 1) f (.bind c a b) = 61 :: (nlT n f a ++ nlT n (deeper [c] f) b) := by simp [nlT, knT, knText]
      have J := I a (by simp [Tm.kids])
      have K := D [c] (by simp) b (by simp [Tm.kids])
      rw [e]
      refine ⟨?_, fun x hx => ?_⟩
      · rw [mk_cons, mk_low (by decide) (by decide), mk_app, J.many, K.many]; simp [readsN, parts, varOf]
      · rw [low 61 x _ (by decide) hx, List.mem_append, J.mem x hx, K.mem x hx, deep_neg hf0, bind_iff]
        exact two_iff
    | op o a b =>
      have ho : isNam o = false ∧ o ≠ 36 ∧ o ≠ 35 ∧ o ≠ 40 := by rcases hg.1 with h | h | h <;> subst h <;> decide
      have e : nlT (n + 1) f (.op o a b) = o :: (nlT n f a ++ nlT n f b) := by simp [nlT, knT, knText, ho.2.1, ho.2.2.1, ho.2.2.2]
      have J := I a (by simp [Tm.kids])
      have K := I b (by simp [Tm.kids])
      rw [e]
      refine ⟨?_, fun x hx => ?_⟩
      · rw [mk_cons, mk_low ho.2.1 ho.1, mk_app, J.many, K.many]; simp [readsN, parts, varOf]
      · rw [low o x _ ho.1 hx, List.mem_append, J.mem x hx, K.mem x hx]
        exact two_iff
    | sel a b c =>
      have e : nlT (n + 1) f (.sel a b c) = 63 :: (nlT n f a ++ (nlT n f b ++ nlT n f c)) := by simp [nlT, knT, knText]
      have J := I a (by simp [Tm.kids])
      have K := I b (by simp [Tm.kids])
      have L := I c (by simp [Tm.kids])
      rw [e]
      refine ⟨?_, fun x hx => ?_⟩
      · rw [mk_cons, mk_low (by decide) (by decide), mk_app, mk_app, J.many, K.many, L.many]; simp [readsN, parts, varOf]
      · rw [low 63 x _ (by decide) hx, List.mem_append, List.mem_append, J.mem x hx, K.mem x hx, L.mem x hx, two_iff, two_iff]
        simp only [cntF, Nat.add_assoc]
end Go.Proofs.YtcabmcpalgpfpaaGreatDoor
