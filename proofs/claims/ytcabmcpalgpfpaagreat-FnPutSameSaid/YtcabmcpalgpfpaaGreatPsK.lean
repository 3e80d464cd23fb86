import Derived.Test.YtcabmcpalgpfpaaGreatRnK
import Derived.Test.YtcabmcpalgpfpaaGreatNw
import Derived.Test.YtcabmcpalgpfpaaGreatMNu
/- A term put for a name, and nameless terms: what is the same stays the same. No program in sight. -/
namespace Go.Proofs.YtcabmcpalgpfpaaGreat
open Ff
set_option linter.unusedVariables false

theorem knT_fuels (n : Nat) (f : UInt8 → Int) (t : Tm) (hd : t.depth ≤ n) : ∀ N, knT (N + n) f t = knT n f t
  | 0 => by rw [Nat.zero_add]
  | N + 1 => by rw [show N + 1 + n = (N + n) + 1 by omega, knT_fuel (N + n) f t (by omega), knT_fuels n f t hd N]
/-- A knot in which another one stands for a name. -/
def subK : Nat → UInt8 → Knot → Knot → Knot
  | 0, _, _, k => k
  | n + 1, x, K, .mk s v ks => if s = x then K else .mk s v (ks.map (subK n x K))
theorem sum_zero : ∀ (l : List Nat), l.sum = 0 → ∀ a ∈ l, a = 0
  | [], _, a, ha => absurd ha (by simp)
  | b :: l, h, a, ha => by
    simp only [List.sum_cons] at h
    rcases List.mem_cons.1 ha with e | e
    · omega
    · exact sum_zero l (by omega) a e
theorem subK_none : ∀ (n : Nat) (x : UInt8) (K k : Knot), cntK n x k = 0 → subK n x K k = k
  | 0, _, _, _, _ => rfl
  | n + 1, x, K, .mk s v ks, h => by
    simp only [cntK] at h
    have hs : s ≠ x := fun e => by rw [if_pos e] at h; omega
    rw [if_neg hs, Nat.zero_add] at h
    simp only [subK, if_neg hs]
    congr 1
    have hk : ∀ k ∈ ks, cntK n x k = 0 := fun k hk => sum_zero _ h _ (List.mem_map_of_mem (f := cntK n x) hk)
    rw [List.map_congr_left (fun k hkm => subK_none n x K k (hk k hkm)), List.map_id']
theorem nam_signs {x : UInt8} (h : isNam x = true) : ∀ d : UInt8, d.toNat < 97 → ¬ d = x := fun d hd e => by
  subst e
  unfold isNam at h
  simp at h
  omega
/-- What is told of the names within a binder's names. -/
theorem deeper_ok {f : UInt8 → Int} (hf : ∀ c, f c = -1 ∨ 0 ≤ f c) (ns : Text) : ∀ c, deeper ns f c = -1 ∨ 0 ≤ deeper ns f c := fun c => by
  by_cases m : c ∈ ns
  · have := deeper_in (f := f) m; omega
  · rw [deeper_out m]
    have := hf c
    split <;> omega
/-- What putting does to a nameless term. -/
def PutK (N n : Nat) : Prop := ∀ (x : UInt8) (u t : Tm) (g : UInt8 → Int), t.depth ≤ n → t.good → u.good → u.depth ≤ N → isNam x = true → g x = -1 → (∀ c ∈ sfree u, g c = -1) → (∀ c, g c = -1 ∨ 0 ≤ g c) → (subS n x u t).2 = true →
  knT (N + n) g (subS n x u t).1 = subK (N + n) x (knT N noF u) (knT (N + n) g t)
theorem undS_put {N n : Nat} (ih : PutK N n) (ns : Text) (b u : Tm) (x : UInt8) (g : UInt8 → Int) (hd : b.depth ≤ n) (hg : b.good) (hu : u.good) (hud : u.depth ≤ N) (hD : Dif ns) (hx : isNam x = true) (hgx : g x = -1) (hgu : ∀ c ∈ sfree u, g c = -1) (hgo : ∀ c, g c = -1 ∨ 0 ≤ g c) (hok : (undS (subS n) ns b x u).2.2 = true) :
    knT (N + n) (deeper (undS (subS n) ns b x u).1 g) (undS (subS n) ns b x u).2.1 = subK (N + n) x (knT N noF u) (knT (N + n) (deeper ns g) b) := by
  by_cases h : x ∈ ns ∨ cntF b x = 0
  · rw [undS_none _ _ _ _ _ h]
    refine (subK_none _ _ _ _ ?_).symm
    rw [cnt_kn (N + n) x _ b (by omega) hg hx (deeper_ok hgo ns)]
    rcases h with h | h
    · have := deeper_in (f := g) h
      rw [if_neg (by omega)]
    · rw [h]; split <;> rfl
  · obtain ⟨h1, h2⟩ := undS_ok (subS n) ns b x u h
    rw [h1, Bool.and_eq_true] at hok
    obtain ⟨o1, o2⟩ := hok
    rw [h2 o1]
    have hxn : x ∉ ns := fun e => h (.inl e)
    have hsub := fun x d t h => subS_like n x d t h
    obtain ⟨k1, k2, k3⟩ := stepsS_kn n (subS n) (subS_kn n) hsub (sfree u) x ns b hg hD hxn ns.length o1 ns.length (Nat.le_refl _)
    have K := stepsS_keep hsub (sfree u) x ns b ns.length
    generalize stepsS (subS n) (sfree u) x ns b ns.length = s at *
    have hsd : s.b.depth ≤ n := by rw [K.like.deep]; exact hd
    have hdu : ∀ c ∈ sfree u, c ∉ s.ns := fun c hc hm => by
      obtain ⟨i, hi⟩ := List.getElem?_of_mem hm
      have hil := (List.getElem?_eq_some_iff.1 hi).1
      exact k3 i c (by rw [← K.len]; exact hil) hi hc
    show knT (N + n) (deeper s.ns g) (subS n x u s.b).1 = _
    rw [ih x u s.b (deeper s.ns g) hsd (K.like.good hg) hu hud hx (by rw [deeper_out k2, if_pos hgx]) (fun c hc => by rw [deeper_out (hdu c hc), if_pos (hgu c hc)]) (deeper_ok hgo s.ns) o2,
      knT_fuels n _ s.b hsd N, k1 g, knT_fuels n _ b hd N]
theorem stepsS_len2 {n : Nat} {ns : Text} {b u : Tm} {x : UInt8} : (undS (subS n) ns b x u).1.length = ns.length := undS_len n ns b x u
theorem subS_put (N : Nat) : ∀ n, PutK N n
  | 0 => fun x u t g hd _ _ _ _ _ _ _ _ => absurd hd (by have := t.depth_pos; omega)
  | n + 1 => fun x u t g hd hg hu hud hx hgx hgu hgo hok => by
    have ih := subS_put N n
    have kg := fun s (hs : s ∈ t.kids) => Tm.kid_good hg hs
    have kd := fun s (hs : s ∈ t.kids) => kid_depth hs
    have hD := binds_dif hg
    have ne := nam_signs hx
    have e0 : N + (n + 1) = (N + n) + 1 := rfl
    rw [e0]
    have I := fun s (hs : s ∈ t.kids) (ho : (subS n x u s).2 = true) => ih x u s g (by have := kd s hs; omega) (kg s hs) hu hud hx hgx hgu hgo ho
    have U := fun ns (hns : ns = bindsOf t) s (hs : s ∈ t.kids) (ho : (undS (subS n) ns s x u).2.2 = true) => undS_put ih ns s u x g (by have := kd s hs; omega) (kg s hs) hu hud (by rw [hns]; exact hD) hx hgx hgu hgo ho
    cases t with
    | num k => simp only [subS, knT, subK, if_neg (ne 35 (by decide)), List.map_nil]
    | var c =>
      by_cases h : c = x
      · subst h
        have e1 : knT (N + n + 1) g (.var c) = .mk c 0 [] := by simp [knT, hgx]
        have e2 : (subS (n + 1) c u (.var c)).1 = u := by simp [subS]
        rw [e1, e2]
        simp only [subK, if_true]
        rw [knT_free _ g noF u (fun c hc => by rw [hgu c ((mem_free hu c).2 hc)]), show N + n + 1 = (n + 1) + N by omega, knT_fuels N _ u hud]
      · simp only [subS, if_neg h, knT]
        by_cases e : g c = -1
        · rw [if_pos e]; simp only [subK, if_neg h, List.map_nil]
        · rw [if_neg e]; simp only [subK, if_neg (ne 36 (by decide)), List.map_nil]
    | fn c b =>
      simp only [subS] at hok
      have e := U [c] rfl b (by simp [Tm.kids]) hok
      obtain ⟨c', hc'⟩ := one_of (stepsS_len2 (n := n) (ns := [c]) (b := b) (x := x) (u := u))
      simp only [subS, knT, hc', List.headD_cons, subK, if_neg (ne 92 (by decide)), List.map_cons, List.map_nil] at e ⊢
      rw [e]
    | fix k c b =>
      simp only [subS] at hok
      have e := U [k, c] rfl b (by simp [Tm.kids]) hok
      obtain ⟨k', c', hc'⟩ := two_of' (stepsS_len2 (n := n) (ns := [k, c]) (b := b) (x := x) (u := u))
      simp only [subS, knT, hc', List.headD_cons, List.drop_succ_cons, List.drop_zero, subK, if_neg (ne 64 (by decide)), List.map_cons, List.map_nil] at e ⊢
      rw [e]
    | app f a =>
      simp only [subS, Bool.and_eq_true] at hok
      simp only [subS, knT, subK, if_neg (ne 40 (by decide)), List.map_cons, List.map_nil]
      rw [I f (by simp [Tm.kids]) hok.1, I a (by simp [Tm.kids]) hok.2]
    | bind c v b =>
      simp only [subS, Bool.and_eq_true] at hok
      have e := U [c] rfl b (by simp [Tm.kids]) hok.2
      obtain ⟨c', hc'⟩ := one_of (stepsS_len2 (n := n) (ns := [c]) (b := b) (x := x) (u := u))
      simp only [subS, knT, hc', List.headD_cons, subK, if_neg (ne 61 (by decide)), List.map_cons, List.map_nil] at e ⊢
      rw [e, I v (by simp [Tm.kids]) hok.1]
    | op o l r =>
      have ho : ¬ o = x := by rcases hg.1 with e | e | e <;> subst e <;> exact ne _ (by decide)
      simp only [subS, Bool.and_eq_true] at hok
      simp only [subS, knT, subK, if_neg ho, List.map_cons, List.map_nil]
      rw [I l (by simp [Tm.kids]) hok.1, I r (by simp [Tm.kids]) hok.2]
    | sel a b c =>
      simp only [subS, Bool.and_eq_true] at hok
      simp only [subS, knT, subK, if_neg (ne 63 (by decide)), List.map_cons, List.map_nil]
      rw [I a (by simp [Tm.kids]) hok.1.1, I b (by simp [Tm.kids]) hok.1.2, I c (by simp [Tm.kids]) hok.2]
theorem putO_some {s n s2 : Text} {R : Tm} (h : putO s n s2 = some R) : ∃ t u x, readS s = some t ∧ readS s2 = some u ∧ nameOf n = some x ∧ (subS t.depth x u t).2 = true ∧ R = (subS t.depth x u t).1 ∧ fitsT (subS t.depth x u t).1 = true := by
  unfold putO at h
  rcases ht : readS s with _ | t
  · rw [ht] at h; cases h
  rcases hu : readS s2 with _ | u
  · rw [ht, hu] at h; cases h
  rcases hn : nameOf n with _ | x
  · rw [ht, hu, hn] at h; cases h
  rw [ht, hu, hn] at h
  simp only [Option.bind_some] at h
  split at h
  · rename_i hc
    injection h with h
    exact ⟨t, u, x, rfl, rfl, rfl, hc.1, h.symm, hc.2⟩
  · cases h
theorem fits_parts {t : Tm} (h : fitsT t = true) : t.depth ≤ 24 ∧ (textN t).length ≤ 120 := by
  unfold fitsT at h
  simp only [Bool.and_eq_true, decide_eq_true_eq] at h
  exact ⟨h.2, h.1⟩
/-- What is put into the same terms: the same terms. -/
theorem put_kn {t u : Tm} {x : UInt8} (hg : t.good) (hd : t.depth ≤ 24) (hu : u.good) (hud : u.depth ≤ 24) (hx : isNam x = true) (hok : (subS t.depth x u t).2 = true) (hrd : (subS t.depth x u t).1.depth ≤ 24) :
    knT 24 noF (subS t.depth x u t).1 = subK 48 x (knT 24 noF u) (knT 24 noF t) := by
  have h := subS_put (48 - t.depth) t.depth x u t noF (Nat.le_refl _) hg hu (by omega) hx rfl (fun _ _ => rfl) (fun _ => .inl rfl) hok
  rw [show 48 - t.depth + t.depth = 48 by omega] at h
  rw [knT_fuels 24 noF _ hrd 24, knT_fuels 24 noF t hd 24, show 48 - t.depth = (24 - t.depth) + 24 by omega, knT_fuels 24 noF u hud] at h
  exact h
theorem put_same {s s2 n u : Text} {R R2 : Tm} (h : sameO s s2 = true) (h1 : putO s n u = some R) (h2 : putO s2 n u = some R2) : sameO (textN R) (textN R2) = true := by
  obtain ⟨t, v, x, hr, hu, hn, ho, rfl, hf⟩ := putO_some h1
  obtain ⟨t2, v2, x2, hr2, hu2, hn2, ho2, rfl, hf2⟩ := putO_some h2
  rw [hu] at hu2
  rw [hn] at hn2
  injection hu2 with hu2
  injection hn2 with hn2
  subst hu2
  subst hn2
  unfold sameO at h
  rw [hr, hr2] at h
  simp only [decide_eq_true_eq] at h
  obtain ⟨tg, td, tp⟩ := read_facts hr
  obtain ⟨tg2, td2, tp2⟩ := read_facts hr2
  obtain ⟨ug, ud, up⟩ := read_facts hu
  obtain ⟨_, hx⟩ := name_some hn
  have hk : knT 24 noF t = knT 24 noF t2 := (nlT_inj 24 noF noF t t2 [] [] td td2 tg tg2 noF_ok noF_ok (by rw [h])).1
  obtain ⟨f1, f2⟩ := fits_parts hf
  obtain ⟨f3, f4⟩ := fits_parts hf2
  have e := put_kn tg td ug ud hx ho f1
  have e2 := put_kn tg2 td2 ug ud hx ho2 f3
  unfold sameO
  rw [text_readS ((subS_grown ug _ _ _).good tg) f1 f2, text_readS ((subS_grown ug _ _ _).good tg2) f3 f4]
  have hn : nlT 24 noF (subS t.depth x v t).1 = nlT 24 noF (subS t2.depth x v t2).1 := by unfold nlT; rw [e, e2, hk]
  exact decide_eq_true hn
end Go.Proofs.YtcabmcpalgpfpaaGreat
