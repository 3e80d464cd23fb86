import Derived.Test.YtmkibadkcmljnaaGreatDoorPt
/- What putting keeps and how it grows: good terms stay good; parts and depth are bounded. No program in sight. -/
namespace Go.Proofs.YtmkibadkcmljnaaGreatDoor
open Ff
set_option linter.unusedVariables false

structure Grown (u r t : Tm) : Prop where
  many : (parts r).length ≤ (parts t).length * (parts u).length
  deep : r.depth ≤ t.depth + u.depth
  good : t.good → r.good
theorem Grown.of_alike {u r t : Tm} (h : Alike r t) : Grown u r t :=
  ⟨by rw [h.many]; exact Nat.le_mul_of_pos_right _ (parts_pos u), by rw [h.deep]; omega, h.good⟩
theorem Grown.alike {u r s t : Tm} (h : Grown u r s) (k : Alike s t) : Grown u r t := ⟨by rw [← k.many]; exact h.many, by rw [← k.deep]; exact h.deep, fun g => h.good (k.good g)⟩
theorem undS_grown {u : Tm} {sub : UInt8 → Tm → Tm → Tm × Bool} (hl : ∀ x d t, isNam d = true → Alike (sub x (.var d) t).1 t) (hs : ∀ x t, Grown u (sub x u t).1 t) (ns : Text) (b : Tm) (x : UInt8) :
    (undS sub ns b x u).1.length = ns.length ∧ ((∀ c ∈ ns, isNam c = true) → ∀ c ∈ (undS sub ns b x u).1, isNam c = true) ∧ (Dif ns → Dif (undS sub ns b x u).1) ∧ Grown u (undS sub ns b x u).2.1 b := by
  have K := stepsS_keep hl (sfree u) x ns b ns.length
  unfold undS
  split
  · exact ⟨rfl, fun h => h, fun h => h, Grown.of_alike (Alike.rfl' _)⟩
  · split
    · exact ⟨K.len, K.nam, K.nod, Grown.of_alike K.like⟩
    · exact ⟨K.len, K.nam, K.nod, (hs _ _).alike K.like⟩
theorem subS_grown {u : Tm} (hu : u.good) : ∀ (n : Nat) (x : UInt8) (t : Tm), Grown u (subS n x u t).1 t
  | 0, _, t => Grown.of_alike (Alike.rfl' t)
  | n + 1, x, t => by
    have ih := fun x t => subS_grown hu n x t
    have hl := fun x d t h => subS_like n x d t h
    have hp := parts_pos u
    cases t with
    | num k => exact Grown.of_alike (Alike.rfl' _)
    | var c =>
      simp only [subS]
      split
      · exact ⟨by simp [parts], by simp [Tm.depth], fun _ => hu⟩
      · exact Grown.of_alike (Alike.rfl' _)
    | fn c b =>
      obtain ⟨h1, h2, _, h4⟩ := undS_grown hl ih [c] b x
      obtain ⟨c', e⟩ := one_of h1
      rw [e] at h2
      simp only [subS, e, List.headD_cons]
      have a1 := h4.many
      have a2 := h4.deep
      refine ⟨?_, by simp only [Tm.depth]; omega, fun g => ⟨h2 (by simpa using g.1) _ (by simp), h4.good g.2⟩⟩
      simp only [parts, List.length_cons, Nat.add_mul, Nat.one_mul]
      omega
    | fix f c b =>
      obtain ⟨h1, h2, h3, h4⟩ := undS_grown hl ih [f, c] b x
      obtain ⟨f', c', e⟩ := two_of' h1
      rw [e] at h2 h3
      simp only [subS, e, List.headD_cons, List.drop_succ_cons, List.drop_zero]
      have a1 := h4.many
      have a2 := h4.deep
      refine ⟨?_, by simp only [Tm.depth]; omega, fun g => ⟨h2 ?_ _ (by simp), h2 ?_ _ (by simp), ?_, h4.good g.2.2.2⟩⟩
      · simp only [parts, List.length_cons, Nat.add_mul, Nat.one_mul]
        omega
      · intro y hy; simp only [List.mem_cons, List.not_mem_nil, or_false] at hy; rcases hy with rfl | rfl; exact g.1; exact g.2.1
      · intro y hy; simp only [List.mem_cons, List.not_mem_nil, or_false] at hy; rcases hy with rfl | rfl; exact g.1; exact g.2.1
      · have := h3 (by
          unfold Dif
          intro i j y hij h1 h2
          exact (show False by
            match i, j, hij with
            | 0, 1, _ => simp at h1 h2; exact g.2.2.1 (h1.trans h2.symm)
            | i, j + 2, _ => simp at h2
            | i + 1, 1, h => omega)) 0 1 f' (by omega) rfl
        intro e2
        subst e2
        exact this rfl
    | app f a =>
      have h1 := ih x f
      have h2 := ih x a
      have a1 := h1.many
      have a2 := h2.many
      have b1 := h1.deep
      have b2 := h2.deep
      simp only [subS]
      refine ⟨?_, by simp only [Tm.depth]; omega, fun g => ⟨h1.good g.1, h2.good g.2⟩⟩
      simp only [parts, List.length_cons, List.length_append, Nat.add_mul, Nat.one_mul]
      omega
    | bind c v b =>
      have k1 := ih x v
      obtain ⟨h1, h2, _, h4⟩ := undS_grown hl ih [c] b x
      obtain ⟨c', e⟩ := one_of h1
      rw [e] at h2
      simp only [subS, e, List.headD_cons]
      have a1 := h4.many
      have a2 := h4.deep
      have b1 := k1.many
      have b2 := k1.deep
      refine ⟨?_, by simp only [Tm.depth]; omega, fun g => ⟨h2 (by simpa using g.1) _ (by simp), k1.good g.2.1, h4.good g.2.2⟩⟩
      simp only [parts, List.length_cons, List.length_append, Nat.add_mul, Nat.one_mul]
      omega
    | op o l r =>
      have h1 := ih x l
      have h2 := ih x r
      have a1 := h1.many
      have a2 := h2.many
      have b1 := h1.deep
      have b2 := h2.deep
      simp only [subS]
      refine ⟨?_, by simp only [Tm.depth]; omega, fun g => ⟨g.1, h1.good g.2.1, h2.good g.2.2⟩⟩
      simp only [parts, List.length_cons, List.length_append, Nat.add_mul, Nat.one_mul]
      omega
    | sel a b c =>
      have h1 := ih x a
      have h2 := ih x b
      have h3 := ih x c
      have a1 := h1.many
      have a2 := h2.many
      have a3 := h3.many
      have b1 := h1.deep
      have b2 := h2.deep
      have b3 := h3.deep
      simp only [subS]
      refine ⟨?_, by simp only [Tm.depth]; omega, fun g => ⟨h1.good g.1, h2.good g.2.1, h3.good g.2.2⟩⟩
      simp only [parts, List.length_cons, List.length_append, Nat.add_mul, Nat.one_mul]
      omega
end Go.Proofs.YtmkibadkcmljnaaGreatDoor
