import Derived.Test.YtojbffiffcfblaaGreatUd
import Derived.Test.YtojbffiffcfblaaGreatPuJ
import Derived.Test.YtojbffiffcfblaaGreatPuW
/- Unique: the program's. -/
namespace Go.Proofs.YtojbffiffcfblaaGreat
open Go.RowKit
open Ff
set_option linter.unusedVariables false
attribute [local go_sem] Oper.semAt_some

/-- What it comes to where a shortage is told. -/
def UnqQ (o : Option (Tm × Text)) (e : Ending) : Prop := (∃ r, o = some r ∧ e = .returned (.tuple #[enc r.1, .bool true])) ∨ (o = none ∧ e = .returned (.tuple #[.nilIface, .bool false]))
set_option maxRecDepth 100000 in
set_option maxHeartbeats 2000000 in
theorem orShortU_c (o : Option (Tm × Text)) (b : Nat) (p1 p2 p3 : Value) (w : World) (hb : b < w.heap.size) (hC : ∀ W, Below w.heap.size w W → Calls Tryz.prog 48 #[p1, p2, p3] W (UnqP b o W)) :
    Calls Tryz.prog 47 #[.func (.func 48) #[] #[p1, p2, p3]] w fun e w' => UnqQ o e ∧ w.grownBy w' (some b) := by
  have hmf : ∀ (fn : Fn) (first cap : Array Value) (w : World), (Instr.makeFunc fn first cap).run Tryz.prog w = .ok (.func fn first cap) w := fun _ _ _ _ => rfl
  have C := hC _ (below_two w (.cells #[.nilIface] 39) (.cells #[.bool false] 4))
  clear hC
  have hz : ((w.alloc (.cells #[.nilIface] 39)).alloc (.cells #[.bool false] 4)).heap.size = w.heap.size + 1 + 1 := by simp
  have hG0 : w.grownBy ((w.alloc (.cells #[.nilIface] 39)).alloc (.cells #[.bool false] 4)) (some b) := (below_grown (below_two w _ _)).but _
  have z1 : ((w.alloc (.cells #[.nilIface] 39)).alloc (.cells #[.bool false] 4)).cell? ⟨w.heap.size, 0, none⟩ = some .nilIface := by simp [go_sem]
  have z2 : ((w.alloc (.cells #[.nilIface] 39)).alloc (.cells #[.bool false] 4)).cell? ⟨w.heap.size + 1, 0, none⟩ = some (.bool false) := by simp [go_sem]
  have z3 : ((w.alloc (.cells #[.nilIface] 39)).alloc (.cells #[.bool false] 4)).frozen? ⟨w.heap.size, 0, none⟩ = false := by simp [go_sem]
  have z4 : ((w.alloc (.cells #[.nilIface] 39)).alloc (.cells #[.bool false] 4)).frozen? ⟨w.heap.size + 1, 0, none⟩ = false := by simp [go_sem]
  have fin : ∀ (w1 : World) (u1 u2 : Value), ((w.alloc (.cells #[.nilIface] 39)).alloc (.cells #[.bool false] 4)).grownBy w1 (some b) → w.grownBy ((w1.setCell ⟨w.heap.size, 0, none⟩ u1).setCell ⟨w.heap.size + 1, 0, none⟩ u2) (some b) := fun w1 u1 u2 h =>
    ((hG0.trans h).andThen (grownBy_setCell _ _ _ _) (fun j hj => by simp at hj; left; omega)).andThen (grownBy_setCell _ _ _ _) (fun j hj => by simp at hj; left; omega)
  have HF := Lib.hid fin
  have HZ1 := Lib.hid z1
  have HZ2 := Lib.hid z2
  have HZ3 := Lib.hid z3
  have HZ4 := Lib.hid z4
  clear fin z1 z2 z3 z4
  go_enter_defers Tryz.func47, Tryz.ntmps47
  go_wp2_with fail
  refine C.mono ?_
  clear C
  rintro e w1 ⟨⟨r, hr, rfl, hT⟩ | ⟨hr, rfl⟩, hg1⟩
  · have c1 := hg1.cell HZ1.out (by simp; omega)
    have c2 := hg1.cell HZ2.out (by simp; omega)
    have f1 := (hg1.frozen_far ⟨w.heap.size, 0, none⟩ (by rw [hz]; show w.heap.size < _; omega) (by simp; omega)).trans HZ3.out
    have f2 := (hg1.frozen_far ⟨w.heap.size + 1, 0, none⟩ (by rw [hz]; show w.heap.size + 1 < _; omega) (by simp; omega)).trans HZ4.out
    obtain ⟨n, v, hv⟩ := enc_gen r.1
    have HV := Lib.hid hv
    have HR := Lib.hid hr
    have HG := Lib.hid hg1
    rw [hv]
    clear hv hr hg1
    go_wp2_with fail
    refine leaves_cons (f := 78) (args := #[.pointer (some ⟨w.heap.size, 0, none⟩), .pointer (some ⟨w.heap.size + 1, 0, none⟩)]) (by simp) (by simp [go_sem]) ?_
    refine (short_idle ⟨w.heap.size, 0, none⟩ ⟨w.heap.size + 1, 0, none⟩ _).mono ?_
    rintro e u' w'' ⟨rfl, rfl, rfl⟩
    refine ⟨.tuple #[.iface n v, .bool true], ?_, .inl ⟨r, HR.out, by rw [HV.out]⟩, HF.out _ _ _ HG.out⟩
    simp [results, Tryz.results47, go_sem, c1, c2]
  · have c1 := hg1.cell HZ1.out (by simp; omega)
    have c2 := hg1.cell HZ2.out (by simp; omega)
    have f1 := (hg1.frozen_far ⟨w.heap.size, 0, none⟩ (by rw [hz]; show w.heap.size < _; omega) (by simp; omega)).trans HZ3.out
    have f2 := (hg1.frozen_far ⟨w.heap.size + 1, 0, none⟩ (by rw [hz]; show w.heap.size + 1 < _; omega) (by simp; omega)).trans HZ4.out
    unfold shortP
    refine leaves_cons (f := 78) (args := #[.pointer (some ⟨w.heap.size, 0, none⟩), .pointer (some ⟨w.heap.size + 1, 0, none⟩)]) (by simp) (by simp [go_sem]) ?_
    refine (short_panicking ⟨w.heap.size, 0, none⟩ ⟨w.heap.size + 1, 0, none⟩ _ _ 138 _ [] _ (by simp) c1 f1 c2 f2).mono ?_
    rintro e u' w'' ⟨rfl, rfl, rfl⟩
    refine ⟨.tuple #[.nilIface, .bool false], ?_, .inr ⟨hr, rfl⟩, HF.out _ _ _ hg1⟩
    simp [results, Tryz.results47, go_sem, c1, c2]
set_option maxRecDepth 100000 in
set_option maxHeartbeats 2000000 in
theorem unique2_c (t : Tm) (u : Text) (b p q0 q1 q2 : Nat) (w : World) (hd : t.depth ≤ 24) (hg : t.good) (hu : Used u) (hT : Took w b u) (hp : w.cell? ⟨p, 0, none⟩ = some (.map (some b))) (hpb : p ≠ b)
    (h0 : w.cell? ⟨q0, 0, none⟩ = some (enc t)) (h1 : w.cell? ⟨q1, 0, none⟩ = some (pullV p)) (h2 : w.cell? ⟨q2, 0, none⟩ = some (.func (.func 46) #[] #[])) :
    Calls Tryz.prog 48 #[.pointer (some ⟨q0, 0, none⟩), .pointer (some ⟨q1, 0, none⟩), .pointer (some ⟨q2, 0, none⟩)] w (UnqP b (unqT 24 id u t) w) := by
  have K := with_c 24 id u t b p _ w hd (by omega) hg hu hT hp hpb (stands_asIs b w)
  obtain ⟨sn, sv, hs⟩ := enc_gen t
  rw [hs] at K h0
  clear hs
  go_enter Tryz.func48, Tryz.ntmps48
  go_wp2_with fail
  refine K.mono ?_
  clear K
  rintro e w2 ⟨⟨r, hr, rfl, hT2⟩ | ⟨hr, rfl⟩, hg2⟩
  · obtain ⟨rn, rv, hrv⟩ := enc_gen r.1
    have HR := Lib.hid hr
    have HV := Lib.hid hrv
    rw [hrv]
    clear hr hrv
    go_wp2_with fail
    go_ret
    exact ⟨.inl ⟨r, HR.out, by rw [HV.out]; rfl, hT2⟩, hg2⟩
  · exact ⟨rfl, .inr ⟨hr, rfl⟩, hg2⟩
theorem nam_of_letter {c : UInt8} (h : c ∈ letters) : isNam c = true := by
  simp only [letters, List.mem_cons, List.not_mem_nil, or_false] at h
  rcases h with h | h | h | h | h | h | h | h | h | h | h | h | h | h | h | h <;> subst h <;> decide
theorem used_free {t : Tm} (h : t.good) : Used (sfree t) := by
  refine ⟨fun c hc => nam_of_letter (free_letters h hc), ?_⟩
  obtain ⟨p, e⟩ := free_filter h
  rw [e]
  exact List.Pairwise.filter _ (by decide)
set_option maxHeartbeats 1000000 in
theorem pullNames_c (b : Nat) (w : World) : Calls Tryz.prog 45 #[.map (some b)] w fun e w' => e = .returned (pullV w.heap.size) ∧ w' = w.alloc (.cells #[.map (some b)] 65) := by
  have hmf : ∀ (fn : Fn) (first cap : Array Value) (w : World), (Instr.makeFunc fn first cap).run Tryz.prog w = .ok (.func fn first cap) w := fun _ _ _ _ => rfl
  go_enter Tryz.func45, Tryz.ntmps45
  go_wp2_with fail
  go_ret
  exact ⟨rfl, rfl⟩
set_option maxRecDepth 100000 in
set_option maxHeartbeats 4000000 in
theorem unique_c (t : Tm) (w : World) (hd : t.depth ≤ 24) (hg : t.good) (hp : (parts t).length ≤ 4000) :
    Calls Tryz.prog 21 #[enc t] w fun e w' => UnqQ (unqT 24 id (sfree t) t) e ∧ Below w.heap.size w w' := by
  have hmf : ∀ (fn : Fn) (first cap : Array Value) (w : World), (Instr.makeFunc fn first cap).run Tryz.prog w = .ok (.func fn first cap) w := fun _ _ _ _ => rfl
  have KF := freeIn_c 4000 t (w.alloc (.cells #[enc t] 39)) (by omega) (Nat.le_refl _) hp hg
  have hb0 := (Below.refl _ w).alloc (Nat.le_refl _) (.cells #[enc t] 39)
  have z0 : (w.alloc (.cells #[enc t] 39)).cell? ⟨w.heap.size, 0, none⟩ = some (enc t) := by simp [go_sem]
  have hz0 : (w.alloc (.cells #[enc t] 39)).heap.size = w.heap.size + 1 := by simp
  obtain ⟨tn, tv, ht⟩ := enc_gen t
  have HT := Lib.hid ht
  rw [ht] at KF hb0 z0 hz0 ⊢
  clear ht
  go_enter Tryz.func21, Tryz.ntmps21
  go_wp2_with fail
  generalize w.alloc (.cells #[.iface tn tv] 39) = W0 at *
  refine KF.mono ?_
  clear KF
  rintro e w1 ⟨b, m, rfl, hbb, hm, hTl, hb1⟩
  have hs1 := hb1.size
  have KP := pullNames_c b w1
  go_wp2_with fail
  refine KP.mono ?_
  clear KP
  rintro e w2 ⟨rfl, hw2⟩
  have hz2 : w2.heap.size = w1.heap.size + 1 := by rw [hw2]; simp
  have hb2 : Below w1.heap.size w1 w2 := by rw [hw2]; exact (Below.refl _ w1).alloc (Nat.le_refl _) _
  have zp : w2.cell? ⟨w1.heap.size, 0, none⟩ = some (.map (some b)) := by rw [hw2]; simp [go_sem]
  clear hw2
  have hbl := hTl.lt
  go_wp2_with fail
  have hb3 := below_two w2 (.cells #[pullV w1.heap.size] 83) (.cells #[.func (.func 46) #[] #[]] 85)
  have hB3 : Below w.heap.size w _ := ((hb0.trans (hb1.mono (by omega))).trans (hb2.mono (by omega))).trans (hb3.mono (by omega))
  have q0 := (hb3.cell (p := ⟨w.heap.size, 0, none⟩) (by show w.heap.size < _; omega)).trans ((hb2.cell (p := ⟨w.heap.size, 0, none⟩) (by show w.heap.size < _; omega)).trans ((hb1.cell (p := ⟨w.heap.size, 0, none⟩) (by show w.heap.size < _; omega)).trans z0))
  have q1 : ((w2.alloc (.cells #[pullV w1.heap.size] 83)).alloc (.cells #[.func (.func 46) #[] #[]] 85)).cell? ⟨w2.heap.size, 0, none⟩ = some (pullV w1.heap.size) := by simp [go_sem]
  have q2 : ((w2.alloc (.cells #[pullV w1.heap.size] 83)).alloc (.cells #[.func (.func 46) #[] #[]] 85)).cell? ⟨w2.heap.size + 1, 0, none⟩ = some (.func (.func 46) #[] #[]) := by simp [go_sem]
  have qp := (hb3.cell (p := ⟨w1.heap.size, 0, none⟩) (by show w1.heap.size < _; omega)).trans zp
  have hz3 : ((w2.alloc (.cells #[pullV w1.heap.size] 83)).alloc (.cells #[.func (.func 46) #[] #[]] 85)).heap.size = w2.heap.size + 2 := by simp
  have T3 : Took _ b (sfree t) := ⟨m, cntF t, (hTl.below hb2).below hb3, by omega, fun c => by
    have := mem_free hg c
    constructor
    · intro h hc; exact this.1 hc h
    · intro h; exact Classical.byContradiction fun h2 => h (this.2 h2)⟩
  generalize (w2.alloc (.cells #[pullV w1.heap.size] 83)).alloc (.cells #[.func (.func 46) #[] #[]] 85) = W3 at *
  have K := orShortU_c (unqT 24 id (sfree t) t) b (.pointer (some ⟨w.heap.size, 0, none⟩)) (.pointer (some ⟨w2.heap.size, 0, none⟩)) (.pointer (some ⟨w2.heap.size + 1, 0, none⟩)) W3 (by omega) (fun W hW =>
    unique2_c t (sfree t) b w1.heap.size w.heap.size w2.heap.size (w2.heap.size + 1) W hd hg (used_free hg) (T3.below hW) ((hW.cell (p := ⟨w1.heap.size, 0, none⟩) (by show w1.heap.size < _; omega)).trans qp) (by omega) (by rw [HT.out]; exact (hW.cell (p := ⟨w.heap.size, 0, none⟩) (by show w.heap.size < _; omega)).trans q0) ((hW.cell (p := ⟨w2.heap.size, 0, none⟩) (by show w2.heap.size < _; omega)).trans q1) ((hW.cell (p := ⟨w2.heap.size + 1, 0, none⟩) (by show w2.heap.size + 1 < _; omega)).trans q2))
  clear z0 zp q0 q1 q2 qp T3 hTl
  rw [hz2] at K
  refine K.mono ?_
  clear K
  rintro e w4 ⟨⟨r, hr, rfl⟩ | ⟨hr, rfl⟩, hg4⟩
  · obtain ⟨rn, rv, hrv⟩ := enc_gen r.1
    have HR := Lib.hid hr
    have HV := Lib.hid hrv
    rw [hrv]
    clear hr hrv
    go_wp2_with fail
    go_ret2
    exact ⟨.inl ⟨r, HR.out, by rw [HV.out]; rfl⟩, hB3.grown hg4 hB3.size (fun j hj => by cases hj; omega)⟩
  · have HR := Lib.hid hr
    clear hr
    go_wp2_with fail
    go_ret2
    exact ⟨.inr ⟨HR.out, rfl⟩, hB3.grown hg4 hB3.size (fun j hj => by cases hj; omega)⟩
/-- What Unique comes to, and that it is like what was read. -/
theorem unqO_facts {s : Text} {t : Tm} (hr : readS s = some t) : unqO s = (unqT 24 id (sfree t) t).map (·.1) ∧ ∀ r, unqT 24 id (sfree t) t = some r → Alike r.1 t := by
  obtain ⟨tg, td, tp⟩ := read_facts hr
  refine ⟨by unfold unqO; rw [hr]; rfl, fun r h => (unqT_like 24 tg (fun c hc => hc) (used_free tg) h).1⟩
attribute [local irreducible] Calls
set_option maxRecDepth 100000 in
set_option maxHeartbeats 4000000 in
theorem iUnique_c (s : Text) (w : World) (hl : s.length ≤ 9223372036854775807) :
    Calls Tryz.prog 7 #[.string ⟨s.toArray⟩] w fun e w' => e = .returned (.tuple #[.string ⟨(textO (unqO s)).toArray⟩, .bool (unqO s).isSome]) ∧ Below w.heap.size w w' := by
  have C1 := fun W => read_c s W hl
  simp only [← readS_eq] at C1
  rcases hr : readS s with _ | t
  · have hO : unqO s = none := by unfold unqO; rw [hr]; rfl
    rw [hO]
    rw [hr] at C1
    clear hr hO
    go_enter Tryz.func7, Tryz.ntmps7
    go_wp2_with fail
    refine (C1 _).mono ?_
    clear C1
    rintro e w1 ⟨rfl, hb1⟩
    go_wp2_with fail
    go_ret2
    exact ⟨rfl, hb1⟩
  · obtain ⟨hO, hA⟩ := unqO_facts hr
    obtain ⟨tg, td, tp⟩ := read_facts hr
    rw [hO]
    rw [hr] at C1
    have KU := fun W => unique_c t W td tg (by omega)
    clear hr hO
    generalize unqT 24 id (sfree t) t = o at *
    rw [enc_ty t] at KU
    have HA := Lib.hid hA
    clear hA
    go_enter Tryz.func7, Tryz.ntmps7
    go_wp2_with fail
    refine (C1 _).mono ?_
    clear C1
    rintro e w1 ⟨rfl, hb1⟩
    have hs1 := hb1.size
    rw [enc_ty t]
    go_wp2_with fail
    refine (KU _).mono ?_
    clear KU
    rintro e w2 ⟨⟨r, hr, rfl⟩ | ⟨rfl, rfl⟩, hb2⟩
    · have A := HA.out r hr
      subst hr
      have KT := text_c 4000 r.1 (by rw [A.deep]; omega) (A.good tg) (by rw [A.many]; omega) w2
      rw [enc_ty r.1]
      have hB := hb1.trans (hb2.mono hb1.size)
      go_wp2_with (refine wpList_invoke rfl _ _ (ty r.1) (pl r.1) rfl rfl (tf r.1) (text_m r.1 _ (by unfold TextName; kernel_rfl) _) (text_f r.1 _) (fun rv w' => rv = .string ⟨(textN r.1).toArray⟩ ∧ Below w.heap.size w w') (KT.mono fun e w' ⟨h1, h2⟩ => ⟨_, h1, rfl, hB.trans (h2.mono hB.size)⟩) ?_; rintro rv w9 ⟨rfl, hb9⟩)
      go_ret2
      exact ⟨rfl, hb9⟩
    · go_wp2_with fail
      go_ret2
      exact ⟨rfl, hb1.trans (hb2.mono hb1.size)⟩
end Go.Proofs.YtojbffiffcfblaaGreat
