import Derived.Test.YtefmmgccdpfnaaaGreatDoorStC
import Derived.Test.YtefmmgccdpfnaaaGreatDoorStN
import Derived.Test.YtefmmgccdpfnaaaGreatDoorStA
import Derived.Test.YtefmmgccdpfnaaaGreatDoorMTx
import Derived.Test.YtefmmgccdpfnaaaGreatDoorMPe
import Derived.Test.YtefmmgccdpfnaaaGreatDoorMSq
/- RedexOf: the specification's and the program's; the law. -/
namespace Go.Proofs.YtefmmgccdpfnaaaGreatDoor
open Go.RowKit
open Ff
set_option linter.unusedVariables false

/-- What a state's next part is. -/
def redexO (s : Text) : Option Tm := (stateO s).bind fun t => if t.isVal = true then none else some (partAt t (redexP t))
def redexT : Option Tm → Text
  | some t => textN t
  | none => []
/-- What is known of a state. -/
theorem state_facts {s : Text} {t : Tm} (h : stateO s = some t) : t.good ∧ t.depth ≤ 1500 ∧ (parts t).length ≤ 1500 ∧ ∀ x, cntF t x = 0 := by
  unfold stateO at h
  rcases hr : readU 1500 s with _ | t'
  · rw [hr] at h; cases h
  · rw [hr] at h
    simp only [Option.bind_some] at h
    split at h
    · rename_i hz
      injection h with h
      subst h
      have hg := readU_good hr
      exact ⟨hg, readU_deep hr, readU_parts hr, (free_nil hg).1 hz⟩
    · cases h
theorem part_at_facts : ∀ (t : Tm) (p : List Nat), PathOk t p → (t.good → (partAt t p).good) ∧ (partAt t p).depth ≤ t.depth ∧ (parts (partAt t p)).length ≤ (parts t).length
  | t, [], _ => ⟨fun h => h, Nat.le_refl _, Nat.le_refl _⟩
  | t, i :: p, h => by
    obtain ⟨s, hs, h⟩ := h
    have hm := List.mem_of_getElem? hs
    obtain ⟨h1, h2, h3⟩ := part_at_facts s p h
    have e : partAt t (i :: p) = partAt s p := by simp only [partAt, hs]
    rw [e]
    exact ⟨fun g => h1 (Tm.kid_good g hm), by have := kid_depth hm; omega, by have := parts_kid_le hm; omega⟩
set_option maxRecDepth 100000 in
set_option maxHeartbeats 4000000 in
theorem sRedexOf_c (s : Text) (w : World) (hl : s.length ≤ 9223372036854775807) :
    Calls Tryz.prog 29 #[.string ⟨s.toArray⟩] w fun e w' => e = .returned (.tuple #[.string ⟨(redexT (redexO s)).toArray⟩, .bool (redexO s).isSome]) ∧ Below w.heap.size w w' := by
  have C := l4Read_c s w hl
  obtain ⟨O, hO⟩ : ∃ O, O = redexO s := ⟨_, rfl⟩
  rw [← hO]
  unfold redexO at hO
  rcases hs : stateO s with _ | t
  · rw [hs] at C hO
    obtain rfl : O = none := hO
    clear hs
    go_enter Tryz.func29, Tryz.ntmps29
    go_wp2_with fail
    refine C.mono ?_
    rintro e w1 ⟨v, rfl, ⟨k, n, st, aa, l, c, rfl⟩, hb1, _⟩
    go_wp2_with fail
    go_ret2
    exact ⟨rfl, hb1.alloc hb1.size _⟩
  · rw [hs] at C hO
    simp only [Option.bind_some] at hO
    obtain ⟨hg, hd, hp, hc⟩ := state_facts hs
    clear hs
    have C2 : Calls Tryz.prog 35 #[.string ⟨s.toArray⟩] w fun e w1 => ∃ (x0 x1 : Int) (x2 : ByteArray) (x3 : Option Addr) (x4 x5 : Nat), e = .returned (.tuple #[.agg #[.int .u8 x0, .int .i64 x1, .string x2, .slice x3 x4 x5], .bool true]) ∧ Below w.heap.size w w1 ∧ Rep (New w w1) w1 t (.agg #[.int .u8 x0, .int .i64 x1, .string x2, .slice x3 x4 x5]) := C.mono fun e w1 h => by
      obtain ⟨v, h1, ⟨x0, x1, x2, x3, x4, x5, rfl⟩, h3, h4⟩ := h
      exact ⟨x0, x1, x2, x3, x4, x5, h1, h3, h4 t rfl⟩
    have KN : ∀ w1 (x0 x1 : Int) (x2 : ByteArray) (x3 : Option Addr) (x4 x5 : Nat), Rep (New w w1) w1 t (.agg #[.int .u8 x0, .int .i64 x1, .string x2, .slice x3 x4 x5]) → ∀ W, Below w1.heap.size w1 W →
        Calls Tryz.prog 55 #[.agg #[.int .u8 x0, .int .i64 x1, .string x2, .slice x3 x4 x5]] W (fun e w' => ∃ g cap, e = .returned (.tuple #[.slice (some ⟨g, 0, none⟩) (redexP t).length cap, .bool (!t.isVal)]) ∧ PathC cap w' g (redexP t) ∧ Below W.heap.size W w') :=
      fun w1 x0 x1 x2 x3 x4 x5 hr W hW => l4next_c t.depth (fun g => g < W.heap.size) t _ W (Nat.le_refl _) (by omega) hg hc (fun g h => h) (hr.keep (fun g h => hW.block g h.2) (fun g h => by have := h.2; have := hW.size; omega))
    have hpl := redexP_len t
    have hok := redexP_ok t
    obtain ⟨pg, pd, pp⟩ := part_at_facts t (redexP t) hok
    cases hv : t.isVal
    · obtain rfl : O = some (partAt t (redexP t)) := by rw [hO, hv]; simp
      simp only [hv] at KN
      have KA : ∀ w1 (x0 x1 : Int) (x2 : ByteArray) (x3 : Option Addr) (x4 x5 : Nat), Rep (New w w1) w1 t (.agg #[.int .u8 x0, .int .i64 x1, .string x2, .slice x3 x4 x5]) → ∀ W g cap, Below w1.heap.size w1 W → PathAt W g (redexP t) →
          Calls Tryz.prog 56 #[.agg #[.int .u8 x0, .int .i64 x1, .string x2, .slice x3 x4 x5], .slice (some ⟨g, 0, none⟩) (redexP t).length cap] W (fun e w' => ∃ (z0 z1 : Int) (z2 : ByteArray) (z3 : Option Addr) (z4 z5 : Nat), e = .returned (.agg #[.int .u8 z0, .int .i64 z1, .string z2, .slice z3 z4 z5]) ∧ Rep (fun g => g < W.heap.size) w' (partAt t (redexP t)) (.agg #[.int .u8 z0, .int .i64 z1, .string z2, .slice z3 z4 z5]) ∧ Below W.heap.size W w') :=
        fun w1 x0 x1 x2 x3 x4 x5 hr W g cap hW hpa => (at_c (fun g => g < W.heap.size) t _ (redexP t) g cap W (fun g h => h) (hr.keep (fun g h => hW.block g h.2) (fun g h => by have := h.2; have := hW.size; omega)) hpa hok (by omega)).mono fun e w' h => by
          obtain ⟨v, h1, h2, h3⟩ := h
          obtain ⟨z0, z1, z2, z3, z4, z5, rfl⟩ := h2.junk
          exact ⟨z0, z1, z2, z3, z4, z5, h1, h2, h3⟩
      have KT : ∀ (z0 z1 : Int) (z2 : ByteArray) (z3 : Option Addr) (z4 z5 : Nat) W B, B ≤ W.heap.size → Rep (fun g => g < B) W (partAt t (redexP t)) (.agg #[.int .u8 z0, .int .i64 z1, .string z2, .slice z3 z4 z5]) → Calls Tryz.prog 37 #[.agg #[.int .u8 z0, .int .i64 z1, .string z2, .slice z3 z4 z5]] W fun e w' => e = .returned (.string ⟨(textN (partAt t (redexP t))).toArray⟩) ∧ Below W.heap.size W w' :=
        fun z0 z1 z2 z3 z4 z5 W B hB hr => stext_c 4000 _ B _ W (by omega) (Nat.le_refl _) (by omega) hr hB (pg hg)
      have HV := Lib.hid hv
      clear C hO hv hpl hok pg pd pp
      generalize redexP t = p at *
      generalize partAt t p = q at *
      go_enter Tryz.func29, Tryz.ntmps29
      go_wp2_with (first
        | (go_at_call 35; refine C2.mono ?_; clear C2; rintro e w1 ⟨x0, x1, x2, x3, x4, x5, rfl, hb1, hr1⟩
           have z1 := alloc_here w1 (tmO x0 x1 x2 x3 x4 x5)
           have t1 : Below w1.heap.size w1 (w1.alloc (tmO x0 x1 x2 x3 x4 x5)) := (Below.refl _ _).alloc (Nat.le_refl _) _
           have K1 := KN w1 x0 x1 x2 x3 x4 x5 hr1 _ t1
           clear KN)
        | (go_at_call 55; refine K1.mono ?_; clear K1; rintro e w2 ⟨g, cap, rfl, hpa, hb2⟩
           have t2 : Below w1.heap.size w1 w2 := t1.trans (hb2.mono t1.size)
           have K2 := KA w1 x0 x1 x2 x3 x4 x5 hr1 w2 g cap t2 hpa.1
           obtain ⟨a0, a1, a2, a3, _⟩ := cells4 ((hb2.block w1.heap.size (by simp)).trans z1)
           clear KA)
        | (go_at_call 56; refine K2.mono ?_; clear K2; rintro e w3 ⟨z0, z1', z2, z3, z4, z5, rfl, hr3, hb3⟩
           have K3 := KT z0 z1' z2 z3 z4 z5 w3 w2.heap.size hb3.size hr3
           clear KT)
        | (go_at_call 37; refine K3.mono ?_; clear K3; rintro e w4 ⟨rfl, hb4⟩))
      go_ret2
      exact ⟨rfl, ((hb1.trans (t2.mono hb1.size)).trans (hb3.mono (by have := hb1.size; have := t2.size; omega))).trans (hb4.mono (by have := hb1.size; have := t2.size; have := hb3.size; omega))⟩
    · obtain rfl : O = none := by rw [hO, hv]; simp
      simp only [hv] at KN
      clear C hO hv hpl hok pg pd pp
      generalize redexP t = p at *
      go_enter Tryz.func29, Tryz.ntmps29
      go_wp2_with (first
        | (go_at_call 35; refine C2.mono ?_; clear C2; rintro e w1 ⟨x0, x1, x2, x3, x4, x5, rfl, hb1, hr1⟩
           have t1 : Below w1.heap.size w1 (w1.alloc (tmO x0 x1 x2 x3 x4 x5)) := (Below.refl _ _).alloc (Nat.le_refl _) _
           have K1 := KN w1 x0 x1 x2 x3 x4 x5 hr1 _ t1
           clear KN)
        | (go_at_call 55; refine K1.mono ?_; clear K1; rintro e w2 ⟨g, cap, rfl, hpa, hb2⟩
           have t2 : Below w1.heap.size w1 w2 := t1.trans (hb2.mono t1.size)))
      go_ret2
      exact ⟨rfl, hb1.trans (t2.mono hb1.size)⟩
/-- Nothing told of what fills. -/
theorem fill_any : FillOk (fun _ _ _ _ _ => True) where
  keep := fun _ _ _ _ _ _ _ _ => trivial
  mono := fun _ _ _ _ _ _ _ _ => trivial
  whole := fun _ _ _ => trivial
  within := fun B t s k fn first cap p w hg hs hB _ => by
    have hmf : ∀ (fn : Fn) (first cap : Array Value) (w : World), (Instr.makeFunc fn first cap).run Tryz.prog w = .ok (.func fn first cap) w := fun _ _ _ _ => rfl
    obtain ⟨n, v, hnv⟩ := enc_gen t
    rw [hnv]
    clear hnv
    go_enter Tryz.func68, Tryz.ntmps68
    go_wp2_with fail
    go_ret
    exact ⟨_, _, _, rfl, trivial, below_three w _ _ _⟩
set_option maxRecDepth 100000 in
set_option maxHeartbeats 4000000 in
theorem iRedexOf_c (s : Text) (w : World) (hl : s.length ≤ 9223372036854775807) :
    Calls Tryz.prog 12 #[.string ⟨s.toArray⟩] w fun e w' => e = .returned (.tuple #[.string ⟨(redexT (redexO s)).toArray⟩, .bool (redexO s).isSome]) ∧ Below w.heap.size w w' := by
  have C := readState_c s w hl
  obtain ⟨O, hO⟩ : ∃ O, O = redexO s := ⟨_, rfl⟩
  rw [← hO]
  unfold redexO at hO
  rcases hs : stateO s with _ | t
  · rw [hs] at C hO
    obtain rfl : O = none := hO
    simp only [encO, Option.isSome_none] at C
    clear hs
    go_enter Tryz.func12, Tryz.ntmps12
    go_wp2_with fail
    refine C.mono ?_
    rintro e w1 ⟨rfl, hb1⟩
    go_wp2_with fail
    go_ret2
    exact ⟨rfl, hb1.alloc hb1.size _⟩
  · rw [hs] at C hO
    simp only [Option.bind_some] at hO
    obtain ⟨hg, hd, hp, hc⟩ := state_facts hs
    simp only [encO, Option.isSome_some] at C
    clear hs
    have KN := fun W => pnext_c _ fill_any t.depth t W (Nat.le_refl _) (by omega) hg
    obtain ⟨pg, pd, pp⟩ := part_at_facts t (redexP t) (redexP_ok t)
    cases hv : t.isVal
    · obtain rfl : O = some (partAt t (redexP t)) := by rw [hO, hv]; simp
      have KN2 : ∀ W, Calls Tryz.prog 38 #[.agg #[enc t]] W fun e w' => ∃ fn first cap, e = .returned (.tuple #[.agg #[enc (partAt t (redexP t)), .func fn first cap], .bool true]) ∧ Below W.heap.size W w' := fun W => (KN W).mono fun e w' h => by
        obtain ⟨h1, ⟨h2, _⟩ | ⟨_, fn, first, cap, h3, _⟩⟩ := h
        · rw [hv] at h2; cases h2
        · exact ⟨fn, first, cap, h3, h1⟩
      have KT := fun W => text_c _ (partAt t (redexP t)) (Nat.le_refl _) (pg hg) (by omega) W
      clear hO hv pg pd pp KN
      generalize partAt t (redexP t) = q at *
      obtain ⟨tn, tv, htv⟩ := enc_gen t
      rw [htv] at C
      simp only [htv, enc_ty q] at KN2
      clear htv
      go_enter Tryz.func12, Tryz.ntmps12
      go_wp2_with (first
        | (go_at_call 33; refine C.mono ?_; clear C; rintro e w1 ⟨rfl, hb1⟩)
        | (go_at_call 38; refine (KN2 _).mono ?_; clear KN2; rintro e w2 ⟨fn, first, cap, rfl, hb2⟩; have hB2 : Below w.heap.size w w2 := (hb1.alloc hb1.size _).trans (hb2.mono (by have := hb1.size; simp; omega)))
        | (refine wpList_invoke rfl _ _ (ty q) (pl q) rfl rfl (tf q) (text_m q _ (by unfold TextName; kernel_rfl) _) (text_f q _) (fun rv w' => rv = .string ⟨(textN q).toArray⟩ ∧ Below w.heap.size w w') ((KT _).mono fun e w' ⟨h1, h2⟩ => ⟨_, h1, rfl, (hB2.alloc hB2.size _).trans (h2.mono (by have := hB2.size; simp; omega))⟩) ?_; rintro rv w3 ⟨rfl, hb3⟩))
      go_ret2
      exact ⟨rfl, hb3⟩
    · obtain rfl : O = none := by rw [hO, hv]; simp
      have KN2 : ∀ W, Calls Tryz.prog 38 #[.agg #[enc t]] W fun e w' => e = .returned (.tuple #[.agg #[.nilIface, .nilFunc], .bool false]) ∧ Below W.heap.size W w' := fun W => (KN W).mono fun e w' h => by
        obtain ⟨h1, ⟨_, h2⟩ | ⟨h2, _⟩⟩ := h
        · exact ⟨h2, h1⟩
        · rw [hv] at h2; cases h2
      clear hO hv pg pd pp KN
      obtain ⟨tn, tv, htv⟩ := enc_gen t
      rw [htv] at C
      simp only [htv] at KN2
      clear htv
      go_enter Tryz.func12, Tryz.ntmps12
      go_wp2_with (first
        | (go_at_call 33; refine C.mono ?_; clear C; rintro e w1 ⟨rfl, hb1⟩)
        | (go_at_call 38; refine (KN2 _).mono ?_; clear KN2; rintro e w2 ⟨rfl, hb2⟩; have hB2 : Below w.heap.size w w2 := (hb1.alloc hb1.size _).trans (hb2.mono (by have := hb1.size; simp; omega))))
      go_ret2
      exact ⟨rfl, hB2.alloc hB2.size _⟩
end Go.Proofs.YtefmmgccdpfnaaaGreatDoor

/- IsStuck: what is next, and whether a rule fits it; the specification's and the program's; the law. -/
namespace Go.Proofs.YtefmmgccdpfnaaaGreatDoor
open Go.RowKit
open Ff
set_option linter.unusedVariables false

/-- A part that no rule fits. -/
def stuckT : Tm → Bool
  | .app f _ => isNum f
  | .sel a _ _ => !isNum a
  | .op _ l r => !(isNum l && isNum r)
  | _ => false
/-- What is known of the part that is next. -/
structure NextOk (q : Tm) : Prop where
  noval : q.isVal = false
  closed : Closed q
  kids : ∀ (k : Nat) (s : Tm), (evalK q)[k]? = some s → s.isVal = true
theorem next_ok : ∀ (n : Nat) (t : Tm), t.depth ≤ n → t.isVal = false → Closed t → NextOk (partAt t (redexP t))
  | 0, t, hd, _, _ => absurd hd (by have := t.depth_pos; omega)
  | n + 1, t, hd, hv, hc => by
    by_cases hall : ∀ (k : Nat) (s : Tm), (evalK t)[k]? = some s → s.isVal = true
    · rw [redexP_none hall]
      exact ⟨hv, hc, hall⟩
    · have hex : ∃ k s, (evalK t)[k]? = some s ∧ s.isVal = false ∧ ∀ (j : Nat) (r : Tm), j < k → (evalK t)[j]? = some r → r.isVal = true := by
        have hlen := evalK_len t
        rcases h0 : (evalK t)[0]? with _ | s0
        · exfalso
          apply hall
          intro k s hs
          have h1 := (List.getElem?_eq_some_iff.1 hs).1
          have h2 := List.getElem?_eq_none_iff.1 h0
          omega
        · cases hs0 : s0.isVal
          · exact ⟨0, s0, h0, hs0, fun j r hj => by omega⟩
          · rcases h1 : (evalK t)[1]? with _ | s1
            · exfalso
              apply hall
              intro k s hs
              have h2 := (List.getElem?_eq_some_iff.1 hs).1
              have h3 := List.getElem?_eq_none_iff.1 h1
              obtain rfl : k = 0 := by omega
              rw [h0] at hs
              injection hs with hs
              rw [← hs]; exact hs0
            · cases hs1 : s1.isVal
              · exact ⟨1, s1, h1, hs1, fun j r hj hr => by
                  obtain rfl : j = 0 := by omega
                  rw [h0] at hr
                  injection hr with hr
                  rw [← hr]; exact hs0⟩
              · exfalso
                apply hall
                intro k s hs
                have h2 := (List.getElem?_eq_some_iff.1 hs).1
                rcases k with _ | _ | k
                · rw [h0] at hs; injection hs with hs; rw [← hs]; exact hs0
                · rw [h1] at hs; injection hs with hs; rw [← hs]; exact hs1
                · omega
      obtain ⟨k, s, hs, hsv, hprev⟩ := hex
      rw [redexP_some hs hsv hprev]
      have e : partAt t (k :: redexP s) = partAt s (redexP s) := by simp only [partAt, evalK_kid hs]
      rw [e]
      exact next_ok n s (by have := kid_depth (List.mem_of_getElem? (evalK_kid hs)); omega) hsv (evalK_closed hs hc)
theorem stuck_rule {q : Tm} (h : NextOk q) : stuckT q = (ruleT q).isNone := by
  obtain ⟨hv, hc, hk⟩ := h
  cases q with
  | num k => cases hv
  | fn c b => cases hv
  | fix f c b => cases hv
  | var c => exact absurd (hc c) (by simp [cntF])
  | bind c v b => rfl
  | app f a =>
    have := hk 0 f rfl
    cases f <;> first | rfl | cases this
  | sel a y z =>
    have := hk 0 a rfl
    cases a with
    | num k => by_cases h : k = 0 <;> simp [stuckT, ruleT, isNum, h]
    | fn c b => rfl
    | fix f c b => rfl
    | _ => cases this
  | op o l r =>
    have h0 := hk 0 l rfl
    have h1 := hk 1 r rfl
    cases l with
    | num a => cases r <;> first | rfl | cases h1
    | fn c b => rfl
    | fix f c b => rfl
    | _ => cases h0
theorem reduced_c (q : Tm) (w : World) (hg : q.good) (hd : q.depth ≤ 1500) (hp : (parts q).length ≤ 1500) (h : NextOk q) : Calls Tryz.prog 58 #[enc q] w (RedP (ruleT q) w) := by
  obtain ⟨hv, hc, hk⟩ := h
  have kd := fun (s : Tm) (hs : s ∈ q.kids) => kid_depth hs
  have kp := fun (s : Tm) (hs : s ∈ q.kids) => parts_kid_le hs
  have kg := fun (s : Tm) (hs : s ∈ q.kids) => Tm.kid_good hg hs
  cases q with
  | num k => cases hv
  | fn c b => cases hv
  | fix f c b => cases hv
  | var c => exact absurd (hc c) (by simp [cntF])
  | bind c v b =>
    have mb : b ∈ (Tm.bind c v b).kids := by simp [Tm.kids]
    have mv : v ∈ (Tm.bind c v b).kids := by simp [Tm.kids]
    have d1 := kd b mb
    have d2 := kd v mv
    have p2 := kp v mv
    exact reduced_bind c v b w (by omega) (kg b mb) (kg v mv) (by omega) (by omega) (evalK_closed (k := 0) (t := .bind c v b) rfl hc)
  | app f a =>
    have mf : f ∈ (Tm.app f a).kids := by simp [Tm.kids]
    have ma : a ∈ (Tm.app f a).kids := by simp [Tm.kids]
    have d1 := kd f mf
    have d2 := kd a ma
    have p1 := kp f mf
    have p2 := kp a ma
    have g1 := kg f mf
    have g2 := kg a ma
    have ca : Closed a := evalK_closed (k := 1) (t := .app f a) rfl hc
    have cf : Closed f := evalK_closed (k := 0) (t := .app f a) rfl hc
    have hf := hk 0 f rfl
    cases f with
    | num k => exact reduced_stuckApp _ a w rfl
    | fn c b =>
      have d0 : (Tm.fn c b).depth = b.depth + 1 := by simp [Tm.depth]
      exact reduced_fn c b a w (by omega) g1.2 g2 (by omega) (by omega) ca
    | fix f c b =>
      have d0 : (Tm.fix f c b).depth = b.depth + 1 := by simp [Tm.depth]
      have p0 : (parts (Tm.fix f c b)).length = (parts b).length + 1 := by simp [parts]
      exact reduced_fix f c b a _ _ w g1.1 rfl rfl g1 (by omega) (by omega) g2 (by omega) (by omega) ca cf
    | _ => cases hf
  | sel a y z =>
    have ha := hk 0 a rfl
    cases a with
    | num k =>
      by_cases h : k = 0
      · have e : ruleT (.sel (.num k) y z) = some (y, [122, 101, 114, 111]) := by simp [ruleT, h]
        rw [e]
        exact reduced_zero k y z w h
      · have e : ruleT (.sel (.num k) y z) = some (z, [111, 116, 104, 101, 114]) := by simp [ruleT, h]
        rw [e]
        exact reduced_other k y z w h
    | fn c b => exact reduced_stuckSel _ y z w rfl
    | fix f c b => exact reduced_stuckSel _ y z w rfl
    | _ => cases ha
  | op o l r =>
    have h0 := hk 0 l rfl
    have h1 := hk 1 r rfl
    have ho : o.toNat = 43 ∨ o.toNat = 45 ∨ o.toNat = 42 := by rcases hg.1 with h | h | h <;> subst h <;> decide
    cases l with
    | num a =>
      cases r with
      | num b => exact reduced_number o a b w ho hg.2.1 hg.2.2
      | fn c d => exact reduced_stuckOp o _ _ w rfl
      | fix f c d => exact reduced_stuckOp o _ _ w rfl
      | _ => cases h1
    | fn c b => exact reduced_stuckOp o _ _ w rfl
    | fix f c b => exact reduced_stuckOp o _ _ w rfl
    | _ => cases h0
/-- Is a closed term stuck? -/
def stuckO (t : Tm) : Bool := if t.isVal = true then false else stuckT (partAt t (redexP t))
set_option maxRecDepth 100000 in
set_option maxHeartbeats 4000000 in
theorem iStuck_c (t : Tm) (w : World) (hg : t.good) (hd : t.depth ≤ 1500) (hp : (parts t).length ≤ 1500) (hc : Closed t) :
    Calls Tryz.prog 39 #[.agg #[enc t]] w fun e w' => e = .returned (.bool (stuckO t)) ∧ Below w.heap.size w w' := by
  have KN := fun W => pnext_c _ fill_any t.depth t W (Nat.le_refl _) (by omega) hg
  obtain ⟨pg, pd, pp⟩ := part_at_facts t (redexP t) (redexP_ok t)
  unfold stuckO
  cases hv : t.isVal
  · have hN := next_ok t.depth t (Nat.le_refl _) hv hc
    have KN2 : ∀ W, Calls Tryz.prog 38 #[.agg #[enc t]] W fun e w' => ∃ fn first cap, e = .returned (.tuple #[.agg #[enc (partAt t (redexP t)), .func fn first cap], .bool true]) ∧ Below W.heap.size W w' := fun W => (KN W).mono fun e w' h => by
      obtain ⟨h1, ⟨h2, _⟩ | ⟨_, fn, first, cap, h3, _⟩⟩ := h
      · rw [hv] at h2; cases h2
      · exact ⟨fn, first, cap, h3, h1⟩
    have KR := fun W => reduced_c (partAt t (redexP t)) W (pg hg) (by omega) (by omega) hN
    have hst := stuck_rule hN
    clear hv pg pd pp KN hN
    generalize partAt t (redexP t) = q at *
    obtain ⟨tn, tv, htv⟩ := enc_gen t
    obtain ⟨qn, qv, hqv⟩ := enc_gen q
    rw [htv]
    simp only [htv, hqv] at KN2
    simp only [hqv] at KR
    simp only [Bool.false_eq_true, if_false]
    unfold RedP at KR
    clear htv hqv
    rcases hr : ruleT q with _ | ⟨r, nm⟩
    · rw [hr] at hst KR
      simp only at KR
      rw [hst]
      clear hst hr
      go_enter Tryz.func39, Tryz.ntmps39
      go_wp2_with (first
        | (go_at_call 38; refine (KN2 _).mono ?_; clear KN2; rintro e w2 ⟨fn, first, cap, rfl, hb2⟩; have hB2 : Below w.heap.size w w2 := ((Below.refl _ w).alloc (Nat.le_refl _) _).trans (hb2.mono (by simp)))
        | (go_at_call 58; refine (KR _).mono ?_; clear KR; rintro e w3 ⟨rfl, hb3⟩))
      go_ret
      exact ⟨rfl, (hB2.alloc hB2.size _).trans (hb3.mono (by have := hB2.size; simp; omega))⟩
    · rw [hr] at hst KR
      simp only at KR
      rw [hst]
      obtain ⟨rn, rv, hrv⟩ := enc_gen r
      simp only [hrv] at KR
      clear hst hr hrv
      go_enter Tryz.func39, Tryz.ntmps39
      go_wp2_with (first
        | (go_at_call 38; refine (KN2 _).mono ?_; clear KN2; rintro e w2 ⟨fn, first, cap, rfl, hb2⟩; have hB2 : Below w.heap.size w w2 := ((Below.refl _ w).alloc (Nat.le_refl _) _).trans (hb2.mono (by simp)))
        | (go_at_call 58; refine (KR _).mono ?_; clear KR; rintro e w3 ⟨rfl, hb3⟩))
      go_ret
      exact ⟨rfl, (hB2.alloc hB2.size _).trans (hb3.mono (by have := hB2.size; simp; omega))⟩
  · have KN2 : ∀ W, Calls Tryz.prog 38 #[.agg #[enc t]] W fun e w' => e = .returned (.tuple #[.agg #[.nilIface, .nilFunc], .bool false]) ∧ Below W.heap.size W w' := fun W => (KN W).mono fun e w' h => by
      obtain ⟨h1, ⟨_, h2⟩ | ⟨h2, _⟩⟩ := h
      · exact ⟨h2, h1⟩
      · rw [hv] at h2; cases h2
    clear hv pg pd pp KN
    obtain ⟨tn, tv, htv⟩ := enc_gen t
    rw [htv]
    simp only [htv] at KN2
    simp only [if_true]
    clear htv
    go_enter Tryz.func39, Tryz.ntmps39
    go_wp2_with (go_at_call 38; refine (KN2 _).mono ?_; clear KN2; rintro e w2 ⟨rfl, hb2⟩; have hB2 : Below w.heap.size w w2 := ((Below.refl _ w).alloc (Nat.le_refl _) _).trans (hb2.mono (by simp)))
    go_ret
    exact ⟨rfl, hB2.alloc hB2.size _⟩
end Go.Proofs.YtefmmgccdpfnaaaGreatDoor

/- IsStuck: the specification's, and the law. -/
namespace Go.Proofs.YtefmmgccdpfnaaaGreatDoor
open Go.RowKit
open Ff
set_option linter.unusedVariables false

theorem kind_num {s : Tm} (h : s.good) : ((kindOf s : Int) == 110) = isNum s ∧ ((kindOf s : Int) != 110) = !isNum s := by
  have e : ((kindOf s : Int) == 110) = isNum s := by
    cases s with
    | op o l r => rcases h.1 with h | h | h <;> subst h <;> rfl
    | _ => rfl
  exact ⟨e, by rw [bne, e]⟩
/-- The cells of a part that lies in a box that has just been made: its kind, and its kids' kinds. -/
theorem kid_kind {B : Nat} {w : World} {q f : Tm} {k : Nat} {z0 z1 : Int} {z2 : ByteArray} {z3 : Option Addr} {z4 z5 : Nat} (K : Int) (L o : Nat) (hr : Rep (fun g => g < B) w q (.agg #[.int .u8 z0, .int .i64 z1, .string z2, .slice z3 z4 z5])) (hB : B ≤ w.heap.size) (hf : q.kids[k]? = some f) (hK : (kindOf q : Int) = K) (hL : q.kids.length = L) (ho : k * 4 = o) :
    ∃ g, z3 = some ⟨g, 0, none⟩ ∧ z4 = L ∧ z0 = K ∧ (w.alloc (tmO z0 z1 z2 z3 z4 z5)).cell? ⟨g, o, none⟩ = some (.int .u8 (kindOf f : Int)) := by
  obtain ⟨g, h1, h2, _, h3⟩ := hr.open (fun g hg => by omega)
  obtain ⟨y0, y1, y2, y3, y4, y5, h4, h5⟩ := h3 k f hf
  obtain ⟨h6, _⟩ := h5 _ ((Below.refl _ w).alloc (Nat.le_refl _) (tmO z0 z1 z2 z3 z4 z5))
  rw [h4.kind.1, ho] at h6
  exact ⟨g, h1, h2.trans hL, hr.kind.1.trans hK, h6⟩
/-- The search and the look, for a closed term in memory. -/
structure FaultK (t : Tm) (w : World) (x0 x1 : Int) (x2 : ByteArray) (x3 : Option Addr) (x4 x5 : Nat) : Prop where
  next : ∀ W, Below w.heap.size w W → Calls Tryz.prog 55 #[.agg #[.int .u8 x0, .int .i64 x1, .string x2, .slice x3 x4 x5]] W (fun e w' => ∃ g cap, e = .returned (.tuple #[.slice (some ⟨g, 0, none⟩) (redexP t).length cap, .bool (!t.isVal)]) ∧ PathC cap w' g (redexP t) ∧ Below W.heap.size W w')
  look : ∀ W g cap, Below w.heap.size w W → PathAt W g (redexP t) → Calls Tryz.prog 56 #[.agg #[.int .u8 x0, .int .i64 x1, .string x2, .slice x3 x4 x5], .slice (some ⟨g, 0, none⟩) (redexP t).length cap] W (fun e w' => ∃ (z0 z1 : Int) (z2 : ByteArray) (z3 : Option Addr) (z4 z5 : Nat), e = .returned (.agg #[.int .u8 z0, .int .i64 z1, .string z2, .slice z3 z4 z5]) ∧ Rep (fun g => g < W.heap.size) w' (partAt t (redexP t)) (.agg #[.int .u8 z0, .int .i64 z1, .string z2, .slice z3 z4 z5]) ∧ Below W.heap.size W w')
theorem faultK {t : Tm} {w : World} {S : Nat → Prop} {x0 x1 : Int} {x2 : ByteArray} {x3 : Option Addr} {x4 x5 : Nat} (hg : t.good) (hd : t.depth ≤ 1500) (hc : Closed t) (hS : ∀ g, S g → g < w.heap.size) (hr : Rep S w t (.agg #[.int .u8 x0, .int .i64 x1, .string x2, .slice x3 x4 x5])) : FaultK t w x0 x1 x2 x3 x4 x5 := by
  have hpl := redexP_len t
  refine ⟨fun W hW => ?_, fun W g cap hW hpa => ?_⟩
  · exact l4next_c t.depth (fun g => g < W.heap.size) t _ W (Nat.le_refl _) (by omega) hg hc (fun g h => h) (hr.keep (fun g h => hW.block g (hS g h)) (fun g h => by have := hS g h; have := hW.size; omega))
  · refine (at_c (fun g => g < W.heap.size) t _ (redexP t) g cap W (fun g h => h) (hr.keep (fun g h => hW.block g (hS g h)) (fun g h => by have := hS g h; have := hW.size; omega)) hpa (redexP_ok t) (by omega)).mono fun e w' h => ?_
    obtain ⟨v, h1, h2, h3⟩ := h
    obtain ⟨z0, z1, z2, z3, z4, z5, rfl⟩ := h2.junk
    exact ⟨z0, z1, z2, z3, z4, z5, h1, h2, h3⟩
set_option maxRecDepth 100000 in
set_option maxHeartbeats 4000000 in
theorem fault_bind (t : Tm) (c : UInt8) (v b : Tm) (w : World) (x0 x1 : Int) (x2 : ByteArray) (x3 : Option Addr) (x4 x5 : Nat) (hK : FaultK t w x0 x1 x2 x3 x4 x5) (hv : t.isVal = false) (hq : partAt t (redexP t) = .bind c v b) (hg : Tm.good (.bind c v b)) :
    Calls Tryz.prog 54 #[.agg #[.int .u8 x0, .int .i64 x1, .string x2, .slice x3 x4 x5]] w fun e w' => e = .returned (.bool (stuckT (.bind c v b))) ∧ Below w.heap.size w w' := by
  obtain ⟨K1, K2⟩ := hK
  rw [hv] at K1
  rw [hq] at K2
  have t1 : Below w.heap.size w (w.alloc (tmO x0 x1 x2 x3 x4 x5)) := (Below.refl _ w).alloc (Nat.le_refl _) _
  have z1 := alloc_here w (tmO x0 x1 x2 x3 x4 x5)
  have C1 := K1 _ t1
  clear K1 hq hv
  go_enter Tryz.func54, Tryz.ntmps54
  go_wp2_with (first
    | (go_at_call 55; refine C1.mono ?_; clear C1; rintro e w2 ⟨g, cap, rfl, hpa, hb2⟩
       have t2 : Below w.heap.size w w2 := t1.trans (hb2.mono t1.size)
       have C2 := K2 w2 g cap t2 hpa.1
       obtain ⟨a0, a1, a2, a3, _⟩ := cells4 ((hb2.block w.heap.size (by simp)).trans z1)
       clear K2)
    | (go_at_call 56; refine C2.mono ?_; clear C2; rintro e w3 ⟨y0, y1, y2, y3, y4, y5, rfl, hr3, hb3⟩
       have hB3 : Below w.heap.size w w3 := t2.trans (hb3.mono t2.size)
       obtain ⟨g0, rfl, rfl, rfl, d0⟩ := kid_kind (k := 0) (f := v) 61 2 0 hr3 hb3.size rfl rfl rfl rfl
       clear hr3))
  go_ret
  exact ⟨rfl, hB3.alloc hB3.size _⟩
set_option maxRecDepth 100000 in
set_option maxHeartbeats 4000000 in
theorem fault_app (t : Tm) (f a : Tm) (w : World) (x0 x1 : Int) (x2 : ByteArray) (x3 : Option Addr) (x4 x5 : Nat) (hK : FaultK t w x0 x1 x2 x3 x4 x5) (hv : t.isVal = false) (hq : partAt t (redexP t) = .app f a) (hg : Tm.good (.app f a)) :
    Calls Tryz.prog 54 #[.agg #[.int .u8 x0, .int .i64 x1, .string x2, .slice x3 x4 x5]] w fun e w' => e = .returned (.bool (stuckT (.app f a))) ∧ Below w.heap.size w w' := by
  obtain ⟨K1, K2⟩ := hK
  rw [hv] at K1
  rw [hq] at K2
  have hk := (kind_num (s := f) hg.1).1
  have es : stuckT (.app f a) = isNum f := rfl
  rw [es]
  clear es
  have t1 : Below w.heap.size w (w.alloc (tmO x0 x1 x2 x3 x4 x5)) := (Below.refl _ w).alloc (Nat.le_refl _) _
  have z1 := alloc_here w (tmO x0 x1 x2 x3 x4 x5)
  have C1 := K1 _ t1
  clear K1 hq hv
  go_enter Tryz.func54, Tryz.ntmps54
  go_wp2_with (first
    | (go_at_call 55; refine C1.mono ?_; clear C1; rintro e w2 ⟨g, cap, rfl, hpa, hb2⟩
       have t2 : Below w.heap.size w w2 := t1.trans (hb2.mono t1.size)
       have C2 := K2 w2 g cap t2 hpa.1
       obtain ⟨a0, a1, a2, a3, _⟩ := cells4 ((hb2.block w.heap.size (by simp)).trans z1)
       clear K2)
    | (go_at_call 56; refine C2.mono ?_; clear C2; rintro e w3 ⟨y0, y1, y2, y3, y4, y5, rfl, hr3, hb3⟩
       have hB3 : Below w.heap.size w w3 := t2.trans (hb3.mono t2.size)
       obtain ⟨g0, rfl, rfl, rfl, d0⟩ := kid_kind (k := 0) (f := f) 40 2 0 hr3 hb3.size rfl rfl rfl rfl
       clear hr3))
  go_ret
  exact ⟨rfl, hB3.alloc hB3.size _⟩
set_option maxRecDepth 100000 in
set_option maxHeartbeats 4000000 in
theorem fault_sel (t : Tm) (a y z : Tm) (w : World) (x0 x1 : Int) (x2 : ByteArray) (x3 : Option Addr) (x4 x5 : Nat) (hK : FaultK t w x0 x1 x2 x3 x4 x5) (hv : t.isVal = false) (hq : partAt t (redexP t) = .sel a y z) (hg : Tm.good (.sel a y z)) :
    Calls Tryz.prog 54 #[.agg #[.int .u8 x0, .int .i64 x1, .string x2, .slice x3 x4 x5]] w fun e w' => e = .returned (.bool (stuckT (.sel a y z))) ∧ Below w.heap.size w w' := by
  obtain ⟨K1, K2⟩ := hK
  rw [hv] at K1
  rw [hq] at K2
  have hk := (kind_num (s := a) hg.1).2
  have es : stuckT (.sel a y z) = !isNum a := rfl
  rw [es]
  clear es
  have t1 : Below w.heap.size w (w.alloc (tmO x0 x1 x2 x3 x4 x5)) := (Below.refl _ w).alloc (Nat.le_refl _) _
  have z1 := alloc_here w (tmO x0 x1 x2 x3 x4 x5)
  have C1 := K1 _ t1
  clear K1 hq hv
  go_enter Tryz.func54, Tryz.ntmps54
  go_wp2_with (first
    | (go_at_call 55; refine C1.mono ?_; clear C1; rintro e w2 ⟨g, cap, rfl, hpa, hb2⟩
       have t2 : Below w.heap.size w w2 := t1.trans (hb2.mono t1.size)
       have C2 := K2 w2 g cap t2 hpa.1
       obtain ⟨a0, a1, a2, a3, _⟩ := cells4 ((hb2.block w.heap.size (by simp)).trans z1)
       clear K2)
    | (go_at_call 56; refine C2.mono ?_; clear C2; rintro e w3 ⟨y0, y1, y2, y3, y4, y5, rfl, hr3, hb3⟩
       have hB3 : Below w.heap.size w w3 := t2.trans (hb3.mono t2.size)
       obtain ⟨g0, rfl, rfl, rfl, d0⟩ := kid_kind (k := 0) (f := a) 63 3 0 hr3 hb3.size rfl rfl rfl rfl
       clear hr3))
  go_ret
  exact ⟨rfl, hB3.alloc hB3.size _⟩
set_option maxRecDepth 100000 in
set_option maxHeartbeats 4000000 in
theorem fault_op (t : Tm) (o : UInt8) (l r : Tm) (bl br : Bool) (hl : isNum l = bl) (hrr : isNum r = br) (w : World) (x0 x1 : Int) (x2 : ByteArray) (x3 : Option Addr) (x4 x5 : Nat) (hK : FaultK t w x0 x1 x2 x3 x4 x5) (hv : t.isVal = false) (hq : partAt t (redexP t) = .op o l r) (hg : Tm.good (.op o l r)) :
    Calls Tryz.prog 54 #[.agg #[.int .u8 x0, .int .i64 x1, .string x2, .slice x3 x4 x5]] w fun e w' => e = .returned (.bool (stuckT (.op o l r))) ∧ Below w.heap.size w w' := by
  obtain ⟨K1, K2⟩ := hK
  rw [hv] at K1
  rw [hq] at K2
  have hk := (kind_num (s := l) hg.2.1).2
  have hk2 := (kind_num (s := r) hg.2.2).2
  rw [hl] at hk
  rw [hrr] at hk2
  have ho : o.toNat = 43 ∨ o.toNat = 45 ∨ o.toNat = 42 := by rcases hg.1 with h | h | h <;> subst h <;> decide
  have j1 : ((o.toNat : Int) == 61) = false := by rw [beq_eq_false_iff_ne]; omega
  have j2 : ((o.toNat : Int) == 40) = false := by rw [beq_eq_false_iff_ne]; omega
  have j3 : ((o.toNat : Int) == 63) = false := by rw [beq_eq_false_iff_ne]; omega
  have es : stuckT (.op o l r) = !(bl && br) := by rw [← hl, ← hrr]; rfl
  rw [es]
  clear es hl hrr ho
  cases bl <;> cases br
  all_goals
    have t1 : Below w.heap.size w (w.alloc (tmO x0 x1 x2 x3 x4 x5)) := (Below.refl _ w).alloc (Nat.le_refl _) _
    have z1 := alloc_here w (tmO x0 x1 x2 x3 x4 x5)
    have C1 := K1 _ t1
    clear K1 hq hv
    go_enter Tryz.func54, Tryz.ntmps54
    go_wp2_with (first
      | (go_at_call 55; refine C1.mono ?_; clear C1; rintro e w2 ⟨g, cap, rfl, hpa, hb2⟩
         have t2 : Below w.heap.size w w2 := t1.trans (hb2.mono t1.size)
         have C2 := K2 w2 g cap t2 hpa.1
         obtain ⟨a0, a1, a2, a3, _⟩ := cells4 ((hb2.block w.heap.size (by simp)).trans z1)
         clear K2)
      | (go_at_call 56; refine C2.mono ?_; clear C2; rintro e w3 ⟨y0, y1, y2, y3, y4, y5, rfl, hr3, hb3⟩
         have hB3 : Below w.heap.size w w3 := t2.trans (hb3.mono t2.size)
         obtain ⟨g1, h1e, _, _, d1⟩ := kid_kind (k := 1) (f := r) (o.toNat : Int) 2 4 hr3 hb3.size rfl rfl rfl rfl
         obtain ⟨g0, rfl, rfl, rfl, d0⟩ := kid_kind (k := 0) (f := l) (o.toNat : Int) 2 0 hr3 hb3.size rfl rfl rfl rfl
         obtain rfl : g0 = g1 := by simpa using h1e
         clear h1e
         clear hr3))
    go_ret
    exact ⟨rfl, hB3.alloc hB3.size _⟩

theorem fault_c (t : Tm) (w : World) (x0 x1 : Int) (x2 : ByteArray) (x3 : Option Addr) (x4 x5 : Nat) (hK : FaultK t w x0 x1 x2 x3 x4 x5) (hv : t.isVal = false) (hN : NextOk (partAt t (redexP t))) (hg : (partAt t (redexP t)).good) :
    Calls Tryz.prog 54 #[.agg #[.int .u8 x0, .int .i64 x1, .string x2, .slice x3 x4 x5]] w fun e w' => e = .returned (.bool (stuckT (partAt t (redexP t)))) ∧ Below w.heap.size w w' := by
  rcases hq : partAt t (redexP t) with _ | c | _ | _ | ⟨f, a⟩ | ⟨c, v, b⟩ | ⟨o, l, r⟩ | ⟨a, y, z⟩
  all_goals rw [hq] at hN hg
  · cases hN.noval
  · exact absurd (hN.closed c) (by simp [cntF])
  · cases hN.noval
  · cases hN.noval
  · exact fault_app t f a w x0 x1 x2 x3 x4 x5 hK hv hq hg
  · exact fault_bind t c v b w x0 x1 x2 x3 x4 x5 hK hv hq hg
  · exact fault_op t o l r _ _ rfl rfl w x0 x1 x2 x3 x4 x5 hK hv hq hg
  · exact fault_sel t a y z w x0 x1 x2 x3 x4 x5 hK hv hq hg
set_option maxRecDepth 100000 in
set_option maxHeartbeats 2000000 in
theorem fault_val (t : Tm) (w : World) (x0 x1 : Int) (x2 : ByteArray) (x3 : Option Addr) (x4 x5 : Nat) (hK : FaultK t w x0 x1 x2 x3 x4 x5) (hv : t.isVal = true) :
    Calls Tryz.prog 54 #[.agg #[.int .u8 x0, .int .i64 x1, .string x2, .slice x3 x4 x5]] w fun e w' => e = .returned (.bool false) ∧ Below w.heap.size w w' := by
  have t1 : Below w.heap.size w (w.alloc (tmO x0 x1 x2 x3 x4 x5)) := (Below.refl _ w).alloc (Nat.le_refl _) _
  have C1 := hK.next _ t1
  rw [hv] at C1
  clear hK
  go_enter Tryz.func54, Tryz.ntmps54
  go_wp2_with (go_at_call 55; refine C1.mono ?_; clear C1; rintro e w2 ⟨g, cap, rfl, hpa, hb2⟩)
  go_ret
  exact ⟨rfl, t1.trans (hb2.mono t1.size)⟩
theorem sFault_c (t : Tm) (S : Nat → Prop) (w : World) (x0 x1 : Int) (x2 : ByteArray) (x3 : Option Addr) (x4 x5 : Nat) (hg : t.good) (hd : t.depth ≤ 1500) (hc : Closed t) (hS : ∀ g, S g → g < w.heap.size) (hr : Rep S w t (.agg #[.int .u8 x0, .int .i64 x1, .string x2, .slice x3 x4 x5])) :
    Calls Tryz.prog 54 #[.agg #[.int .u8 x0, .int .i64 x1, .string x2, .slice x3 x4 x5]] w fun e w' => e = .returned (.bool (stuckO t)) ∧ Below w.heap.size w w' := by
  have hK := faultK hg hd hc hS hr
  unfold stuckO
  cases hv : t.isVal
  · exact fault_c t w x0 x1 x2 x3 x4 x5 hK hv (next_ok t.depth t (Nat.le_refl _) hv hc) ((part_at_facts t (redexP t) (redexP_ok t)).1 hg)
  · exact fault_val t w x0 x1 x2 x3 x4 x5 hK hv
/-- Is a text a state that is stuck? -/
def stuckS (s : Text) : Bool := match stateO s with
  | some t => stuckO t
  | none => false
set_option maxRecDepth 100000 in
set_option maxHeartbeats 2000000 in
theorem sIsStuck_c (s : Text) (w : World) (hl : s.length ≤ 9223372036854775807) :
    Calls Tryz.prog 27 #[.string ⟨s.toArray⟩] w fun e w' => e = .returned (.bool (stuckS s)) ∧ Below w.heap.size w w' := by
  have C := l4Read_c s w hl
  unfold stuckS
  rcases hs : stateO s with _ | t
  · rw [hs] at C
    simp only
    clear hs
    go_enter Tryz.func27, Tryz.ntmps27
    go_wp2_with fail
    refine C.mono ?_
    rintro e w1 ⟨v, rfl, ⟨k, n, st, aa, l, c, rfl⟩, hb1, _⟩
    go_wp2_with fail
    go_ret
    exact ⟨rfl, hb1.alloc hb1.size _⟩
  · rw [hs] at C
    simp only
    obtain ⟨hg, hd, hp, hc⟩ := state_facts hs
    clear hs
    have C2 : Calls Tryz.prog 35 #[.string ⟨s.toArray⟩] w fun e w1 => ∃ (x0 x1 : Int) (x2 : ByteArray) (x3 : Option Addr) (x4 x5 : Nat), e = .returned (.tuple #[.agg #[.int .u8 x0, .int .i64 x1, .string x2, .slice x3 x4 x5], .bool true]) ∧ Below w.heap.size w w1 ∧ Rep (New w w1) w1 t (.agg #[.int .u8 x0, .int .i64 x1, .string x2, .slice x3 x4 x5]) := C.mono fun e w1 h => by
      obtain ⟨v, h1, ⟨x0, x1, x2, x3, x4, x5, rfl⟩, h3, h4⟩ := h
      exact ⟨x0, x1, x2, x3, x4, x5, h1, h3, h4 t rfl⟩
    have KF : ∀ w1 (x0 x1 : Int) (x2 : ByteArray) (x3 : Option Addr) (x4 x5 : Nat), Rep (New w w1) w1 t (.agg #[.int .u8 x0, .int .i64 x1, .string x2, .slice x3 x4 x5]) → ∀ W, Below w1.heap.size w1 W → Calls Tryz.prog 54 #[.agg #[.int .u8 x0, .int .i64 x1, .string x2, .slice x3 x4 x5]] W fun e w' => e = .returned (.bool (stuckO t)) ∧ Below W.heap.size W w' :=
      fun w1 x0 x1 x2 x3 x4 x5 hr W hW => sFault_c t (fun g => g < W.heap.size) W x0 x1 x2 x3 x4 x5 hg hd hc (fun g h => h) (hr.keep (fun g h => hW.block g h.2) (fun g h => by have := h.2; have := hW.size; omega))
    generalize stuckO t = B at *
    clear C
    go_enter Tryz.func27, Tryz.ntmps27
    go_wp2_with (first
      | (go_at_call 35; refine C2.mono ?_; clear C2; rintro e w1 ⟨x0, x1, x2, x3, x4, x5, rfl, hb1, hr1⟩
         have t1 : Below w1.heap.size w1 (w1.alloc (tmO x0 x1 x2 x3 x4 x5)) := (Below.refl _ _).alloc (Nat.le_refl _) _
         have K1 := KF w1 x0 x1 x2 x3 x4 x5 hr1 _ t1
         clear KF)
      | (go_at_call 54; refine K1.mono ?_; clear K1; rintro e w2 ⟨rfl, hb2⟩))
    go_ret
    exact ⟨rfl, (hb1.trans (t1.mono hb1.size)).trans (hb2.mono (by have := hb1.size; simp; omega))⟩
set_option maxRecDepth 100000 in
set_option maxHeartbeats 2000000 in
theorem iIsStuck_c (s : Text) (w : World) (hl : s.length ≤ 9223372036854775807) :
    Calls Tryz.prog 14 #[.string ⟨s.toArray⟩] w fun e w' => e = .returned (.bool (stuckS s)) ∧ Below w.heap.size w w' := by
  have C := readState_c s w hl
  unfold stuckS
  rcases hs : stateO s with _ | t
  · rw [hs] at C
    simp only [encO, Option.isSome_none] at C
    simp only
    clear hs
    go_enter Tryz.func14, Tryz.ntmps14
    go_wp2_with fail
    refine C.mono ?_
    rintro e w1 ⟨rfl, hb1⟩
    go_wp2_with fail
    go_ret
    exact ⟨rfl, hb1.alloc hb1.size _⟩
  · rw [hs] at C
    obtain ⟨hg, hd, hp, hc⟩ := state_facts hs
    simp only [encO, Option.isSome_some] at C
    simp only
    clear hs
    have K := fun W => iStuck_c t W hg hd hp hc
    generalize stuckO t = B at *
    obtain ⟨tn, tv, htv⟩ := enc_gen t
    rw [htv] at C
    simp only [htv] at K
    clear htv
    go_enter Tryz.func14, Tryz.ntmps14
    go_wp2_with (first
      | (go_at_call 33; refine C.mono ?_; clear C; rintro e w1 ⟨rfl, hb1⟩)
      | (go_at_call 39; refine (K _).mono ?_; clear K; rintro e w2 ⟨rfl, hb2⟩))
    go_ret
    exact ⟨rfl, (hb1.alloc hb1.size _).trans (hb2.mono (by have := hb1.size; simp; omega))⟩
end Go.Proofs.YtefmmgccdpfnaaaGreatDoor
