import Derived.Test.YtegopnaeljfdnaaStC
import Derived.Test.YtegopnaeljfdnaaStN
import Derived.Test.YtegopnaeljfdnaaStA
import Derived.Test.YtegopnaeljfdnaaMTx
import Derived.Test.YtegopnaeljfdnaaPsN
/- RedexOf: the specification's and the program's; the law. -/
namespace Go.Proofs.Ytegopnaeljfdnaa
open Go.RowKit
open Ff
set_option linter.unusedVariables false

/-- What a state's next part is. -/
def redexO (s : Text) : Option Tm := (stateO s).bind fun t => if t.isVal = true then none else some (partAt t (redexP t))
def redexT : Option Tm → Text
  | some t => textN t
  | none => []
/-- What is known of a state. -/
theorem state_facts {s : Text} {t : Tm} (h : stateO s = some t) : t.good ∧ t.depth ≤ 1500 ∧ (parts t).length ≤ 1500 ∧ ∀ x, cntF t x = 0 := by
  unfold stateO at h
  rcases hr : readU 1500 s with _ | t'
  · rw [hr] at h; cases h
  · rw [hr] at h
    simp only [Option.bind_some] at h
    split at h
    · rename_i hz
      injection h with h
      subst h
      have hg := readU_good hr
      exact ⟨hg, readU_deep hr, readU_parts hr, (free_nil hg).1 hz⟩
    · cases h
theorem part_at_facts : ∀ (t : Tm) (p : List Nat), PathOk t p → (t.good → (partAt t p).good) ∧ (partAt t p).depth ≤ t.depth ∧ (parts (partAt t p)).length ≤ (parts t).length
  | t, [], _ => ⟨fun h => h, Nat.le_refl _, Nat.le_refl _⟩
  | t, i :: p, h => by
    obtain ⟨s, hs, h⟩ := h
    have hm := List.mem_of_getElem? hs
    obtain ⟨h1, h2, h3⟩ := part_at_facts s p h
    have e : partAt t (i :: p) = partAt s p := by simp only [partAt, hs]
    rw [e]
    exact ⟨fun g => h1 (Tm.kid_good g hm), by have := kid_depth hm; omega, by have := parts_kid_le hm; omega⟩
set_option maxRecDepth 100000 in
set_option maxHeartbeats 4000000 in
theorem sRedexOf_c (s : Text) (w : World) (hl : s.length ≤ 9223372036854775807) :
    Calls Try.prog 14 #[.string ⟨s.toArray⟩] w fun e w' => e = .returned (.tuple #[.string ⟨(redexT (redexO s)).toArray⟩, .bool (redexO s).isSome]) ∧ Below w.heap.size w w' := by
  have C := l4Read_c s w hl
  obtain ⟨O, hO⟩ : ∃ O, O = redexO s := ⟨_, rfl⟩
  rw [← hO]
  unfold redexO at hO
  rcases hs : stateO s with _ | t
  · rw [hs] at C hO
    obtain rfl : O = none := hO
    clear hs
    go_enter Try.func14, Try.ntmps14
    go_wp2_with fail
    refine C.mono ?_
    rintro e w1 ⟨v, rfl, ⟨k, n, st, aa, l, c, rfl⟩, hb1, _⟩
    go_wp2_with fail
    go_ret2
    exact ⟨rfl, hb1.alloc hb1.size _⟩
  · rw [hs] at C hO
    simp only [Option.bind_some] at hO
    obtain ⟨hg, hd, hp, hc⟩ := state_facts hs
    clear hs
    have C2 : Calls Try.prog 42 #[.string ⟨s.toArray⟩] w fun e w1 => ∃ (x0 x1 : Int) (x2 : ByteArray) (x3 : Option Addr) (x4 x5 : Nat), e = .returned (.tuple #[.agg #[.int .u8 x0, .int .i64 x1, .string x2, .slice x3 x4 x5], .bool true]) ∧ Below w.heap.size w w1 ∧ Rep (New w w1) w1 t (.agg #[.int .u8 x0, .int .i64 x1, .string x2, .slice x3 x4 x5]) := C.mono fun e w1 h => by
      obtain ⟨v, h1, ⟨x0, x1, x2, x3, x4, x5, rfl⟩, h3, h4⟩ := h
      exact ⟨x0, x1, x2, x3, x4, x5, h1, h3, h4 t rfl⟩
    have KN : ∀ w1 (x0 x1 : Int) (x2 : ByteArray) (x3 : Option Addr) (x4 x5 : Nat), Rep (New w w1) w1 t (.agg #[.int .u8 x0, .int .i64 x1, .string x2, .slice x3 x4 x5]) → ∀ W, Below w1.heap.size w1 W →
        Calls Try.prog 43 #[.agg #[.int .u8 x0, .int .i64 x1, .string x2, .slice x3 x4 x5]] W (fun e w' => ∃ g cap, e = .returned (.tuple #[.slice (some ⟨g, 0, none⟩) (redexP t).length cap, .bool (!t.isVal)]) ∧ PathAt w' g (redexP t) ∧ Below W.heap.size W w') :=
      fun w1 x0 x1 x2 x3 x4 x5 hr W hW => l4next_c t.depth (fun g => g < W.heap.size) t _ W (Nat.le_refl _) (by omega) hg hc (fun g h => h) (hr.keep (fun g h => hW.block g h.2) (fun g h => by have := h.2; have := hW.size; omega))
    have hpl := redexP_len t
    have hok := redexP_ok t
    obtain ⟨pg, pd, pp⟩ := part_at_facts t (redexP t) hok
    cases hv : t.isVal
    · obtain rfl : O = some (partAt t (redexP t)) := by rw [hO, hv]; simp
      simp only [hv] at KN
      have KA : ∀ w1 (x0 x1 : Int) (x2 : ByteArray) (x3 : Option Addr) (x4 x5 : Nat), Rep (New w w1) w1 t (.agg #[.int .u8 x0, .int .i64 x1, .string x2, .slice x3 x4 x5]) → ∀ W g cap, Below w1.heap.size w1 W → PathAt W g (redexP t) →
          Calls Try.prog 44 #[.agg #[.int .u8 x0, .int .i64 x1, .string x2, .slice x3 x4 x5], .slice (some ⟨g, 0, none⟩) (redexP t).length cap] W (fun e w' => ∃ (z0 z1 : Int) (z2 : ByteArray) (z3 : Option Addr) (z4 z5 : Nat), e = .returned (.agg #[.int .u8 z0, .int .i64 z1, .string z2, .slice z3 z4 z5]) ∧ Rep (fun g => g < W.heap.size) w' (partAt t (redexP t)) (.agg #[.int .u8 z0, .int .i64 z1, .string z2, .slice z3 z4 z5]) ∧ Below W.heap.size W w') :=
        fun w1 x0 x1 x2 x3 x4 x5 hr W g cap hW hpa => (at_c (fun g => g < W.heap.size) t _ (redexP t) g cap W (fun g h => h) (hr.keep (fun g h => hW.block g h.2) (fun g h => by have := h.2; have := hW.size; omega)) hpa hok (by omega)).mono fun e w' h => by
          obtain ⟨v, h1, h2, h3⟩ := h
          obtain ⟨z0, z1, z2, z3, z4, z5, rfl⟩ := h2.junk
          exact ⟨z0, z1, z2, z3, z4, z5, h1, h2, h3⟩
      have KT : ∀ (z0 z1 : Int) (z2 : ByteArray) (z3 : Option Addr) (z4 z5 : Nat) W B, B ≤ W.heap.size → Rep (fun g => g < B) W (partAt t (redexP t)) (.agg #[.int .u8 z0, .int .i64 z1, .string z2, .slice z3 z4 z5]) → Calls Try.prog 28 #[.agg #[.int .u8 z0, .int .i64 z1, .string z2, .slice z3 z4 z5]] W fun e w' => e = .returned (.string ⟨(textN (partAt t (redexP t))).toArray⟩) ∧ Below W.heap.size W w' :=
        fun z0 z1 z2 z3 z4 z5 W B hB hr => stext_c 4000 _ B _ W (by omega) (Nat.le_refl _) (by omega) hr hB (pg hg)
      have HV := Lib.hid hv
      clear C hO hv hpl hok pg pd pp
      generalize redexP t = p at *
      generalize partAt t p = q at *
      go_enter Try.func14, Try.ntmps14
      go_wp2_with (first
        | (go_at_call 42; refine C2.mono ?_; clear C2; rintro e w1 ⟨x0, x1, x2, x3, x4, x5, rfl, hb1, hr1⟩
           have z1 := alloc_here w1 (tmO x0 x1 x2 x3 x4 x5)
           have t1 : Below w1.heap.size w1 (w1.alloc (tmO x0 x1 x2 x3 x4 x5)) := (Below.refl _ _).alloc (Nat.le_refl _) _
           have K1 := KN w1 x0 x1 x2 x3 x4 x5 hr1 _ t1
           clear KN)
        | (go_at_call 43; refine K1.mono ?_; clear K1; rintro e w2 ⟨g, cap, rfl, hpa, hb2⟩
           have t2 : Below w1.heap.size w1 w2 := t1.trans (hb2.mono t1.size)
           have K2 := KA w1 x0 x1 x2 x3 x4 x5 hr1 w2 g cap t2 hpa
           obtain ⟨a0, a1, a2, a3, _⟩ := cells4 ((hb2.block w1.heap.size (by simp)).trans z1)
           clear KA)
        | (go_at_call 44; refine K2.mono ?_; clear K2; rintro e w3 ⟨z0, z1', z2, z3, z4, z5, rfl, hr3, hb3⟩
           have K3 := KT z0 z1' z2 z3 z4 z5 w3 w2.heap.size hb3.size hr3
           clear KT)
        | (go_at_call 28; refine K3.mono ?_; clear K3; rintro e w4 ⟨rfl, hb4⟩))
      go_ret2
      exact ⟨rfl, ((hb1.trans (t2.mono hb1.size)).trans (hb3.mono (by have := hb1.size; have := t2.size; omega))).trans (hb4.mono (by have := hb1.size; have := t2.size; have := hb3.size; omega))⟩
    · obtain rfl : O = none := by rw [hO, hv]; simp
      simp only [hv] at KN
      clear C hO hv hpl hok pg pd pp
      generalize redexP t = p at *
      go_enter Try.func14, Try.ntmps14
      go_wp2_with (first
        | (go_at_call 42; refine C2.mono ?_; clear C2; rintro e w1 ⟨x0, x1, x2, x3, x4, x5, rfl, hb1, hr1⟩
           have t1 : Below w1.heap.size w1 (w1.alloc (tmO x0 x1 x2 x3 x4 x5)) := (Below.refl _ _).alloc (Nat.le_refl _) _
           have K1 := KN w1 x0 x1 x2 x3 x4 x5 hr1 _ t1
           clear KN)
        | (go_at_call 43; refine K1.mono ?_; clear K1; rintro e w2 ⟨g, cap, rfl, hpa, hb2⟩
           have t2 : Below w1.heap.size w1 w2 := t1.trans (hb2.mono t1.size)))
      go_ret2
      exact ⟨rfl, hb1.trans (t2.mono hb1.size)⟩
/-- Nothing told of what fills. -/
theorem fill_any : FillOk (fun _ _ _ _ _ => True) where
  keep := fun _ _ _ _ _ _ _ _ => trivial
  mono := fun _ _ _ _ _ _ _ _ => trivial
  whole := fun _ _ _ => trivial
  within := fun B t s k fn first cap p w hg hs hB _ => by
    have hmf : ∀ (fn : Fn) (first cap : Array Value) (w : World), (Instr.makeFunc fn first cap).run Try.prog w = .ok (.func fn first cap) w := fun _ _ _ _ => rfl
    obtain ⟨n, v, hnv⟩ := enc_gen t
    rw [hnv]
    clear hnv
    go_enter Try.func78, Try.ntmps78
    go_wp2_with fail
    go_ret
    exact ⟨_, _, _, rfl, trivial, below_three w _ _ _⟩
set_option maxRecDepth 100000 in
set_option maxHeartbeats 4000000 in
theorem iRedexOf_c (s : Text) (w : World) (hl : s.length ≤ 9223372036854775807) :
    Calls Try.prog 15 #[.string ⟨s.toArray⟩] w fun e w' => e = .returned (.tuple #[.string ⟨(redexT (redexO s)).toArray⟩, .bool (redexO s).isSome]) ∧ Below w.heap.size w w' := by
  have C := readState_c s w hl
  obtain ⟨O, hO⟩ : ∃ O, O = redexO s := ⟨_, rfl⟩
  rw [← hO]
  unfold redexO at hO
  rcases hs : stateO s with _ | t
  · rw [hs] at C hO
    obtain rfl : O = none := hO
    simp only [encO, Option.isSome_none] at C
    clear hs
    go_enter Try.func15, Try.ntmps15
    go_wp2_with fail
    refine C.mono ?_
    rintro e w1 ⟨rfl, hb1⟩
    go_wp2_with fail
    go_ret2
    exact ⟨rfl, hb1.alloc hb1.size _⟩
  · rw [hs] at C hO
    simp only [Option.bind_some] at hO
    obtain ⟨hg, hd, hp, hc⟩ := state_facts hs
    simp only [encO, Option.isSome_some] at C
    clear hs
    have KN := fun W => pnext_c _ fill_any t.depth t W (Nat.le_refl _) (by omega) hg
    obtain ⟨pg, pd, pp⟩ := part_at_facts t (redexP t) (redexP_ok t)
    cases hv : t.isVal
    · obtain rfl : O = some (partAt t (redexP t)) := by rw [hO, hv]; simp
      have KN2 : ∀ W, Calls Try.prog 46 #[.agg #[enc t]] W fun e w' => ∃ fn first cap, e = .returned (.tuple #[.agg #[enc (partAt t (redexP t)), .func fn first cap], .bool true]) ∧ Below W.heap.size W w' := fun W => (KN W).mono fun e w' h => by
        obtain ⟨h1, ⟨h2, _⟩ | ⟨_, fn, first, cap, h3, _⟩⟩ := h
        · rw [hv] at h2; cases h2
        · exact ⟨fn, first, cap, h3, h1⟩
      have KT := fun W => text_c _ (partAt t (redexP t)) (Nat.le_refl _) (pg hg) (by omega) W
      clear hO hv pg pd pp KN
      generalize partAt t (redexP t) = q at *
      obtain ⟨tn, tv, htv⟩ := enc_gen t
      rw [htv] at C
      simp only [htv, enc_ty q] at KN2
      clear htv
      go_enter Try.func15, Try.ntmps15
      go_wp2_with (first
        | (go_at_call 45; refine C.mono ?_; clear C; rintro e w1 ⟨rfl, hb1⟩)
        | (go_at_call 46; refine (KN2 _).mono ?_; clear KN2; rintro e w2 ⟨fn, first, cap, rfl, hb2⟩; have hB2 : Below w.heap.size w w2 := (hb1.alloc hb1.size _).trans (hb2.mono (by have := hb1.size; simp; omega)))
        | (refine wpList_invoke rfl _ _ (ty q) (pl q) rfl rfl (tf q) (text_m q _ (by unfold TextName; kernel_rfl) _) (text_f q _) (fun rv w' => rv = .string ⟨(textN q).toArray⟩ ∧ Below w.heap.size w w') ((KT _).mono fun e w' ⟨h1, h2⟩ => ⟨_, h1, rfl, (hB2.alloc hB2.size _).trans (h2.mono (by have := hB2.size; simp; omega))⟩) ?_; rintro rv w3 ⟨rfl, hb3⟩))
      go_ret2
      exact ⟨rfl, hb3⟩
    · obtain rfl : O = none := by rw [hO, hv]; simp
      have KN2 : ∀ W, Calls Try.prog 46 #[.agg #[enc t]] W fun e w' => e = .returned (.tuple #[.agg #[.nilIface, .nilFunc], .bool false]) ∧ Below W.heap.size W w' := fun W => (KN W).mono fun e w' h => by
        obtain ⟨h1, ⟨_, h2⟩ | ⟨h2, _⟩⟩ := h
        · exact ⟨h2, h1⟩
        · rw [hv] at h2; cases h2
      clear hO hv pg pd pp KN
      obtain ⟨tn, tv, htv⟩ := enc_gen t
      rw [htv] at C
      simp only [htv] at KN2
      clear htv
      go_enter Try.func15, Try.ntmps15
      go_wp2_with (first
        | (go_at_call 45; refine C.mono ?_; clear C; rintro e w1 ⟨rfl, hb1⟩)
        | (go_at_call 46; refine (KN2 _).mono ?_; clear KN2; rintro e w2 ⟨rfl, hb2⟩; have hB2 : Below w.heap.size w w2 := (hb1.alloc hb1.size _).trans (hb2.mono (by have := hb1.size; simp; omega))))
      go_ret2
      exact ⟨rfl, hB2.alloc hB2.size _⟩
set_option maxHeartbeats 1000000 in
theorem law_redex (s : Text) (w : World) (hl : s.length ≤ 9223372036854775807) :
    Calls Try.prog 5 #[.string ⟨s.toArray⟩] w fun e w' => e = .returned (.bool true) ∧ Below w.heap.size w w' := by
  have C1 := sRedexOf_c s w hl
  have C2 := fun w' => iRedexOf_c s w' hl
  generalize redexO s = O at *
  obtain ⟨T, hT⟩ : ∃ T, T = redexT O := ⟨_, rfl⟩
  obtain ⟨B, hB⟩ : ∃ B, B = O.isSome := ⟨_, rfl⟩
  rw [← hT, ← hB] at C1
  rw [← hT, ← hB] at C2
  clear hT hB O
  have hne : (T.toArray != T.toArray) = false := by simp
  by_cases h : s.length ≤ 1048576
  · have h2 : ¬ 1048576 < (s.length : Int) := by omega
    clear h
    go_enter Try.func5, Try.ntmps5
    go_wp2_with fail
    refine C1.mono ?_
    clear C1
    rintro e w1 ⟨rfl, hb1⟩
    cases B
    all_goals
      go_wp2_with fail
      refine (C2 _).mono ?_
      clear C2
      rintro e w2 ⟨rfl, hb2⟩
      go_wp2_with fail
      go_ret
      exact ⟨rfl, hb1.trans (hb2.mono hb1.size)⟩
  · have h2 : 1048576 < (s.length : Int) := by omega
    clear h
    go_enter Try.func5, Try.ntmps5
    go_wp2_with fail
    go_ret
    exact ⟨rfl, Below.refl _ _⟩
end Go.Proofs.Ytegopnaeljfdnaa
