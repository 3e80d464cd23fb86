import Derived.Test.YtmkibadkcmljnaaGreatDoorStI
/- IsStuck: the specification's, and the law. -/
namespace Go.Proofs.YtmkibadkcmljnaaGreatDoor
open Go.RowKit
open Ff
set_option linter.unusedVariables false

theorem kind_num {s : Tm} (h : s.good) : ((kindOf s : Int) == 110) = isNum s ∧ ((kindOf s : Int) != 110) = !isNum s := by
  have e : ((kindOf s : Int) == 110) = isNum s := by
    cases s with
    | op o l r => rcases h.1 with h | h | h <;> subst h <;> rfl
    | _ => rfl
  exact ⟨e, by rw [bne, e]⟩
/-- The cells of a part that lies in a box that has just been made: its kind, and its kids' kinds. -/
theorem kid_kind {B : Nat} {w : World} {q f : Tm} {k : Nat} {z0 z1 : Int} {z2 : ByteArray} {z3 : Option Addr} {z4 z5 : Nat} (K : Int) (L o : Nat) (hr : Rep (fun g => g < B) w q (.agg #[.int .u8 z0, .int .i64 z1, .string z2, .slice z3 z4 z5])) (hB : B ≤ w.heap.size) (hf : q.kids[k]? = some f) (hK : (kindOf q : Int) = K) (hL : q.kids.length = L) (ho : k * 4 = o) :
    ∃ g, z3 = some ⟨g, 0, none⟩ ∧ z4 = L ∧ z0 = K ∧ (w.alloc (tmO z0 z1 z2 z3 z4 z5)).cell? ⟨g, o, none⟩ = some (.int .u8 (kindOf f : Int)) := by
  obtain ⟨g, h1, h2, _, h3⟩ := hr.open (fun g hg => by omega)
  obtain ⟨y0, y1, y2, y3, y4, y5, h4, h5⟩ := h3 k f hf
  obtain ⟨h6, _⟩ := h5 _ ((Below.refl _ w).alloc (Nat.le_refl _) (tmO z0 z1 z2 z3 z4 z5))
  rw [h4.kind.1, ho] at h6
  exact ⟨g, h1, h2.trans hL, hr.kind.1.trans hK, h6⟩
/-- The search and the look, for a closed term in memory. -/
structure FaultK (t : Tm) (w : World) (x0 x1 : Int) (x2 : ByteArray) (x3 : Option Addr) (x4 x5 : Nat) : Prop where
  next : ∀ W, Below w.heap.size w W → Calls Tryz.prog 35 #[.agg #[.int .u8 x0, .int .i64 x1, .string x2, .slice x3 x4 x5]] W (fun e w' => ∃ g cap, e = .returned (.tuple #[.slice (some ⟨g, 0, none⟩) (redexP t).length cap, .bool (!t.isVal)]) ∧ PathC cap w' g (redexP t) ∧ Below W.heap.size W w')
  look : ∀ W g cap, Below w.heap.size w W → PathAt W g (redexP t) → Calls Tryz.prog 37 #[.agg #[.int .u8 x0, .int .i64 x1, .string x2, .slice x3 x4 x5], .slice (some ⟨g, 0, none⟩) (redexP t).length cap] W (fun e w' => ∃ (z0 z1 : Int) (z2 : ByteArray) (z3 : Option Addr) (z4 z5 : Nat), e = .returned (.agg #[.int .u8 z0, .int .i64 z1, .string z2, .slice z3 z4 z5]) ∧ Rep (fun g => g < W.heap.size) w' (partAt t (redexP t)) (.agg #[.int .u8 z0, .int .i64 z1, .string z2, .slice z3 z4 z5]) ∧ Below W.heap.size W w')
theorem faultK {t : Tm} {w : World} {S : Nat → Prop} {x0 x1 : Int} {x2 : ByteArray} {x3 : Option Addr} {x4 x5 : Nat} (hg : t.good) (hd : t.depth ≤ 1500) (hc : Closed t) (hS : ∀ g, S g → g < w.heap.size) (hr : Rep S w t (.agg #[.int .u8 x0, .int .i64 x1, .string x2, .slice x3 x4 x5])) : FaultK t w x0 x1 x2 x3 x4 x5 := by
  have hpl := redexP_len t
  refine ⟨fun W hW => ?_, fun W g cap hW hpa => ?_⟩
  · exact l4next_c t.depth (fun g => g < W.heap.size) t _ W (Nat.le_refl _) (by omega) hg hc (fun g h => h) (hr.keep (fun g h => hW.block g (hS g h)) (fun g h => by have := hS g h; have := hW.size; omega))
  · refine (at_c (fun g => g < W.heap.size) t _ (redexP t) g cap W (fun g h => h) (hr.keep (fun g h => hW.block g (hS g h)) (fun g h => by have := hS g h; have := hW.size; omega)) hpa (redexP_ok t) (by omega)).mono fun e w' h => ?_
    obtain ⟨v, h1, h2, h3⟩ := h
    obtain ⟨z0, z1, z2, z3, z4, z5, rfl⟩ := h2.junk
    exact ⟨z0, z1, z2, z3, z4, z5, h1, h2, h3⟩
set_option maxRecDepth 100000 in
set_option maxHeartbeats 4000000 in
theorem fault_bind (t : Tm) (c : UInt8) (v b : Tm) (w : World) (x0 x1 : Int) (x2 : ByteArray) (x3 : Option Addr) (x4 x5 : Nat) (hK : FaultK t w x0 x1 x2 x3 x4 x5) (hv : t.isVal = false) (hq : partAt t (redexP t) = .bind c v b) (hg : Tm.good (.bind c v b)) :
    Calls Tryz.prog 30 #[.agg #[.int .u8 x0, .int .i64 x1, .string x2, .slice x3 x4 x5]] w fun e w' => e = .returned (.bool (stuckT (.bind c v b))) ∧ Below w.heap.size w w' := by
  obtain ⟨K1, K2⟩ := hK
  rw [hv] at K1
  rw [hq] at K2
  have t1 : Below w.heap.size w (w.alloc (tmO x0 x1 x2 x3 x4 x5)) := (Below.refl _ w).alloc (Nat.le_refl _) _
  have z1 := alloc_here w (tmO x0 x1 x2 x3 x4 x5)
  have C1 := K1 _ t1
  clear K1 hq hv
  go_enter Tryz.func30, Tryz.ntmps30
  go_wp2_with (first
    | (go_at_call 35; refine C1.mono ?_; clear C1; rintro e w2 ⟨g, cap, rfl, hpa, hb2⟩
       have t2 : Below w.heap.size w w2 := t1.trans (hb2.mono t1.size)
       have C2 := K2 w2 g cap t2 hpa.1
       obtain ⟨a0, a1, a2, a3, _⟩ := cells4 ((hb2.block w.heap.size (by simp)).trans z1)
       clear K2)
    | (go_at_call 37; refine C2.mono ?_; clear C2; rintro e w3 ⟨y0, y1, y2, y3, y4, y5, rfl, hr3, hb3⟩
       have hB3 : Below w.heap.size w w3 := t2.trans (hb3.mono t2.size)
       obtain ⟨g0, rfl, rfl, rfl, d0⟩ := kid_kind (k := 0) (f := v) 61 2 0 hr3 hb3.size rfl rfl rfl rfl
       clear hr3))
  go_ret
  exact ⟨rfl, hB3.alloc hB3.size _⟩
set_option maxRecDepth 100000 in
set_option maxHeartbeats 4000000 in
theorem fault_app (t : Tm) (f a : Tm) (w : World) (x0 x1 : Int) (x2 : ByteArray) (x3 : Option Addr) (x4 x5 : Nat) (hK : FaultK t w x0 x1 x2 x3 x4 x5) (hv : t.isVal = false) (hq : partAt t (redexP t) = .app f a) (hg : Tm.good (.app f a)) :
    Calls Tryz.prog 30 #[.agg #[.int .u8 x0, .int .i64 x1, .string x2, .slice x3 x4 x5]] w fun e w' => e = .returned (.bool (stuckT (.app f a))) ∧ Below w.heap.size w w' := by
  obtain ⟨K1, K2⟩ := hK
  rw [hv] at K1
  rw [hq] at K2
  have hk := (kind_num (s := f) hg.1).1
  have es : stuckT (.app f a) = isNum f := rfl
  rw [es]
  clear es
  have t1 : Below w.heap.size w (w.alloc (tmO x0 x1 x2 x3 x4 x5)) := (Below.refl _ w).alloc (Nat.le_refl _) _
  have z1 := alloc_here w (tmO x0 x1 x2 x3 x4 x5)
  have C1 := K1 _ t1
  clear K1 hq hv
  go_enter Tryz.func30, Tryz.ntmps30
  go_wp2_with (first
    | (go_at_call 35; refine C1.mono ?_; clear C1; rintro e w2 ⟨g, cap, rfl, hpa, hb2⟩
       have t2 : Below w.heap.size w w2 := t1.trans (hb2.mono t1.size)
       have C2 := K2 w2 g cap t2 hpa.1
       obtain ⟨a0, a1, a2, a3, _⟩ := cells4 ((hb2.block w.heap.size (by simp)).trans z1)
       clear K2)
    | (go_at_call 37; refine C2.mono ?_; clear C2; rintro e w3 ⟨y0, y1, y2, y3, y4, y5, rfl, hr3, hb3⟩
       have hB3 : Below w.heap.size w w3 := t2.trans (hb3.mono t2.size)
       obtain ⟨g0, rfl, rfl, rfl, d0⟩ := kid_kind (k := 0) (f := f) 40 2 0 hr3 hb3.size rfl rfl rfl rfl
       clear hr3))
  go_ret
  exact ⟨rfl, hB3.alloc hB3.size _⟩
set_option maxRecDepth 100000 in
set_option maxHeartbeats 4000000 in
theorem fault_sel (t : Tm) (a y z : Tm) (w : World) (x0 x1 : Int) (x2 : ByteArray) (x3 : Option Addr) (x4 x5 : Nat) (hK : FaultK t w x0 x1 x2 x3 x4 x5) (hv : t.isVal = false) (hq : partAt t (redexP t) = .sel a y z) (hg : Tm.good (.sel a y z)) :
    Calls Tryz.prog 30 #[.agg #[.int .u8 x0, .int .i64 x1, .string x2, .slice x3 x4 x5]] w fun e w' => e = .returned (.bool (stuckT (.sel a y z))) ∧ Below w.heap.size w w' := by
  obtain ⟨K1, K2⟩ := hK
  rw [hv] at K1
  rw [hq] at K2
  have hk := (kind_num (s := a) hg.1).2
  have es : stuckT (.sel a y z) = !isNum a := rfl
  rw [es]
  clear es
  have t1 : Below w.heap.size w (w.alloc (tmO x0 x1 x2 x3 x4 x5)) := (Below.refl _ w).alloc (Nat.le_refl _) _
  have z1 := alloc_here w (tmO x0 x1 x2 x3 x4 x5)
  have C1 := K1 _ t1
  clear K1 hq hv
  go_enter Tryz.func30, Tryz.ntmps30
  go_wp2_with (first
    | (go_at_call 35; refine C1.mono ?_; clear C1; rintro e w2 ⟨g, cap, rfl, hpa, hb2⟩
       have t2 : Below w.heap.size w w2 := t1.trans (hb2.mono t1.size)
       have C2 := K2 w2 g cap t2 hpa.1
       obtain ⟨a0, a1, a2, a3, _⟩ := cells4 ((hb2.block w.heap.size (by simp)).trans z1)
       clear K2)
    | (go_at_call 37; refine C2.mono ?_; clear C2; rintro e w3 ⟨y0, y1, y2, y3, y4, y5, rfl, hr3, hb3⟩
       have hB3 : Below w.heap.size w w3 := t2.trans (hb3.mono t2.size)
       obtain ⟨g0, rfl, rfl, rfl, d0⟩ := kid_kind (k := 0) (f := a) 63 3 0 hr3 hb3.size rfl rfl rfl rfl
       clear hr3))
  go_ret
  exact ⟨rfl, hB3.alloc hB3.size _⟩
set_option maxRecDepth 100000 in
set_option maxHeartbeats 4000000 in
theorem fault_op (t : Tm) (o : UInt8) (l r : Tm) (bl br : Bool) (hl : isNum l = bl) (hrr : isNum r = br) (w : World) (x0 x1 : Int) (x2 : ByteArray) (x3 : Option Addr) (x4 x5 : Nat) (hK : FaultK t w x0 x1 x2 x3 x4 x5) (hv : t.isVal = false) (hq : partAt t (redexP t) = .op o l r) (hg : Tm.good (.op o l r)) :
    Calls Tryz.prog 30 #[.agg #[.int .u8 x0, .int .i64 x1, .string x2, .slice x3 x4 x5]] w fun e w' => e = .returned (.bool (stuckT (.op o l r))) ∧ Below w.heap.size w w' := by
  obtain ⟨K1, K2⟩ := hK
  rw [hv] at K1
  rw [hq] at K2
  have hk := (kind_num (s := l) hg.2.1).2
  have hk2 := (kind_num (s := r) hg.2.2).2
  rw [hl] at hk
  rw [hrr] at hk2
  have ho : o.toNat = 43 ∨ o.toNat = 45 ∨ o.toNat = 42 := by rcases hg.1 with h | h | h <;> subst h <;> decide
  have j1 : ((o.toNat : Int) == 61) = false := by rw [beq_eq_false_iff_ne]; omega
  have j2 : ((o.toNat : Int) == 40) = false := by rw [beq_eq_false_iff_ne]; omega
  have j3 : ((o.toNat : Int) == 63) = false := by rw [beq_eq_false_iff_ne]; omega
  have es : stuckT (.op o l r) = !(bl && br) := by rw [← hl, ← hrr]; rfl
  rw [es]
  clear es hl hrr ho
  cases bl <;> cases br
  all_goals
    have t1 : Below w.heap.size w (w.alloc (tmO x0 x1 x2 x3 x4 x5)) := (Below.refl _ w).alloc (Nat.le_refl _) _
    have z1 := alloc_here w (tmO x0 x1 x2 x3 x4 x5)
    have C1 := K1 _ t1
    clear K1 hq hv
    go_enter Tryz.func30, Tryz.ntmps30
    go_wp2_with (first
      | (go_at_call 35; refine C1.mono ?_; clear C1; rintro e w2 ⟨g, cap, rfl, hpa, hb2⟩
         have t2 : Below w.heap.size w w2 := t1.trans (hb2.mono t1.size)
         have C2 := K2 w2 g cap t2 hpa.1
         obtain ⟨a0, a1, a2, a3, _⟩ := cells4 ((hb2.block w.heap.size (by simp)).trans z1)
         clear K2)
      | (go_at_call 37; refine C2.mono ?_; clear C2; rintro e w3 ⟨y0, y1, y2, y3, y4, y5, rfl, hr3, hb3⟩
         have hB3 : Below w.heap.size w w3 := t2.trans (hb3.mono t2.size)
         obtain ⟨g1, h1e, _, _, d1⟩ := kid_kind (k := 1) (f := r) (o.toNat : Int) 2 4 hr3 hb3.size rfl rfl rfl rfl
         obtain ⟨g0, rfl, rfl, rfl, d0⟩ := kid_kind (k := 0) (f := l) (o.toNat : Int) 2 0 hr3 hb3.size rfl rfl rfl rfl
         obtain rfl : g0 = g1 := by simpa using h1e
         clear h1e
         clear hr3))
    go_ret
    exact ⟨rfl, hB3.alloc hB3.size _⟩

theorem fault_c (t : Tm) (w : World) (x0 x1 : Int) (x2 : ByteArray) (x3 : Option Addr) (x4 x5 : Nat) (hK : FaultK t w x0 x1 x2 x3 x4 x5) (hv : t.isVal = false) (hN : NextOk (partAt t (redexP t))) (hg : (partAt t (redexP t)).good) :
    Calls Tryz.prog 30 #[.agg #[.int .u8 x0, .int .i64 x1, .string x2, .slice x3 x4 x5]] w fun e w' => e = .returned (.bool (stuckT (partAt t (redexP t)))) ∧ Below w.heap.size w w' := by
  rcases hq : partAt t (redexP t) with _ | c | _ | _ | ⟨f, a⟩ | ⟨c, v, b⟩ | ⟨o, l, r⟩ | ⟨a, y, z⟩
  all_goals rw [hq] at hN hg
  · cases hN.noval
  · exact absurd (hN.closed c) (by simp [cntF])
  · cases hN.noval
  · cases hN.noval
  · exact fault_app t f a w x0 x1 x2 x3 x4 x5 hK hv hq hg
  · exact fault_bind t c v b w x0 x1 x2 x3 x4 x5 hK hv hq hg
  · exact fault_op t o l r _ _ rfl rfl w x0 x1 x2 x3 x4 x5 hK hv hq hg
  · exact fault_sel t a y z w x0 x1 x2 x3 x4 x5 hK hv hq hg
set_option maxRecDepth 100000 in
set_option maxHeartbeats 2000000 in
theorem fault_val (t : Tm) (w : World) (x0 x1 : Int) (x2 : ByteArray) (x3 : Option Addr) (x4 x5 : Nat) (hK : FaultK t w x0 x1 x2 x3 x4 x5) (hv : t.isVal = true) :
    Calls Tryz.prog 30 #[.agg #[.int .u8 x0, .int .i64 x1, .string x2, .slice x3 x4 x5]] w fun e w' => e = .returned (.bool false) ∧ Below w.heap.size w w' := by
  have t1 : Below w.heap.size w (w.alloc (tmO x0 x1 x2 x3 x4 x5)) := (Below.refl _ w).alloc (Nat.le_refl _) _
  have C1 := hK.next _ t1
  rw [hv] at C1
  clear hK
  go_enter Tryz.func30, Tryz.ntmps30
  go_wp2_with (go_at_call 35; refine C1.mono ?_; clear C1; rintro e w2 ⟨g, cap, rfl, hpa, hb2⟩)
  go_ret
  exact ⟨rfl, t1.trans (hb2.mono t1.size)⟩
theorem sFault_c (t : Tm) (S : Nat → Prop) (w : World) (x0 x1 : Int) (x2 : ByteArray) (x3 : Option Addr) (x4 x5 : Nat) (hg : t.good) (hd : t.depth ≤ 1500) (hc : Closed t) (hS : ∀ g, S g → g < w.heap.size) (hr : Rep S w t (.agg #[.int .u8 x0, .int .i64 x1, .string x2, .slice x3 x4 x5])) :
    Calls Tryz.prog 30 #[.agg #[.int .u8 x0, .int .i64 x1, .string x2, .slice x3 x4 x5]] w fun e w' => e = .returned (.bool (stuckO t)) ∧ Below w.heap.size w w' := by
  have hK := faultK hg hd hc hS hr
  unfold stuckO
  cases hv : t.isVal
  · exact fault_c t w x0 x1 x2 x3 x4 x5 hK hv (next_ok t.depth t (Nat.le_refl _) hv hc) ((part_at_facts t (redexP t) (redexP_ok t)).1 hg)
  · exact fault_val t w x0 x1 x2 x3 x4 x5 hK hv
/-- Is a text a state that is stuck? -/
def stuckS (s : Text) : Bool := match stateO s with
  | some t => stuckO t
  | none => false
end Go.Proofs.YtmkibadkcmljnaaGreatDoor
