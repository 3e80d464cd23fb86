import Derived.Test.YtefmmgccdpfnaaaGreatDoorStW
import Derived.Test.YtefmmgccdpfnaaaGreatDoorCal
import Derived.Test.YtefmmgccdpfnaaaGreatDoorMSj
import Derived.Test.YtefmmgccdpfnaaaGreatDoorMPe
import Derived.Deep.RegionHeld3
/- The specification's l3Calc, l4Named. -/
namespace Go.Proofs.YtefmmgccdpfnaaaGreatDoor
open Go.RowKit
open Ff
set_option linter.unusedVariables false
attribute [local irreducible] Calls

theorem scalc4_c (o : UInt8) (a b : Nat) (ho : o.toNat = 43 ∨ o.toNat = 45 ∨ o.toNat = 42) (ha : a ≤ 99) (hb : b ≤ 99) (w : World) :
    Calls Tryz.prog 89 #[.int .u8 (o.toNat : Int), .int .i64 (a : Int), .int .i64 (b : Int)] w fun e w' => e = .returned (.int .i64 (calN o a b : Nat)) ∧ w' = w := by
  have h3 : a * b ≤ 99 * 99 := Nat.mul_le_mul ha hb
  rcases ho with h | h | h
  · have e0 : ((o.toNat : Int) == 43) = true := by rw [h]; rfl
    have q : calN o a b = (a + b) % 100 := by simp [calN, h]
    have hw : ((a : Int) + (b : Int)).tmod 100 = ((a : Int) + (b : Int)) % 100 := Int.tmod_eq_emod_of_nonneg (by omega)
    rw [q]
    clear q h
    have HW := Lib.hid hw
    clear hw
    go_enter Tryz.func89, Tryz.ntmps89
    go_wp2_with fail
    go_ret
    exact ⟨congrArg (fun z => Ending.returned (Value.int .i64 z)) (by first | omega | (rw [HW.out]; omega) | (rw [IntWalk.wrap64_in _ (by omega), HW.out]; omega)), rfl⟩
  · have e0 : ((o.toNat : Int) == 43) = false := by rw [beq_eq_false_iff_ne]; omega
    have e1 : ((o.toNat : Int) == 45) = true := by rw [h]; rfl
    have q : calN o a b = (a + 100 - b) % 100 := by simp [calN, h]
    have hw : ((a : Int) - (b : Int) + 100).tmod 100 = ((a : Int) - (b : Int) + 100) % 100 := Int.tmod_eq_emod_of_nonneg (by omega)
    rw [q]
    clear q h
    have HW := Lib.hid hw
    clear hw
    go_enter Tryz.func89, Tryz.ntmps89
    go_wp2_with fail
    go_ret
    exact ⟨congrArg (fun z => Ending.returned (Value.int .i64 z)) (by first | omega | (rw [HW.out]; omega) | (rw [IntWalk.wrap64_in _ (by omega), HW.out]; omega)), rfl⟩
  · have e0 : ((o.toNat : Int) == 43) = false := by rw [beq_eq_false_iff_ne]; omega
    have e1 : ((o.toNat : Int) == 45) = false := by rw [beq_eq_false_iff_ne]; omega
    have q : calN o a b = a * b % 100 := by simp [calN, h]
    rw [q]
    clear q h
    generalize hm : (a : Int) * (b : Int) = m
    have hm2 : m = ((a * b : Nat) : Int) := by rw [← hm]; simp
    have hw : m.tmod 100 = m % 100 := Int.tmod_eq_emod_of_nonneg (by omega)
    have HW := Lib.hid hw
    have HM := Lib.hid hm2
    have hb1 : 0 ≤ m ∧ m ≤ 9801 := by omega
    obtain ⟨hb1, hb2⟩ := hb1
    clear hw hm2 h3
    go_enter Tryz.func89, Tryz.ntmps89
    go_wp2_with fail
    go_ret
    exact ⟨congrArg (fun z => Ending.returned (Value.int .i64 z)) (by have := HM.out; generalize a * b = k at this ⊢; first | omega | (rw [HW.out]; omega) | (rw [IntWalk.wrap64_in _ (by omega), HW.out]; omega)), rfl⟩
set_option maxRecDepth 100000 in
set_option maxHeartbeats 1000000 in
theorem named_c (z0 z1 : Int) (z2 : ByteArray) (z3 : Option Addr) (z4 z5 : Nat) (ok : Bool) (nm : ByteArray) (w : World) :
    Calls Tryz.prog 87 #[.agg #[.int .u8 z0, .int .i64 z1, .string z2, .slice z3 z4 z5], .bool ok, .string nm] w fun e w' => e = .returned (.tuple #[.agg #[.int .u8 z0, .int .i64 z1, .string z2, .slice z3 z4 z5], .string (if ok = true then nm else ⟨#[]⟩)]) ∧ Below w.heap.size w w' := by
  cases ok
  · go_enter Tryz.func87, Tryz.ntmps87
    go_wp2_with fail
    refine bodyPost_ret (v := .tuple #[.agg #[.int .u8 z0, .int .i64 z1, .string z2, .slice z3 z4 z5], .string ⟨#[]⟩]) (by simp [results, Tryz.results87, go_sem]) rfl ?_
    exact ⟨rfl, below_two w (tmO z0 z1 z2 z3 z4 z5) (tmO z0 z1 z2 z3 z4 z5)⟩
  · go_enter Tryz.func87, Tryz.ntmps87
    go_wp2_with fail
    refine bodyPost_ret (v := .tuple #[.agg #[.int .u8 z0, .int .i64 z1, .string z2, .slice z3 z4 z5], .string nm]) (by simp [results, Tryz.results87, go_sem]) rfl ?_
    exact ⟨rfl, below_two w (tmO z0 z1 z2 z3 z4 z5) (tmO z0 z1 z2 z3 z4 z5)⟩
end Go.Proofs.YtefmmgccdpfnaaaGreatDoor

/- The specification's l4Rule, where nothing is put. -/
namespace Go.Proofs.YtefmmgccdpfnaaaGreatDoor
open Go.RowKit
open Ff
set_option linter.unusedVariables false
attribute [local irreducible] Calls

theorem kind_num4 {s : Tm} (h : s.good) : ((kindOf s : Int) == 110) = isNum s ∧ ((kindOf s : Int) != 110) = !isNum s := by
  have e : ((kindOf s : Int) == 110) = isNum s := by
    cases s with
    | op o l r => rcases h.1 with h | h | h <;> subst h <;> rfl
    | _ => rfl
  exact ⟨e, by rw [bne, e]⟩
/-- What a rule comes to. -/
def RuleP (S : Nat → Prop) (w : World) (q : Tm) (e : Ending) (w' : World) : Prop := ∃ (z0 z1 : Int) (z2 : ByteArray) (z3 : Option Addr) (z4 z5 : Nat) (nm : Text), e = .returned (.tuple #[.agg #[.int .u8 z0, .int .i64 z1, .string z2, .slice z3 z4 z5], .string ⟨nm.toArray⟩]) ∧ Below w.heap.size w w' ∧
  (match ruleT q with
  | some r => nm = r.2 ∧ Rep (fun g => S g ∨ New w w' g) w' r.1 (.agg #[.int .u8 z0, .int .i64 z1, .string z2, .slice z3 z4 z5])
  | none => nm = [])
set_option maxRecDepth 100000 in
set_option maxHeartbeats 4000000 in
theorem rule_sel (S : Nat → Prop) (a y z : Tm) (v : Value) (w : World) (hg : a.good) (hS : ∀ g, S g → g < w.heap.size) (hr : Rep S w (.sel a y z) v) :
    Calls Tryz.prog 62 #[v] w (RuleP S w (.sel a y z)) := by
  cases hr with
  | mk _ g cap c hgS hc hkr hcap =>
    have hgw := hS g hgS
    have r0 := hkr 0 a rfl
    have r1 := hkr 1 y rfl
    have r2 := hkr 2 z rfl
    obtain ⟨a0, a1, a2, a3, a4, a5, ea⟩ := r0.junk
    obtain ⟨y0, y1, y2, y3, y4, y5, ey⟩ := r1.junk
    obtain ⟨z0, z1, z2, z3, z4, z5, ez⟩ := r2.junk
    rw [ea] at r0
    rw [ey] at r1
    rw [ez] at r2
    obtain ⟨k0, k1, _, _⟩ := r0.kind
    unfold four at ea ey ez
    simp only [Value.agg.injEq, Array.mk.injEq, List.cons.injEq, and_true] at ea ey ez
    obtain ⟨e00, e01, e02, e03⟩ := ea
    obtain ⟨e10, e11, e12, e13⟩ := ey
    obtain ⟨e20, e21, e22, e23⟩ := ez
    have m0 : w.cell? ⟨g, 0, none⟩ = some (.int .u8 a0) := (hc 0 (by simp [Tm.kids])).trans (congrArg some e00)
    have m1 : w.cell? ⟨g, 1, none⟩ = some (.int .i64 a1) := (hc 1 (by simp [Tm.kids])).trans (congrArg some e01)
    have m2 : w.cell? ⟨g, 2, none⟩ = some (.string a2) := (hc 2 (by simp [Tm.kids])).trans (congrArg some e02)
    have m3 : w.cell? ⟨g, 3, none⟩ = some (.slice a3 a4 a5) := (hc 3 (by simp [Tm.kids])).trans (congrArg some e03)
    have m4 : w.cell? ⟨g, 4, none⟩ = some (.int .u8 y0) := (hc 4 (by simp [Tm.kids])).trans (congrArg some e10)
    have m5 : w.cell? ⟨g, 5, none⟩ = some (.int .i64 y1) := (hc 5 (by simp [Tm.kids])).trans (congrArg some e11)
    have m6 : w.cell? ⟨g, 6, none⟩ = some (.string y2) := (hc 6 (by simp [Tm.kids])).trans (congrArg some e12)
    have m7 : w.cell? ⟨g, 7, none⟩ = some (.slice y3 y4 y5) := (hc 7 (by simp [Tm.kids])).trans (congrArg some e13)
    have m8 : w.cell? ⟨g, 8, none⟩ = some (.int .u8 z0) := (hc 8 (by simp [Tm.kids])).trans (congrArg some e20)
    have m9 : w.cell? ⟨g, 9, none⟩ = some (.int .i64 z1) := (hc 9 (by simp [Tm.kids])).trans (congrArg some e21)
    have m10 : w.cell? ⟨g, 10, none⟩ = some (.string z2) := (hc 10 (by simp [Tm.kids])).trans (congrArg some e22)
    have m11 : w.cell? ⟨g, 11, none⟩ = some (.slice z3 z4 z5) := (hc 11 (by simp [Tm.kids])).trans (congrArg some e23)
    have M4 : ∀ o1 o2 o3 : Obj, (((w.alloc o1).alloc o2).alloc o3).cell? ⟨g, 4, none⟩ = some (.int .u8 y0) := fun o1 o2 o3 => ((below_three w o1 o2 o3).cell (p := ⟨g, 4, none⟩) hgw).trans m4
    have M5 : ∀ o1 o2 o3 : Obj, (((w.alloc o1).alloc o2).alloc o3).cell? ⟨g, 5, none⟩ = some (.int .i64 y1) := fun o1 o2 o3 => ((below_three w o1 o2 o3).cell (p := ⟨g, 5, none⟩) hgw).trans m5
    have M6 : ∀ o1 o2 o3 : Obj, (((w.alloc o1).alloc o2).alloc o3).cell? ⟨g, 6, none⟩ = some (.string y2) := fun o1 o2 o3 => ((below_three w o1 o2 o3).cell (p := ⟨g, 6, none⟩) hgw).trans m6
    have M7 : ∀ o1 o2 o3 : Obj, (((w.alloc o1).alloc o2).alloc o3).cell? ⟨g, 7, none⟩ = some (.slice y3 y4 y5) := fun o1 o2 o3 => ((below_three w o1 o2 o3).cell (p := ⟨g, 7, none⟩) hgw).trans m7
    have M8 : ∀ o1 o2 o3 : Obj, (((w.alloc o1).alloc o2).alloc o3).cell? ⟨g, 8, none⟩ = some (.int .u8 z0) := fun o1 o2 o3 => ((below_three w o1 o2 o3).cell (p := ⟨g, 8, none⟩) hgw).trans m8
    have M9 : ∀ o1 o2 o3 : Obj, (((w.alloc o1).alloc o2).alloc o3).cell? ⟨g, 9, none⟩ = some (.int .i64 z1) := fun o1 o2 o3 => ((below_three w o1 o2 o3).cell (p := ⟨g, 9, none⟩) hgw).trans m9
    have M10 : ∀ o1 o2 o3 : Obj, (((w.alloc o1).alloc o2).alloc o3).cell? ⟨g, 10, none⟩ = some (.string z2) := fun o1 o2 o3 => ((below_three w o1 o2 o3).cell (p := ⟨g, 10, none⟩) hgw).trans m10
    have M11 : ∀ o1 o2 o3 : Obj, (((w.alloc o1).alloc o2).alloc o3).cell? ⟨g, 11, none⟩ = some (.slice z3 z4 z5) := fun o1 o2 o3 => ((below_three w o1 o2 o3).cell (p := ⟨g, 11, none⟩) hgw).trans m11
    have hk := (kind_num4 (s := a) hg).2
    rw [← k0] at hk
    have hR1 := Lib.hid r1
    have hR2 := Lib.hid r2
    clear hc hkr r0 r1 r2 e00 e01 e02 e03 e10 e11 e12 e13 e20 e21 e22 e23 k0
    show Calls Tryz.prog 62 #[.agg #[.int .u8 63, .int .i64 0, .string ⟨#[]⟩, .slice (some ⟨g, 0, none⟩) 3 cap]] w _
    have hc3 : 3 ≤ cap := hcap
    by_cases hn : isNum a = true
    · cases a with
      | num k =>
        have k1' : a1 = (k : Int) := k1
        have hk2 : (a0 != 110) = false := hk
        clear hk hcap hg hn
        unfold RuleP
        by_cases hz : k = 0
        · have hb : (a1 == 0) = true := by rw [beq_iff_eq]; omega
          have es : ruleT (.sel (.num k) y z) = some (y, [122, 101, 114, 111]) := by simp [ruleT, hz]
          rw [es]
          clear es hz k1 k1'
          go_enter Tryz.func62, Tryz.ntmps62
          go_wp2_with fail
          refine bodyPost_ret (v := .tuple #[.agg #[.int .u8 y0, .int .i64 y1, .string y2, .slice y3 y4 y5], .string ⟨#[122, 101, 114, 111]⟩]) (by simp [results, Tryz.results62, go_sem]) rfl ?_
          exact ⟨_, _, _, _, _, _, [122, 101, 114, 111], rfl, below_three w _ _ _, rfl, hR1.out.keep (fun g hg => (below_three w _ _ _).block g (hS g hg)) (fun g hg => .inl hg)⟩
        · have hb : (a1 == 0) = false := by rw [beq_eq_false_iff_ne]; omega
          have es : ruleT (.sel (.num k) y z) = some (z, [111, 116, 104, 101, 114]) := by simp [ruleT, hz]
          rw [es]
          clear es hz k1 k1'
          go_enter Tryz.func62, Tryz.ntmps62
          go_wp2_with fail
          refine bodyPost_ret (v := .tuple #[.agg #[.int .u8 z0, .int .i64 z1, .string z2, .slice z3 z4 z5], .string ⟨#[111, 116, 104, 101, 114]⟩]) (by simp [results, Tryz.results62, go_sem]) rfl ?_
          exact ⟨_, _, _, _, _, _, [111, 116, 104, 101, 114], rfl, below_three w _ _ _, rfl, hR2.out.keep (fun g hg => (below_three w _ _ _).block g (hS g hg)) (fun g hg => .inl hg)⟩
      | _ => cases hn
    · have hn0 : isNum a = false := by simpa using hn
      rw [hn0] at hk
      have es : ruleT (.sel a y z) = none := by cases a <;> first | rfl | cases hn0
      unfold RuleP
      rw [es]
      clear es hn hn0 hg k1
      go_enter Tryz.func62, Tryz.ntmps62
      go_wp2_with fail
      refine bodyPost_ret (v := .tuple #[.agg #[.int .u8 63, .int .i64 0, .string ⟨#[]⟩, .slice (some ⟨g, 0, none⟩) 3 cap], .string ⟨#[]⟩]) (by simp [results, Tryz.results62, go_sem]) rfl ?_
      exact ⟨_, _, _, _, _, _, [], rfl, below_three w (tmO 63 0 ⟨#[]⟩ (some ⟨g, 0, none⟩) 3 cap) _ _, rfl⟩
set_option maxRecDepth 100000 in
set_option maxHeartbeats 4000000 in
theorem rule_op (S : Nat → Prop) (o : UInt8) (a y : Tm) (v : Value) (w : World) (hg : (Tm.op o a y).good) (hS : ∀ g, S g → g < w.heap.size) (hr : Rep S w (.op o a y) v) :
    Calls Tryz.prog 62 #[v] w (RuleP S w (.op o a y)) := by
  cases hr with
  | mk _ g cap c hgS hc hkr hcap =>
    have hgw := hS g hgS
    have r0 := hkr 0 a rfl
    have r1 := hkr 1 y rfl
    obtain ⟨a0, a1, a2, a3, a4, a5, ea⟩ := r0.junk
    obtain ⟨y0, y1, y2, y3, y4, y5, ey⟩ := r1.junk
    rw [ea] at r0
    rw [ey] at r1
    obtain ⟨k0, k1, _, _⟩ := r0.kind
    obtain ⟨l0, l1, _, _⟩ := r1.kind
    unfold four at ea ey
    simp only [Value.agg.injEq, Array.mk.injEq, List.cons.injEq, and_true] at ea ey
    obtain ⟨e00, e01, e02, e03⟩ := ea
    obtain ⟨e10, e11, e12, e13⟩ := ey
    have m0 : w.cell? ⟨g, 0, none⟩ = some (.int .u8 a0) := (hc 0 (by simp [Tm.kids])).trans (congrArg some e00)
    have m1 : w.cell? ⟨g, 1, none⟩ = some (.int .i64 a1) := (hc 1 (by simp [Tm.kids])).trans (congrArg some e01)
    have m2 : w.cell? ⟨g, 2, none⟩ = some (.string a2) := (hc 2 (by simp [Tm.kids])).trans (congrArg some e02)
    have m3 : w.cell? ⟨g, 3, none⟩ = some (.slice a3 a4 a5) := (hc 3 (by simp [Tm.kids])).trans (congrArg some e03)
    have m4 : w.cell? ⟨g, 4, none⟩ = some (.int .u8 y0) := (hc 4 (by simp [Tm.kids])).trans (congrArg some e10)
    have m5 : w.cell? ⟨g, 5, none⟩ = some (.int .i64 y1) := (hc 5 (by simp [Tm.kids])).trans (congrArg some e11)
    have m6 : w.cell? ⟨g, 6, none⟩ = some (.string y2) := (hc 6 (by simp [Tm.kids])).trans (congrArg some e12)
    have m7 : w.cell? ⟨g, 7, none⟩ = some (.slice y3 y4 y5) := (hc 7 (by simp [Tm.kids])).trans (congrArg some e13)
    have M4 : ∀ o1 o2 o3 : Obj, (((w.alloc o1).alloc o2).alloc o3).cell? ⟨g, 4, none⟩ = some (.int .u8 y0) := fun o1 o2 o3 => ((below_three w o1 o2 o3).cell (p := ⟨g, 4, none⟩) hgw).trans m4
    have M5 : ∀ o1 o2 o3 : Obj, (((w.alloc o1).alloc o2).alloc o3).cell? ⟨g, 5, none⟩ = some (.int .i64 y1) := fun o1 o2 o3 => ((below_three w o1 o2 o3).cell (p := ⟨g, 5, none⟩) hgw).trans m5
    have M6 : ∀ o1 o2 o3 : Obj, (((w.alloc o1).alloc o2).alloc o3).cell? ⟨g, 6, none⟩ = some (.string y2) := fun o1 o2 o3 => ((below_three w o1 o2 o3).cell (p := ⟨g, 6, none⟩) hgw).trans m6
    have M7 : ∀ o1 o2 o3 : Obj, (((w.alloc o1).alloc o2).alloc o3).cell? ⟨g, 7, none⟩ = some (.slice y3 y4 y5) := fun o1 o2 o3 => ((below_three w o1 o2 o3).cell (p := ⟨g, 7, none⟩) hgw).trans m7
    have hk := (kind_num4 (s := a) hg.2.1).2
    have hl := (kind_num4 (s := y) hg.2.2).2
    rw [← k0] at hk
    rw [← l0] at hl
    have ho : o.toNat = 43 ∨ o.toNat = 45 ∨ o.toNat = 42 := by rcases hg.1 with h | h | h <;> subst h <;> decide
    have j1 : ((o.toNat : Int) == 61) = false := by rw [beq_eq_false_iff_ne]; omega
    have j2 : ((o.toNat : Int) == 40) = false := by rw [beq_eq_false_iff_ne]; omega
    have j3 : ((o.toNat : Int) == 63) = false := by rw [beq_eq_false_iff_ne]; omega
    have hc3 : 2 ≤ cap := hcap
    clear hc hkr r0 r1 e00 e01 e02 e03 e10 e11 e12 e13 k0 l0 hcap
    show Calls Tryz.prog 62 #[.agg #[.int .u8 (o.toNat : Int), .int .i64 0, .string ⟨#[]⟩, .slice (some ⟨g, 0, none⟩) 2 cap]] w _
    have es : (isNum a && isNum y) = false → ruleT (.op o a y) = none := fun h => by
      cases a <;> first | rfl | (cases y <;> first | rfl | cases h)
    cases ha : isNum a
    · rw [ha] at hk es
      unfold RuleP
      rw [es rfl]
      clear es ha hg hl k1 l1 ho
      generalize (o.toNat : Int) = z at *
      go_enter Tryz.func62, Tryz.ntmps62
      go_wp2_with fail
      refine bodyPost_ret (v := .tuple #[.agg #[.int .u8 z, .int .i64 0, .string ⟨#[]⟩, .slice (some ⟨g, 0, none⟩) 2 cap], .string ⟨#[]⟩]) (by simp [results, Tryz.results62, go_sem]) rfl ?_
      exact ⟨_, _, _, _, _, _, [], rfl, (below_three w _ _ _).alloc (by simp; omega) _, rfl⟩
    · cases hy : isNum y
      · rw [ha] at hk es
        rw [hy] at hl es
        unfold RuleP
        rw [es rfl]
        clear es ha hy hg k1 l1 ho
        generalize (o.toNat : Int) = z at *
        go_enter Tryz.func62, Tryz.ntmps62
        go_wp2_with fail
        refine bodyPost_ret (v := .tuple #[.agg #[.int .u8 z, .int .i64 0, .string ⟨#[]⟩, .slice (some ⟨g, 0, none⟩) 2 cap], .string ⟨#[]⟩]) (by simp [results, Tryz.results62, go_sem]) rfl ?_
        exact ⟨_, _, _, _, _, _, [], rfl, (below_three w _ _ _).alloc (by simp; omega) _, rfl⟩
      · cases a with
        | num n1 =>
          cases y with
          | num n2 =>
            have K := fun W => scalc4_c o n1 n2 ho (by have := hg.2.1; simp only [Tm.good] at this; omega) (by have := hg.2.2; simp only [Tm.good] at this; omega) W
            have k1' : a1 = (n1 : Int) := k1
            have l1' : y1 = (n2 : Int) := l1
            have hk2 : (a0 != 110) = false := hk
            have hl2 : (y0 != 110) = false := hl
            have es2 : ruleT (.op o (.num n1) (.num n2)) = some (.num (calN o n1 n2), [110, 117, 109, 98, 101, 114]) := rfl
            rw [← k1', ← l1'] at K
            unfold RuleP
            rw [es2]
            generalize calN o n1 n2 = n3 at *
            clear es es2 ha hy hg k1 l1 k1' l1' ho hk hl
            generalize (o.toNat : Int) = z at *
            go_enter Tryz.func62, Tryz.ntmps62
            go_wp2_with (go_at_call 89; refine (K _).mono ?_; clear K; rintro e w5 ⟨rfl, rfl⟩)
            refine bodyPost_ret (v := .tuple #[.agg #[.int .u8 110, .int .i64 (n3 : Int), .string ⟨#[]⟩, .slice (some ⟨w.heap.size + 1 + 1 + 1 + 1, 0, none⟩) 0 0], .string ⟨#[110, 117, 109, 98, 101, 114]⟩]) (by simp [results, Tryz.results62, go_sem]) rfl ?_
            refine ⟨_, _, _, _, _, _, [110, 117, 109, 98, 101, 114], rfl, ((below_three w _ _ _).alloc (by simp; omega) _).alloc (by simp; omega) _, rfl, ?_⟩
            exact Rep.mk (.num n3) (w.heap.size + 1 + 1 + 1 + 1) 0 (fun _ => .nilIface) (.inr ⟨by omega, by simp⟩) (fun k hk => absurd hk (by simp [Tm.kids])) (fun i s hs => by simp [Tm.kids] at hs) (by simp [Tm.kids])
          | _ => cases hy
        | _ => cases ha
end Go.Proofs.YtefmmgccdpfnaaaGreatDoor

/- The specification's l4Rule, where something is put. -/
namespace Go.Proofs.YtefmmgccdpfnaaaGreatDoor
open Go.RowKit
open Ff
set_option linter.unusedVariables false
attribute [local irreducible] Calls

theorem box_here {W0 w5 : World} {o : Obj} (h : Below (W0.drew.alloc o).heap.size (W0.drew.alloc o) w5) : w5.heap[W0.heap.size]? = some o := (h.block W0.heap.size (by rw [World.size_alloc]; exact Nat.lt_succ_self _)).trans (alloc_here W0.drew o)
/-- Behind the putting: the name of the rule, and what is told. -/
structure PutW (S : Nat → Prop) (w W0 W6 : World) (R : Tm) (b : Nat) (z0 z1 : Int) (z2 : ByteArray) (z3 : Option Addr) (z4 z5 : Nat) : Prop where
  below : Below W0.heap.size W0 W6
  box : W6.cell? ⟨b, 0, none⟩ = some (.int .u8 z0) ∧ W6.cell? ⟨b, 1, none⟩ = some (.int .i64 z1) ∧ W6.cell? ⟨b, 2, none⟩ = some (.string z2) ∧ W6.cell? ⟨b, 3, none⟩ = some (.slice z3 z4 z5)
  rep : Rep (fun g => S g ∨ (W0.heap.size ≤ g ∧ g < W6.heap.size)) W6 R (.agg #[.int .u8 z0, .int .i64 z1, .string z2, .slice z3 z4 z5])
theorem put_late {S : Nat → Prop} {w W0 w5 : World} {R : Tm} {z0 z1 : Int} {z2 : ByteArray} {z3 : Option Addr} {z4 z5 : Nat} (hS : ∀ g, S g → g < w.heap.size) (hw : w.heap.size ≤ W0.heap.size) (hB5 : Below W0.heap.size W0 w5) (hr5 : Rep (fun g => S g ∨ New W0.drew w5 g) w5 R (.agg #[.int .u8 z0, .int .i64 z1, .string z2, .slice z3 z4 z5])) :
    PutW S w W0 (w5.alloc (tmO z0 z1 z2 z3 z4 z5)) R w5.heap.size z0 z1 z2 z3 z4 z5 := by
  obtain ⟨c0, c1, c2, c3, _⟩ := cells4 (alloc_here w5 (tmO z0 z1 z2 z3 z4 z5))
  have hz := hB5.size
  have hn : ∀ g, New W0.drew w5 g → W0.heap.size ≤ g ∧ g < w5.heap.size := fun g h => ⟨h.1, h.2⟩
  exact ⟨hB5.alloc hB5.size _, ⟨c0, c1, c2, c3⟩, hr5.keep (fun g hg => alloc_far _ _ (by rcases hg with h | h; have := hS g h; omega; exact (hn g h).2)) (fun g hg => hg.imp id (fun h => ⟨(hn g h).1, by have := (hn g h).2; rw [World.size_alloc]; omega⟩))⟩
theorem put_early {S : Nat → Prop} {w W0 w5 : World} {o : Obj} {R : Tm} {z0 z1 : Int} {z2 : ByteArray} {z3 : Option Addr} {z4 z5 : Nat} {u0 u1 u2 u3 : Value} (hS : ∀ g, S g → g < w.heap.size) (hw : w.heap.size ≤ W0.heap.size) (hB5 : Below W0.heap.size W0 w5) (hr5 : Rep (fun g => S g ∨ New (W0.drew.alloc o) w5 g) w5 R (.agg #[.int .u8 z0, .int .i64 z1, .string z2, .slice z3 z4 z5]))
    (t0 : w5.cell? ⟨W0.heap.size, 0, none⟩ = some u0) (t1 : w5.cell? ⟨W0.heap.size, 1, none⟩ = some u1) (t2 : w5.cell? ⟨W0.heap.size, 2, none⟩ = some u2) (t3 : w5.cell? ⟨W0.heap.size, 3, none⟩ = some u3) :
    PutW S w W0 (set4 w5 W0.heap.size (.int .u8 z0) (.int .i64 z1) (.string z2) (.slice z3 z4 z5)) R W0.heap.size z0 z1 z2 z3 z4 z5 := by
  have hc := set4o_here (W := w5) (b := W0.heap.size) (o := 0) (z0 := .int .u8 z0) (z1 := .int .i64 z1) (z2 := .string z2) (z3 := .slice z3 z4 z5) t0 t1 t2 t3
  have hz := hB5.size
  have hn : ∀ g, New (W0.drew.alloc o) w5 g → W0.heap.size < g ∧ g < w5.heap.size := fun g h => ⟨by have := h.1; rw [World.size_alloc] at this; exact this, h.2⟩
  exact ⟨set4_below hB5 (Nat.le_refl _) _ _ _ _, hc, hr5.keep (fun g hg => set4_far _ _ _ _ _ _ g (by rcases hg with h | h; have := hS g h; omega; have := (hn g h).1; omega)) (fun g hg => hg.imp id (fun h => ⟨by have := (hn g h).1; omega, by have := (hn g h).2; rw [set4_size]; exact this⟩))⟩
set_option maxRecDepth 100000 in
set_option maxHeartbeats 4000000 in
theorem rule_bind (S : Nat → Prop) (x : UInt8) (u t : Tm) (v : Value) (w : World) (hg : (Tm.bind x u t).good) (hd : t.depth ≤ 4000) (hud : u.depth ≤ 4000) (hp : (parts t).length ≤ 100000000) (hz : sfree u = []) (hx : isNam x = true) (hS : ∀ g, S g → g < w.heap.size) (hr : Rep S w (.bind x u t) v) :
    Calls Tryz.prog 62 #[v] w (RuleP S w (.bind x u t)) := by
  have gu : u.good := Tm.kid_good hg (by simp [Tm.kids])
  have gt : t.good := Tm.kid_good hg (by simp [Tm.kids])
  cases hr with
  | mk _ g cap c hgS hc hkr hcap =>
    have hgw := hS g hgS
    have r0 := hkr 0 u rfl
    have r1 := hkr 1 t rfl
    obtain ⟨a0, a1, a2, a3, a4, a5, ea⟩ := r0.junk
    obtain ⟨y0, y1, y2, y3, y4, y5, ey⟩ := r1.junk
    rw [ea] at r0
    rw [ey] at r1
    unfold four at ea ey
    simp only [Value.agg.injEq, Array.mk.injEq, List.cons.injEq, and_true] at ea ey
    obtain ⟨e00, e01, e02, e03⟩ := ea
    obtain ⟨e10, e11, e12, e13⟩ := ey
    have m0 : w.cell? ⟨g, 0, none⟩ = some (.int .u8 a0) := (hc 0 (by simp [Tm.kids])).trans (congrArg some e00)
    have m1 : w.cell? ⟨g, 1, none⟩ = some (.int .i64 a1) := (hc 1 (by simp [Tm.kids])).trans (congrArg some e01)
    have m2 : w.cell? ⟨g, 2, none⟩ = some (.string a2) := (hc 2 (by simp [Tm.kids])).trans (congrArg some e02)
    have m3 : w.cell? ⟨g, 3, none⟩ = some (.slice a3 a4 a5) := (hc 3 (by simp [Tm.kids])).trans (congrArg some e03)
    have m4 : w.cell? ⟨g, 4, none⟩ = some (.int .u8 y0) := (hc 4 (by simp [Tm.kids])).trans (congrArg some e10)
    have m5 : w.cell? ⟨g, 5, none⟩ = some (.int .i64 y1) := (hc 5 (by simp [Tm.kids])).trans (congrArg some e11)
    have m6 : w.cell? ⟨g, 6, none⟩ = some (.string y2) := (hc 6 (by simp [Tm.kids])).trans (congrArg some e12)
    have m7 : w.cell? ⟨g, 7, none⟩ = some (.slice y3 y4 y5) := (hc 7 (by simp [Tm.kids])).trans (congrArg some e13)
    have hc3 : 2 ≤ cap := hcap
    have KS : ∀ W, Below w.heap.size w W → Calls Tryz.prog 86 #[.agg #[.int .u8 y0, .int .i64 y1, .string y2, .slice y3 y4 y5], .string ⟨#[x]⟩, .agg #[.int .u8 a0, .int .i64 a1, .string a2, .slice a3 a4 a5]] W fun e W' =>
        ∃ (z0 z1 : Int) (z2 : ByteArray) (z3 : Option Addr) (z4 z5 : Nat), e = .returned (.tuple #[.agg #[.int .u8 z0, .int .i64 z1, .string z2, .slice z3 z4 z5], .bool true]) ∧ Below W.heap.size W W' ∧ Rep (fun g => S g ∨ New W W' g) W' (subS t.depth x u t).1 (.agg #[.int .u8 z0, .int .i64 z1, .string z2, .slice z3 z4 z5]) := fun W hW =>
      (subst_c t.depth S x t u _ _ W (Nat.le_refl _) hd gt gu hud hp hx (fun g hg => by have := hS g hg; have := hW.size; omega) (r1.keep (fun g hg => hW.block g (hS g hg)) (fun g hg => hg)) (r0.keep (fun g hg => hW.block g (hS g hg)) (fun g hg => hg))).mono fun e W' h => by
        obtain ⟨q, he, hb, hr⟩ := h
        obtain ⟨z0, z1, z2, z3, z4, z5, rfl⟩ := hr.junk
        rw [subS_closed _ _ _ _ hz] at he
        exact ⟨z0, z1, z2, z3, z4, z5, he, hb, hr⟩
    clear hc hkr r0 r1 e00 e01 e02 e03 e10 e11 e12 e13 hcap gu gt hg hd hud hp hz hx
    show Calls Tryz.prog 62 #[.agg #[.int .u8 61, .int .i64 0, .string ⟨#[x]⟩, .slice (some ⟨g, 0, none⟩) 2 cap]] w _
    have es : ruleT (.bind x u t) = some ((subS t.depth x u t).1, [108, 101, 116]) := rfl
    unfold RuleP
    rw [es]
    clear es
    generalize (subS t.depth x u t).1 = R at *
    go_enter Tryz.func62, Tryz.ntmps62
    go_wp2_with fail
    obtain ⟨W0, hW0⟩ : ∃ W0, ((w.alloc (tmO 61 0 ⟨#[x]⟩ (some ⟨g, 0, none⟩) 2 cap)).alloc (tmO 0 0 ⟨#[]⟩ none 0 0)).alloc (tmO a0 a1 a2 a3 a4 a5) = W0 := ⟨_, rfl⟩
    rw [hW0]
    have B0 : Below w.heap.size w W0 := by rw [← hW0]; exact below_three w _ _ _
    have hz0 : W0.heap.size = w.heap.size + 1 + 1 + 1 := by rw [← hW0]; simp
    have p0 : W0.heap[w.heap.size]? = some (tmO 61 0 ⟨#[x]⟩ (some ⟨g, 0, none⟩) 2 cap) := by rw [← hW0, alloc_far _ _ (by simp; omega), alloc_far _ _ (by simp)]; exact alloc_here _ _
    have p1 : W0.heap[w.heap.size + 1]? = some (tmO 0 0 ⟨#[]⟩ none 0 0) := by
      rw [← hW0, alloc_far _ _ (by simp)]
      have h := alloc_here (w.alloc (tmO 61 0 ⟨#[x]⟩ (some ⟨g, 0, none⟩) 2 cap)) (tmO 0 0 ⟨#[]⟩ none 0 0)
      rwa [World.size_alloc] at h
    have p2 : W0.heap[w.heap.size + 1 + 1]? = some (tmO a0 a1 a2 a3 a4 a5) := by
      rw [← hW0]
      have h := alloc_here ((w.alloc (tmO 61 0 ⟨#[x]⟩ (some ⟨g, 0, none⟩) 2 cap)).alloc (tmO 0 0 ⟨#[]⟩ none 0 0)) (tmO a0 a1 a2 a3 a4 a5)
      rwa [World.size_alloc, World.size_alloc] at h
    clear hW0
    obtain ⟨_, _, q02, q03, _⟩ := cells4 p0
    obtain ⟨q20, q21, q22, q23, _⟩ := cells4 p2
    have LB : ∀ W, Below W0.heap.size W0 W → Below W0.heap.size W0 W ∧ W.cell? ⟨g, 4, none⟩ = some (.int .u8 y0) ∧ W.cell? ⟨g, 5, none⟩ = some (.int .i64 y1) ∧ W.cell? ⟨g, 6, none⟩ = some (.string y2) ∧ W.cell? ⟨g, 7, none⟩ = some (.slice y3 y4 y5) ∧ W.cell? ⟨w.heap.size, 2, none⟩ = some (.string ⟨#[x]⟩) ∧ W.cell? ⟨w.heap.size, 3, none⟩ = some (.slice (some ⟨g, 0, none⟩) 2 cap) ∧ W.cell? ⟨w.heap.size + 1 + 1, 0, none⟩ = some (.int .u8 a0) ∧ W.cell? ⟨w.heap.size + 1 + 1, 1, none⟩ = some (.int .i64 a1) ∧ W.cell? ⟨w.heap.size + 1 + 1, 2, none⟩ = some (.string a2) ∧ W.cell? ⟨w.heap.size + 1 + 1, 3, none⟩ = some (.slice a3 a4 a5) := fun W hW => ⟨hW, ((B0.trans (hW.mono B0.size)).cell (p := ⟨g, 4, none⟩) hgw).trans m4, ((B0.trans (hW.mono B0.size)).cell (p := ⟨g, 5, none⟩) hgw).trans m5, ((B0.trans (hW.mono B0.size)).cell (p := ⟨g, 6, none⟩) hgw).trans m6, ((B0.trans (hW.mono B0.size)).cell (p := ⟨g, 7, none⟩) hgw).trans m7, (hW.cell (p := ⟨w.heap.size, 2, none⟩) (by show w.heap.size < _; omega)).trans q02, (hW.cell (p := ⟨w.heap.size, 3, none⟩) (by show w.heap.size < _; omega)).trans q03, (hW.cell (p := ⟨w.heap.size + 1 + 1, 0, none⟩) (by show w.heap.size + 1 + 1 < _; omega)).trans q20, (hW.cell (p := ⟨w.heap.size + 1 + 1, 1, none⟩) (by show w.heap.size + 1 + 1 < _; omega)).trans q21, (hW.cell (p := ⟨w.heap.size + 1 + 1, 2, none⟩) (by show w.heap.size + 1 + 1 < _; omega)).trans q22, (hW.cell (p := ⟨w.heap.size + 1 + 1, 3, none⟩) (by show w.heap.size + 1 + 1 < _; omega)).trans q23⟩
    have KS2 : ∀ W, Below W0.heap.size W0 W → Calls Tryz.prog 86 #[.agg #[.int .u8 y0, .int .i64 y1, .string y2, .slice y3 y4 y5], .string ⟨#[x]⟩, .agg #[.int .u8 a0, .int .i64 a1, .string a2, .slice a3 a4 a5]] W fun e W' =>
        ∃ (z0 z1 : Int) (z2 : ByteArray) (z3 : Option Addr) (z4 z5 : Nat), e = .returned (.tuple #[.agg #[.int .u8 z0, .int .i64 z1, .string z2, .slice z3 z4 z5], .bool true]) ∧ Below W.heap.size W W' ∧ Below W0.heap.size W0 W' ∧ Rep (fun g => S g ∨ New W W' g) W' R (.agg #[.int .u8 z0, .int .i64 z1, .string z2, .slice z3 z4 z5]) := fun W hW =>
      (KS W (B0.trans (hW.mono B0.size))).mono fun e W' ⟨z0, z1, z2, z3, z4, z5, h1, h2, h3⟩ => ⟨z0, z1, z2, z3, z4, z5, h1, h2, hW.trans (h2.mono hW.size), h3⟩
    have HP1 := Lib.hid p1
    have HZ0 := Lib.hid hz0
    clear hz0
    clear m0 m1 m2 m3 m4 m5 m6 m7 q02 q03 q20 q21 q22 q23 p0 p1 p2 KS
    go_region_held3 (fun W => Below W0.heap.size W0 W ∧ W.cell? ⟨g, 4, none⟩ = some (.int .u8 y0) ∧ W.cell? ⟨g, 5, none⟩ = some (.int .i64 y1) ∧ W.cell? ⟨g, 6, none⟩ = some (.string y2) ∧ W.cell? ⟨g, 7, none⟩ = some (.slice y3 y4 y5) ∧ W.cell? ⟨w.heap.size, 2, none⟩ = some (.string ⟨#[x]⟩) ∧ W.cell? ⟨w.heap.size, 3, none⟩ = some (.slice (some ⟨g, 0, none⟩) 2 cap) ∧ W.cell? ⟨w.heap.size + 1 + 1, 0, none⟩ = some (.int .u8 a0) ∧ W.cell? ⟨w.heap.size + 1 + 1, 1, none⟩ = some (.int .i64 a1) ∧ W.cell? ⟨w.heap.size + 1 + 1, 2, none⟩ = some (.string a2) ∧ W.cell? ⟨w.heap.size + 1 + 1, 3, none⟩ = some (.slice a3 a4 a5)) (first | (refine LB _ ?_; solve | (repeat' (first | assumption | exact Below.refl _ _ | refine Below.drew ?_ | (refine Below.alloc ?_ ?_ _) | (refine Below.setCell (p := ⟨_, _, none⟩) ?_ ?_ _) | exact hB5.size | exact Nat.le_refl _ | (show _ ≤ _; omega) | omega)))) (first | (go_at_call 86; refine (KS2 _ ?_).mono ?_; (solve | (repeat' (first | assumption | exact Below.refl _ _ | refine Below.drew ?_ | (refine Below.alloc ?_ ?_ _) | exact Nat.le_refl _ | omega))); rintro e w5 ⟨z0, z1, z2, z3, z4, z5, rfl, hb5, hB5, hr5⟩; have hbx := box_here hb5; obtain ⟨t0, t1, t2, t3, t4, t5, t6, t7⟩ := cells4 hbx; clear hbx) | (go_at_call 86; refine (KS2 _ ?_).mono ?_; (solve | (repeat' (first | assumption | exact Below.refl _ _ | refine Below.drew ?_ | (refine Below.alloc ?_ ?_ _) | exact Nat.le_refl _ | omega))); rintro e w5 ⟨z0, z1, z2, z3, z4, z5, rfl, hb5, hB5, hr5⟩; have hb6 := hb5))
    all_goals
      have P6 := by first | exact put_late hS B0.size hB5 hr5 | exact put_early hS B0.size hB5 hr5 t0 t1 t2 t3
      have HS := Lib.hid hS
      have BW := B0.size
      first
        | (have hh : PutW S w W0 (w5.alloc (tmO z0 z1 z2 z3 z4 z5)) R w5.heap.size z0 z1 z2 z3 z4 z5 := P6; clear hh; generalize (w5.alloc (.cells #[.int .u8 z0, .int .i64 z1, .string z2, .slice z3 z4 z5] 54)) = W6 at *)
        | (dsimp only [set4] at P6; generalize ((((w5.setCell ⟨W0.heap.size, 0, none⟩ (.int .u8 z0)).setCell ⟨W0.heap.size, 1, none⟩ (.int .i64 z1)).setCell ⟨W0.heap.size, 2, none⟩ (.string z2)).setCell ⟨W0.heap.size, 3, none⟩ (.slice z3 z4 z5)) = W6 at *)
      obtain ⟨B6, ⟨c0, c1, c2, c3⟩, r6⟩ := P6
      have z6 := B6.size
      have X1 := (B6.block (w.heap.size + 1) (by have := HZ0.out; omega)).trans HP1.out
      have hlt : w.heap.size + 1 < W6.heap.size := by have := HZ0.out; omega
      have R6 := Lib.hid r6
      have KN := fun W => named_c z0 z1 z2 z3 z4 z5 true ⟨#[108, 101, 116]⟩ W
      simp only [if_true] at KN
      have B06 := B0.trans (B6.mono B0.size)
      clear r6 hr5 hb5 hB5 KS2 LB hS B0 B6
      go_wp2_with (go_at_call 87; refine (KN _).mono ?_; clear KN; rintro e w7 ⟨rfl, hb7⟩; (obtain ⟨d0, d1, d2, d3, f0, f1, f2, f3⟩ := cells4 ((hb7.block (w.heap.size + 1) hlt).trans X1)))
      refine bodyPost_ret (v := .tuple #[.agg #[.int .u8 z0, .int .i64 z1, .string z2, .slice z3 z4 z5], .string ⟨#[108, 101, 116]⟩]) (by simp [results, Tryz.results62, go_sem, d0, d1, d2, d3]) rfl ?_
      have z7 : W6.heap.size ≤ w7.heap.size := hb7.size
      refine ⟨_, _, _, _, _, _, [108, 101, 116], rfl, set4_below (B06.trans (hb7.mono (by show _ ≤ W6.heap.size; omega))) (by omega) _ _ _ _, rfl, ?_⟩
      exact R6.out.keep (fun g hg => (set4_far _ _ _ _ _ _ g (by rcases hg with h | h; have := HS.out g h; omega; have := HZ0.out; omega)).trans (hb7.block g (by show g < W6.heap.size; rcases hg with h | h; have := HS.out g h; omega; exact h.2))) (fun g hg => hg.imp id (fun h => ⟨by omega, by rw [set4_size]; omega⟩))
end Go.Proofs.YtefmmgccdpfnaaaGreatDoor

/- The specification's l4Call: a number, and a function that does not call itself. -/
namespace Go.Proofs.YtefmmgccdpfnaaaGreatDoor
open Go.RowKit
open Ff
set_option linter.unusedVariables false
attribute [local irreducible] Calls

set_option maxRecDepth 100000 in
set_option maxHeartbeats 4000000 in
theorem call_num (S : Nat → Prop) (k : Nat) (y : Tm) (vf vy : Value) (w : World) (hr : Rep S w (.num k) vf) (hry : Rep S w y vy) :
    Calls Tryz.prog 88 #[vf, vy] w (RuleP S w (.app (.num k) y)) := by
  obtain ⟨y0, y1, y2, y3, y4, y5, rfl⟩ := hry.junk
  cases hr with
  | mk _ g cap c hgS hc hkr hcap =>
    show Calls Tryz.prog 88 #[.agg #[.int .u8 110, .int .i64 (k : Int), .string ⟨#[]⟩, .slice (some ⟨g, 0, none⟩) 0 cap], .agg #[.int .u8 y0, .int .i64 y1, .string y2, .slice y3 y4 y5]] w _
    unfold RuleP
    have es : ruleT (.app (.num k) y) = none := rfl
    rw [es]
    clear es hc hkr hry hcap
    generalize (k : Int) = kk
    go_enter Tryz.func88, Tryz.ntmps88
    go_wp2_with fail
    refine bodyPost_ret (v := .tuple #[.agg #[.int .u8 110, .int .i64 kk, .string ⟨#[]⟩, .slice (some ⟨g, 0, none⟩) 0 cap], .string ⟨#[]⟩]) (by simp [results, Tryz.results88, go_sem]) rfl ?_
    exact ⟨_, _, _, _, _, _, [], rfl, by first | exact below_three w (tmO 110 kk ⟨#[]⟩ (some ⟨g, 0, none⟩) 0 cap) _ (tmO 110 kk ⟨#[]⟩ (some ⟨g, 0, none⟩) 0 cap) | exact below_three w _ _ _, rfl⟩
set_option maxRecDepth 100000 in
set_option maxHeartbeats 4000000 in
theorem call_fn (S : Nat → Prop) (x : UInt8) (b u : Tm) (vf vy : Value) (w : World) (gb : b.good) (gu : u.good) (hd : b.depth ≤ 4000) (hud : u.depth ≤ 4000) (hp : (parts b).length ≤ 100000000) (hz : sfree u = []) (hx : isNam x = true) (hS : ∀ g, S g → g < w.heap.size) (hr : Rep S w (.fn x b) vf) (hry : Rep S w u vy) :
    Calls Tryz.prog 88 #[vf, vy] w (RuleP S w (.app (.fn x b) u)) := by
  obtain ⟨y0, y1, y2, y3, y4, y5, rfl⟩ := hry.junk
  cases hr with
  | mk _ g cap c hgS hc hkr hcap =>
    have hgw := hS g hgS
    have r0 := hkr 0 b rfl
    obtain ⟨a0, a1, a2, a3, a4, a5, ea⟩ := r0.junk
    rw [ea] at r0
    unfold four at ea
    simp only [Value.agg.injEq, Array.mk.injEq, List.cons.injEq, and_true] at ea
    obtain ⟨e00, e01, e02, e03⟩ := ea
    have m0 : w.cell? ⟨g, 0, none⟩ = some (.int .u8 a0) := (hc 0 (by simp [Tm.kids])).trans (congrArg some e00)
    have m1 : w.cell? ⟨g, 1, none⟩ = some (.int .i64 a1) := (hc 1 (by simp [Tm.kids])).trans (congrArg some e01)
    have m2 : w.cell? ⟨g, 2, none⟩ = some (.string a2) := (hc 2 (by simp [Tm.kids])).trans (congrArg some e02)
    have m3 : w.cell? ⟨g, 3, none⟩ = some (.slice a3 a4 a5) := (hc 3 (by simp [Tm.kids])).trans (congrArg some e03)
    have M0 : ∀ o1 o2 o3 : Obj, (((w.alloc o1).alloc o2).alloc o3).cell? ⟨g, 0, none⟩ = some (.int .u8 a0) := fun o1 o2 o3 => ((below_three w o1 o2 o3).cell (p := ⟨g, 0, none⟩) hgw).trans m0
    have M1 : ∀ o1 o2 o3 : Obj, (((w.alloc o1).alloc o2).alloc o3).cell? ⟨g, 1, none⟩ = some (.int .i64 a1) := fun o1 o2 o3 => ((below_three w o1 o2 o3).cell (p := ⟨g, 1, none⟩) hgw).trans m1
    have M2 : ∀ o1 o2 o3 : Obj, (((w.alloc o1).alloc o2).alloc o3).cell? ⟨g, 2, none⟩ = some (.string a2) := fun o1 o2 o3 => ((below_three w o1 o2 o3).cell (p := ⟨g, 2, none⟩) hgw).trans m2
    have M3 : ∀ o1 o2 o3 : Obj, (((w.alloc o1).alloc o2).alloc o3).cell? ⟨g, 3, none⟩ = some (.slice a3 a4 a5) := fun o1 o2 o3 => ((below_three w o1 o2 o3).cell (p := ⟨g, 3, none⟩) hgw).trans m3
    have hc3 : 1 ≤ cap := hcap
    have KS : ∀ W, Below w.heap.size w W → Calls Tryz.prog 86 #[.agg #[.int .u8 a0, .int .i64 a1, .string a2, .slice a3 a4 a5], .string ⟨#[x]⟩, .agg #[.int .u8 y0, .int .i64 y1, .string y2, .slice y3 y4 y5]] W fun e W' =>
        ∃ (z0 z1 : Int) (z2 : ByteArray) (z3 : Option Addr) (z4 z5 : Nat), e = .returned (.tuple #[.agg #[.int .u8 z0, .int .i64 z1, .string z2, .slice z3 z4 z5], .bool true]) ∧ Below W.heap.size W W' ∧ Rep (fun g => S g ∨ New W W' g) W' (subS b.depth x u b).1 (.agg #[.int .u8 z0, .int .i64 z1, .string z2, .slice z3 z4 z5]) := fun W hW =>
      (subst_c b.depth S x b u _ _ W (Nat.le_refl _) hd gb gu hud hp hx (fun g hg => by have := hS g hg; have := hW.size; omega) (r0.keep (fun g hg => hW.block g (hS g hg)) (fun g hg => hg)) (hry.keep (fun g hg => hW.block g (hS g hg)) (fun g hg => hg))).mono fun e W' h => by
        obtain ⟨q, he, hb, hr⟩ := h
        obtain ⟨z0, z1, z2, z3, z4, z5, rfl⟩ := hr.junk
        rw [subS_closed _ _ _ _ hz] at he
        exact ⟨z0, z1, z2, z3, z4, z5, he, hb, hr⟩
    clear hc hkr r0 hry e00 e01 e02 e03 hcap gu gb hd hud hp hz hx
    show Calls Tryz.prog 88 #[.agg #[.int .u8 92, .int .i64 0, .string ⟨#[x]⟩, .slice (some ⟨g, 0, none⟩) 1 cap], .agg #[.int .u8 y0, .int .i64 y1, .string y2, .slice y3 y4 y5]] w _
    have es : ruleT (.app (.fn x b) u) = some ((subS b.depth x u b).1, [99, 97, 108, 108]) := rfl
    unfold RuleP
    rw [es]
    clear es
    generalize (subS b.depth x u b).1 = R at *
    go_enter Tryz.func88, Tryz.ntmps88
    go_wp2_with fail
    obtain ⟨W0, hW0⟩ : ∃ W0, (((w.alloc (tmO 92 0 ⟨#[x]⟩ (some ⟨g, 0, none⟩) 1 cap)).alloc (tmO y0 y1 y2 y3 y4 y5)).alloc (tmO 0 0 ⟨#[]⟩ none 0 0)).alloc (tmO a0 a1 a2 a3 a4 a5) = W0 := ⟨_, rfl⟩
    rw [hW0]
    have B0 : Below w.heap.size w W0 := by rw [← hW0]; exact below_four w _ _ _ _
    have hz0 : W0.heap.size = w.heap.size + 1 + 1 + 1 + 1 := by rw [← hW0]; simp
    have p0 : W0.heap[w.heap.size]? = some (tmO 92 0 ⟨#[x]⟩ (some ⟨g, 0, none⟩) 1 cap) := by rw [← hW0, alloc_far _ _ (by first | (simp; done) | (simp; omega)), alloc_far _ _ (by first | (simp; done) | (simp; omega)), alloc_far _ _ (by first | (simp; done) | (simp; omega))]; exact alloc_here _ _
    have p1 : W0.heap[w.heap.size + 1]? = some (tmO y0 y1 y2 y3 y4 y5) := by
      rw [← hW0, alloc_far _ _ (by first | (simp; done) | (simp; omega)), alloc_far _ _ (by first | (simp; done) | (simp; omega))]
      have h := alloc_here (w.alloc (tmO 92 0 ⟨#[x]⟩ (some ⟨g, 0, none⟩) 1 cap)) (tmO y0 y1 y2 y3 y4 y5)
      rwa [World.size_alloc] at h
    have p2 : W0.heap[w.heap.size + 1 + 1]? = some (tmO 0 0 ⟨#[]⟩ none 0 0) := by
      rw [← hW0, alloc_far _ _ (by first | (simp; done) | (simp; omega))]
      have h := alloc_here ((w.alloc (tmO 92 0 ⟨#[x]⟩ (some ⟨g, 0, none⟩) 1 cap)).alloc (tmO y0 y1 y2 y3 y4 y5)) (tmO 0 0 ⟨#[]⟩ none 0 0)
      rwa [World.size_alloc, World.size_alloc] at h
    have p3 : W0.heap[w.heap.size + 1 + 1 + 1]? = some (tmO a0 a1 a2 a3 a4 a5) := by
      rw [← hW0]
      have h := alloc_here (((w.alloc (tmO 92 0 ⟨#[x]⟩ (some ⟨g, 0, none⟩) 1 cap)).alloc (tmO y0 y1 y2 y3 y4 y5)).alloc (tmO 0 0 ⟨#[]⟩ none 0 0)) (tmO a0 a1 a2 a3 a4 a5)
      rwa [World.size_alloc, World.size_alloc, World.size_alloc] at h
    clear hW0 M0 M1 M2 M3 m0 m1 m2 m3
    obtain ⟨_, _, q02, q03, _⟩ := cells4 p0
    obtain ⟨q10, q11, q12, q13, _⟩ := cells4 p1
    obtain ⟨q30, q31, q32, q33, _⟩ := cells4 p3
    have LB : ∀ W, Below W0.heap.size W0 W → Below W0.heap.size W0 W ∧ W.cell? ⟨w.heap.size, 2, none⟩ = some (.string ⟨#[x]⟩) ∧ W.cell? ⟨w.heap.size + 1, 0, none⟩ = some (.int .u8 y0) ∧ W.cell? ⟨w.heap.size + 1, 1, none⟩ = some (.int .i64 y1) ∧ W.cell? ⟨w.heap.size + 1, 2, none⟩ = some (.string y2) ∧ W.cell? ⟨w.heap.size + 1, 3, none⟩ = some (.slice y3 y4 y5) ∧ W.cell? ⟨w.heap.size + 1 + 1 + 1, 0, none⟩ = some (.int .u8 a0) ∧ W.cell? ⟨w.heap.size + 1 + 1 + 1, 1, none⟩ = some (.int .i64 a1) ∧ W.cell? ⟨w.heap.size + 1 + 1 + 1, 2, none⟩ = some (.string a2) ∧ W.cell? ⟨w.heap.size + 1 + 1 + 1, 3, none⟩ = some (.slice a3 a4 a5) := fun W hW => ⟨hW, (hW.cell (p := ⟨w.heap.size, 2, none⟩) (by show w.heap.size < _; omega)).trans q02, (hW.cell (p := ⟨w.heap.size + 1, 0, none⟩) (by show w.heap.size + 1 < _; omega)).trans q10, (hW.cell (p := ⟨w.heap.size + 1, 1, none⟩) (by show w.heap.size + 1 < _; omega)).trans q11, (hW.cell (p := ⟨w.heap.size + 1, 2, none⟩) (by show w.heap.size + 1 < _; omega)).trans q12, (hW.cell (p := ⟨w.heap.size + 1, 3, none⟩) (by show w.heap.size + 1 < _; omega)).trans q13, (hW.cell (p := ⟨w.heap.size + 1 + 1 + 1, 0, none⟩) (by show w.heap.size + 1 + 1 + 1 < _; omega)).trans q30, (hW.cell (p := ⟨w.heap.size + 1 + 1 + 1, 1, none⟩) (by show w.heap.size + 1 + 1 + 1 < _; omega)).trans q31, (hW.cell (p := ⟨w.heap.size + 1 + 1 + 1, 2, none⟩) (by show w.heap.size + 1 + 1 + 1 < _; omega)).trans q32, (hW.cell (p := ⟨w.heap.size + 1 + 1 + 1, 3, none⟩) (by show w.heap.size + 1 + 1 + 1 < _; omega)).trans q33⟩
    have KS2 : ∀ W, Below W0.heap.size W0 W → Calls Tryz.prog 86 #[.agg #[.int .u8 a0, .int .i64 a1, .string a2, .slice a3 a4 a5], .string ⟨#[x]⟩, .agg #[.int .u8 y0, .int .i64 y1, .string y2, .slice y3 y4 y5]] W fun e W' =>
        ∃ (z0 z1 : Int) (z2 : ByteArray) (z3 : Option Addr) (z4 z5 : Nat), e = .returned (.tuple #[.agg #[.int .u8 z0, .int .i64 z1, .string z2, .slice z3 z4 z5], .bool true]) ∧ Below W.heap.size W W' ∧ Below W0.heap.size W0 W' ∧ Rep (fun g => S g ∨ New W W' g) W' R (.agg #[.int .u8 z0, .int .i64 z1, .string z2, .slice z3 z4 z5]) := fun W hW =>
      (KS W (B0.trans (hW.mono B0.size))).mono fun e W' ⟨z0, z1, z2, z3, z4, z5, h1, h2, h3⟩ => ⟨z0, z1, z2, z3, z4, z5, h1, h2, hW.trans (h2.mono hW.size), h3⟩
    have HP0 := Lib.hid p0
    have HP2 := Lib.hid p2
    have HZ0 := Lib.hid hz0
    clear hz0
    clear q02 q03 q10 q11 q12 q13 q30 q31 q32 q33 p0 p1 p2 p3 KS
    go_region_held3 (fun W => Below W0.heap.size W0 W ∧ W.cell? ⟨w.heap.size, 2, none⟩ = some (.string ⟨#[x]⟩) ∧ W.cell? ⟨w.heap.size + 1, 0, none⟩ = some (.int .u8 y0) ∧ W.cell? ⟨w.heap.size + 1, 1, none⟩ = some (.int .i64 y1) ∧ W.cell? ⟨w.heap.size + 1, 2, none⟩ = some (.string y2) ∧ W.cell? ⟨w.heap.size + 1, 3, none⟩ = some (.slice y3 y4 y5) ∧ W.cell? ⟨w.heap.size + 1 + 1 + 1, 0, none⟩ = some (.int .u8 a0) ∧ W.cell? ⟨w.heap.size + 1 + 1 + 1, 1, none⟩ = some (.int .i64 a1) ∧ W.cell? ⟨w.heap.size + 1 + 1 + 1, 2, none⟩ = some (.string a2) ∧ W.cell? ⟨w.heap.size + 1 + 1 + 1, 3, none⟩ = some (.slice a3 a4 a5)) (first | (refine LB _ ?_; solve | (repeat' (first | assumption | exact Below.refl _ _ | refine Below.drew ?_ | (refine Below.alloc ?_ ?_ _) | (refine Below.setCell (p := ⟨_, _, none⟩) ?_ ?_ _) | exact hB5.size | exact Nat.le_refl _ | (show _ ≤ _; omega) | omega)))) (first | (go_at_call 86; refine (KS2 _ ?_).mono ?_; (solve | (repeat' (first | assumption | exact Below.refl _ _ | refine Below.drew ?_ | (refine Below.alloc ?_ ?_ _) | exact Nat.le_refl _ | omega))); rintro e w5 ⟨z0, z1, z2, z3, z4, z5, rfl, hb5, hB5, hr5⟩; have hbx := box_here hb5; obtain ⟨t0, t1, t2, t3, t4, t5, t6, t7⟩ := cells4 hbx; clear hbx) | (go_at_call 86; refine (KS2 _ ?_).mono ?_; (solve | (repeat' (first | assumption | exact Below.refl _ _ | refine Below.drew ?_ | (refine Below.alloc ?_ ?_ _) | exact Nat.le_refl _ | omega))); rintro e w5 ⟨z0, z1, z2, z3, z4, z5, rfl, hb5, hB5, hr5⟩; have hb6 := hb5))
    all_goals
      have P6 := by first | exact put_late hS B0.size hB5 hr5 | exact put_early hS B0.size hB5 hr5 t0 t1 t2 t3
      have HS := Lib.hid hS
      have BW := B0.size
      first
        | (have hh : PutW S w W0 (w5.alloc (tmO z0 z1 z2 z3 z4 z5)) R w5.heap.size z0 z1 z2 z3 z4 z5 := P6; clear hh; generalize (w5.alloc (.cells #[.int .u8 z0, .int .i64 z1, .string z2, .slice z3 z4 z5] 54)) = W6 at *)
        | (dsimp only [set4] at P6; generalize ((((w5.setCell ⟨W0.heap.size, 0, none⟩ (.int .u8 z0)).setCell ⟨W0.heap.size, 1, none⟩ (.int .i64 z1)).setCell ⟨W0.heap.size, 2, none⟩ (.string z2)).setCell ⟨W0.heap.size, 3, none⟩ (.slice z3 z4 z5)) = W6 at *)
      obtain ⟨B6, ⟨c0, c1, c2, c3⟩, r6⟩ := P6
      have z6 := B6.size
      have X1 := (B6.block (w.heap.size + 1 + 1) (by have := HZ0.out; omega)).trans HP2.out
      obtain ⟨k0, _⟩ := cells4 ((B6.block w.heap.size (by have := HZ0.out; omega)).trans HP0.out)
      have hlt : w.heap.size + 1 + 1 < W6.heap.size := by have := HZ0.out; omega
      have R6 := Lib.hid r6
      have KN := fun W => named_c z0 z1 z2 z3 z4 z5 true ⟨#[99, 97, 108, 108]⟩ W
      simp only [if_true] at KN
      have B06 := B0.trans (B6.mono B0.size)
      clear r6 hr5 hb5 hB5 KS2 LB hS B0 B6
      go_wp2_with (go_at_call 87; refine (KN _).mono ?_; clear KN; rintro e w7 ⟨rfl, hb7⟩; (obtain ⟨d0, d1, d2, d3, f0, f1, f2, f3⟩ := cells4 ((hb7.block (w.heap.size + 1 + 1) hlt).trans X1)))
      refine bodyPost_ret (v := .tuple #[.agg #[.int .u8 z0, .int .i64 z1, .string z2, .slice z3 z4 z5], .string ⟨#[99, 97, 108, 108]⟩]) (by simp [results, Tryz.results88, go_sem, d0, d1, d2, d3]) rfl ?_
      have z7 : W6.heap.size ≤ w7.heap.size := hb7.size
      refine ⟨_, _, _, _, _, _, [99, 97, 108, 108], rfl, set4_below (B06.trans (hb7.mono (by show _ ≤ W6.heap.size; omega))) (by omega) _ _ _ _, rfl, ?_⟩
      exact R6.out.keep (fun g hg => (set4_far _ _ _ _ _ _ g (by rcases hg with h | h; have := HS.out g h; omega; have := HZ0.out; omega)).trans (hb7.block g (by show g < W6.heap.size; rcases hg with h | h; have := HS.out g h; omega; exact h.2))) (fun g hg => hg.imp id (fun h => ⟨by omega, by rw [set4_size]; omega⟩))
end Go.Proofs.YtefmmgccdpfnaaaGreatDoor
