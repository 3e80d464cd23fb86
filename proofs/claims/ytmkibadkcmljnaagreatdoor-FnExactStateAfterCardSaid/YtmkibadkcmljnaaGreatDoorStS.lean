import Derived.Test.YtmkibadkcmljnaaGreatDoorStQ
/- Which rule fits a part, and the program's reduced. Written by genStS.py. -/
namespace Go.Proofs.YtmkibadkcmljnaaGreatDoor
open Go.RowKit
open Ff
set_option linter.unusedVariables false
attribute [local go_sem] Oper.semAt_some

/-- What a part becomes by the rule that fits it, and the rule's name. -/
def ruleT : Tm → Option (Tm × Text)
  | .bind c v b => some ((subS b.depth c v b).1, [108, 101, 116])
  | .app (.fn c b) a => some ((subS b.depth c a b).1, [99, 97, 108, 108])
  | .app (.fix f c b) a => some ((subS (subS b.depth f (.fix f c b) b).1.depth c a (subS b.depth f (.fix f c b) b).1).1, [115, 101, 108, 102])
  | .sel (.num k) y z => if k = 0 then some (y, [122, 101, 114, 111]) else some (z, [111, 116, 104, 101, 114])
  | .op o (.num a) (.num b) => some (.num (calN o a b), [110, 117, 109, 98, 101, 114])
  | _ => none
/-- The rules as the program has them. -/
def rulesV : Value := .agg #[.string ⟨#[108, 101, 116]⟩, .func (.func 87) #[] #[], .string ⟨#[99, 97, 108, 108]⟩, .func (.func 88) #[] #[], .string ⟨#[115, 101, 108, 102]⟩, .func (.func 89) #[] #[], .string ⟨#[122, 101, 114, 111]⟩, .func (.func 90) #[] #[], .string ⟨#[111, 116, 104, 101, 114]⟩, .func (.func 91) #[] #[], .string ⟨#[110, 117, 109, 98, 101, 114]⟩, .func (.func 92) #[] #[]]
set_option maxRecDepth 100000 in
set_option maxHeartbeats 1000000 in
theorem rules_c (w : World) : Calls Tryz.prog 66 #[] w fun e w' => e = .returned rulesV ∧ Below w.heap.size w w' := by
  go_enter Tryz.func66, Tryz.ntmps66
  go_wp2_with fail
  refine bodyPost_ret (v := rulesV) (by simp [results, Tryz.results66, go_sem, rulesV]) rfl ?_
  exact ⟨rfl, by first | exact (Below.refl _ w).alloc (Nat.le_refl _) _⟩
/-- What reducing comes to. -/
def RedP (o : Option (Tm × Text)) (w : World) (e : Ending) (w' : World) : Prop := (match o with
  | some r => e = .returned (.tuple #[enc r.1, .string ⟨r.2.toArray⟩, .bool true])
  | none => e = .returned (.tuple #[.nilIface, .string ⟨#[]⟩, .bool false])) ∧ Below w.heap.size w w'

theorem rule_ix0 (w : World) : (Instr.index 115 (.agg #[.string ⟨#[108, 101, 116]⟩, .func (.func 87) #[] #[], .string ⟨#[99, 97, 108, 108]⟩, .func (.func 88) #[] #[], .string ⟨#[115, 101, 108, 102]⟩, .func (.func 89) #[] #[], .string ⟨#[122, 101, 114, 111]⟩, .func (.func 90) #[] #[], .string ⟨#[111, 116, 104, 101, 114]⟩, .func (.func 91) #[] #[], .string ⟨#[110, 117, 109, 98, 101, 114]⟩, .func (.func 92) #[] #[]]) (.int .i64 0)).run Tryz.prog w = .ok (.agg #[.string ⟨#[108, 101, 116]⟩, .func (.func 87) #[] #[]]) w := by kernel_rfl
theorem rule_ix1 (w : World) : (Instr.index 115 (.agg #[.string ⟨#[108, 101, 116]⟩, .func (.func 87) #[] #[], .string ⟨#[99, 97, 108, 108]⟩, .func (.func 88) #[] #[], .string ⟨#[115, 101, 108, 102]⟩, .func (.func 89) #[] #[], .string ⟨#[122, 101, 114, 111]⟩, .func (.func 90) #[] #[], .string ⟨#[111, 116, 104, 101, 114]⟩, .func (.func 91) #[] #[], .string ⟨#[110, 117, 109, 98, 101, 114]⟩, .func (.func 92) #[] #[]]) (.int .i64 1)).run Tryz.prog w = .ok (.agg #[.string ⟨#[99, 97, 108, 108]⟩, .func (.func 88) #[] #[]]) w := by kernel_rfl
theorem rule_ix2 (w : World) : (Instr.index 115 (.agg #[.string ⟨#[108, 101, 116]⟩, .func (.func 87) #[] #[], .string ⟨#[99, 97, 108, 108]⟩, .func (.func 88) #[] #[], .string ⟨#[115, 101, 108, 102]⟩, .func (.func 89) #[] #[], .string ⟨#[122, 101, 114, 111]⟩, .func (.func 90) #[] #[], .string ⟨#[111, 116, 104, 101, 114]⟩, .func (.func 91) #[] #[], .string ⟨#[110, 117, 109, 98, 101, 114]⟩, .func (.func 92) #[] #[]]) (.int .i64 2)).run Tryz.prog w = .ok (.agg #[.string ⟨#[115, 101, 108, 102]⟩, .func (.func 89) #[] #[]]) w := by kernel_rfl
theorem rule_ix3 (w : World) : (Instr.index 115 (.agg #[.string ⟨#[108, 101, 116]⟩, .func (.func 87) #[] #[], .string ⟨#[99, 97, 108, 108]⟩, .func (.func 88) #[] #[], .string ⟨#[115, 101, 108, 102]⟩, .func (.func 89) #[] #[], .string ⟨#[122, 101, 114, 111]⟩, .func (.func 90) #[] #[], .string ⟨#[111, 116, 104, 101, 114]⟩, .func (.func 91) #[] #[], .string ⟨#[110, 117, 109, 98, 101, 114]⟩, .func (.func 92) #[] #[]]) (.int .i64 3)).run Tryz.prog w = .ok (.agg #[.string ⟨#[122, 101, 114, 111]⟩, .func (.func 90) #[] #[]]) w := by kernel_rfl
theorem rule_ix4 (w : World) : (Instr.index 115 (.agg #[.string ⟨#[108, 101, 116]⟩, .func (.func 87) #[] #[], .string ⟨#[99, 97, 108, 108]⟩, .func (.func 88) #[] #[], .string ⟨#[115, 101, 108, 102]⟩, .func (.func 89) #[] #[], .string ⟨#[122, 101, 114, 111]⟩, .func (.func 90) #[] #[], .string ⟨#[111, 116, 104, 101, 114]⟩, .func (.func 91) #[] #[], .string ⟨#[110, 117, 109, 98, 101, 114]⟩, .func (.func 92) #[] #[]]) (.int .i64 4)).run Tryz.prog w = .ok (.agg #[.string ⟨#[111, 116, 104, 101, 114]⟩, .func (.func 91) #[] #[]]) w := by kernel_rfl
theorem rule_ix5 (w : World) : (Instr.index 115 (.agg #[.string ⟨#[108, 101, 116]⟩, .func (.func 87) #[] #[], .string ⟨#[99, 97, 108, 108]⟩, .func (.func 88) #[] #[], .string ⟨#[115, 101, 108, 102]⟩, .func (.func 89) #[] #[], .string ⟨#[122, 101, 114, 111]⟩, .func (.func 90) #[] #[], .string ⟨#[111, 116, 104, 101, 114]⟩, .func (.func 91) #[] #[], .string ⟨#[110, 117, 109, 98, 101, 114]⟩, .func (.func 92) #[] #[]]) (.int .i64 5)).run Tryz.prog w = .ok (.agg #[.string ⟨#[110, 117, 109, 98, 101, 114]⟩, .func (.func 92) #[] #[]]) w := by kernel_rfl

/-- The box of a rule, behind the rule's call. -/
theorem rule_box {wp wn : World} {s : ByteArray} {f : Value} {t : TypeId} (h : Below (wp.alloc (.cells #[.string s, f] t)).heap.size (wp.alloc (.cells #[.string s, f] t)) wn) : wn.cell? ⟨wp.heap.size, 0, none⟩ = some (.string s) ∧ wn.cell? ⟨wp.heap.size, 1, none⟩ = some f := by
  have k := (h.block wp.heap.size (by simp)).trans (World.alloc_heap_new wp (.cells #[.string s, f] t))
  constructor <;> simp [World.cell?, k]

set_option maxRecDepth 100000 in
set_option maxHeartbeats 4000000 in
theorem reduced_bind (c : UInt8) (v b : Tm) (w : World) (hb : b.depth ≤ 4000) (gb : b.good) (gv : v.good) (pv : (parts v).length ≤ 4000) (dv : v.depth ≤ 4000) (cv : Closed v) :
    Calls Tryz.prog 44 #[enc (.bind c v b)] w (RedP (some ((subS b.depth c v b).1, [108, 101, 116])) w) := by
  have KR := fun W => rules_c W
  have K0 := fun W => putLet_yes c v b W hb gb gv pv dv cv
  unfold RedP
  simp only
  unfold RuleYes at K0
  obtain ⟨rn, rv, hr⟩ := enc_gen ((subS b.depth c v b).1)
  rw [hr]
  simp only [hr] at K0
  clear hr
  generalize hq : enc (.bind c v b) = Q at *
  obtain ⟨qn, qv, rfl⟩ : ∃ n v, Q = .iface n v := by rw [← hq]; exact enc_gen _
  clear hq
  have x0 := fun W => rule_ix0 W
  go_enter Tryz.func44, Tryz.ntmps44
  go_wp2_with (go_at_call 66; refine (KR _).mono ?_; clear KR; rintro e w1 ⟨rfl, HB⟩; unfold rulesV)
  refine wp_loop_rounds 1 ?_
  rw [rounds_succ]
  go_wp2_with (go_at_call 87; refine (K0 _).mono ?_; clear K0; rintro e wn ⟨rfl, hb⟩; (obtain ⟨k0, k1⟩ := rule_box hb); replace HB := (HB.alloc HB.size _).trans (hb.mono (HB.alloc HB.size _).size); clear hb)
  go_region
  all_goals go_wp2_with fail
  all_goals refine bodyPost_ret (v := .tuple #[.iface rn rv, .string ⟨#[108, 101, 116]⟩, .bool true]) (by simp [results, Tryz.results44, go_sem]) rfl ?_
  all_goals exact ⟨rfl, by first | exact HB | exact HB.drew⟩

set_option maxRecDepth 100000 in
set_option maxHeartbeats 4000000 in
theorem reduced_fn (c : UInt8) (b a : Tm) (w : World) (hb : b.depth ≤ 4000) (gb : b.good) (ga : a.good) (pa : (parts a).length ≤ 4000) (da : a.depth ≤ 4000) (ca : Closed a) :
    Calls Tryz.prog 44 #[enc (.app (.fn c b) a)] w (RedP (some ((subS b.depth c a b).1, [99, 97, 108, 108])) w) := by
  have KR := fun W => rules_c W
  have K0 := fun W => putLet_no (.app (.fn c b) a) W rfl
  have K1 := fun W => putArg_yes c b a W hb gb ga pa da ca
  unfold RedP
  simp only
  unfold RuleYes at K1
  obtain ⟨rn, rv, hr⟩ := enc_gen ((subS b.depth c a b).1)
  rw [hr]
  simp only [hr] at K1
  clear hr
  generalize hq : enc (.app (.fn c b) a) = Q at *
  obtain ⟨qn, qv, rfl⟩ : ∃ n v, Q = .iface n v := by rw [← hq]; exact enc_gen _
  clear hq
  have x0 := fun W => rule_ix0 W
  have x1 := fun W => rule_ix1 W
  go_enter Tryz.func44, Tryz.ntmps44
  go_wp2_with (go_at_call 66; refine (KR _).mono ?_; clear KR; rintro e w1 ⟨rfl, HB⟩; unfold rulesV)
  refine wp_loop_rounds 2 ?_
  rw [rounds_succ]
  go_wp2_with (go_at_call 87; refine (K0 _).mono ?_; clear K0; rintro e wn ⟨X, _, rfl, hb⟩; replace HB := (HB.alloc HB.size _).trans (hb.mono (HB.alloc HB.size _).size); clear hb)
  rw [rounds_succ]
  go_wp2_with (go_at_call 88; refine (K1 _).mono ?_; clear K1; rintro e wn ⟨rfl, hb⟩; (obtain ⟨k0, k1⟩ := rule_box hb); replace HB := (HB.alloc HB.size _).trans (hb.mono (HB.alloc HB.size _).size); clear hb)
  go_region
  all_goals go_wp2_with fail
  all_goals refine bodyPost_ret (v := .tuple #[.iface rn rv, .string ⟨#[99, 97, 108, 108]⟩, .bool true]) (by simp [results, Tryz.results44, go_sem]) rfl ?_
  all_goals exact ⟨rfl, by first | exact HB | exact HB.drew⟩

set_option maxRecDepth 100000 in
set_option maxHeartbeats 4000000 in
theorem reduced_fix (f c : UInt8) (b a r1 r : Tm) (w : World) (hf : isNam f = true) (hr1 : r1 = (subS b.depth f (.fix f c b) b).1) (hr : r = (subS r1.depth c a r1).1) (gt : (Tm.fix f c b).good) (hb : b.depth ≤ 1500) (pb : (parts b).length ≤ 1500) (ga : a.good) (pa : (parts a).length ≤ 4000) (da : a.depth ≤ 4000) (ca : Closed a) (cb : Closed (.fix f c b)) :
    Calls Tryz.prog 44 #[enc (.app (.fix f c b) a)] w (RedP (some (r, [115, 101, 108, 102])) w) := by
  have KR := fun W => rules_c W
  have K0 := fun W => putLet_no (.app (.fix f c b) a) W rfl
  have K1 := fun W => putArg_no3 f c b a W hf
  have K2 := fun W => putSelf_yes f c b a r1 r W hf hr1 hr gt hb pb ga pa da ca cb
  unfold RedP
  simp only
  unfold RuleYes at K2
  obtain ⟨rn, rv, hr⟩ := enc_gen (r)
  rw [hr]
  simp only [hr] at K2
  clear hr
  generalize hq : enc (.app (.fix f c b) a) = Q at *
  obtain ⟨qn, qv, rfl⟩ : ∃ n v, Q = .iface n v := by rw [← hq]; exact enc_gen _
  clear hq
  have x0 := fun W => rule_ix0 W
  have x1 := fun W => rule_ix1 W
  have x2 := fun W => rule_ix2 W
  go_enter Tryz.func44, Tryz.ntmps44
  go_wp2_with (go_at_call 66; refine (KR _).mono ?_; clear KR; rintro e w1 ⟨rfl, HB⟩; unfold rulesV)
  refine wp_loop_rounds 3 ?_
  rw [rounds_succ]
  go_wp2_with (go_at_call 87; refine (K0 _).mono ?_; clear K0; rintro e wn ⟨X, _, rfl, hb⟩; replace HB := (HB.alloc HB.size _).trans (hb.mono (HB.alloc HB.size _).size); clear hb)
  rw [rounds_succ]
  go_wp2_with (go_at_call 88; refine (K1 _).mono ?_; clear K1; rintro e wn ⟨X, _, rfl, hb⟩; replace HB := (HB.alloc HB.size _).trans (hb.mono (HB.alloc HB.size _).size); clear hb)
  rw [rounds_succ]
  go_wp2_with (go_at_call 89; refine (K2 _).mono ?_; clear K2; rintro e wn ⟨rfl, hb⟩; (obtain ⟨k0, k1⟩ := rule_box hb); replace HB := (HB.alloc HB.size _).trans (hb.mono (HB.alloc HB.size _).size); clear hb)
  go_region
  all_goals go_wp2_with fail
  all_goals refine bodyPost_ret (v := .tuple #[.iface rn rv, .string ⟨#[115, 101, 108, 102]⟩, .bool true]) (by simp [results, Tryz.results44, go_sem]) rfl ?_
  all_goals exact ⟨rfl, by first | exact HB | exact HB.drew⟩

set_option maxRecDepth 100000 in
set_option maxHeartbeats 4000000 in
theorem reduced_stuckApp (f a : Tm) (w : World) (h : isFun f = false) :
    Calls Tryz.prog 44 #[enc (.app f a)] w (RedP (none) w) := by
  have KR := fun W => rules_c W
  have K0 := fun W => putLet_no (.app f a) W rfl
  have K1 := fun W => putArg_no2 f a W h
  have K2 := fun W => putSelf_no2 f a W h
  have K3 := fun W => ifZero_no1 (.app f a) W rfl
  have K4 := fun W => ifOther_no1 (.app f a) W rfl
  have K5 := fun W => calc_no1 (.app f a) W rfl
  unfold RedP
  simp only
  generalize hq : enc (.app f a) = Q at *
  obtain ⟨qn, qv, rfl⟩ : ∃ n v, Q = .iface n v := by rw [← hq]; exact enc_gen _
  clear hq
  have x0 := fun W => rule_ix0 W
  have x1 := fun W => rule_ix1 W
  have x2 := fun W => rule_ix2 W
  have x3 := fun W => rule_ix3 W
  have x4 := fun W => rule_ix4 W
  have x5 := fun W => rule_ix5 W
  go_enter Tryz.func44, Tryz.ntmps44
  go_wp2_with (go_at_call 66; refine (KR _).mono ?_; clear KR; rintro e w1 ⟨rfl, HB⟩; unfold rulesV)
  refine wp_loop_rounds 7 ?_
  rw [rounds_succ]
  go_wp2_with (go_at_call 87; refine (K0 _).mono ?_; clear K0; rintro e wn ⟨X, _, rfl, hb⟩; replace HB := (HB.alloc HB.size _).trans (hb.mono (HB.alloc HB.size _).size); clear hb)
  rw [rounds_succ]
  go_wp2_with (go_at_call 88; refine (K1 _).mono ?_; clear K1; rintro e wn ⟨X, _, rfl, hb⟩; replace HB := (HB.alloc HB.size _).trans (hb.mono (HB.alloc HB.size _).size); clear hb)
  rw [rounds_succ]
  go_wp2_with (go_at_call 89; refine (K2 _).mono ?_; clear K2; rintro e wn ⟨X, _, rfl, hb⟩; replace HB := (HB.alloc HB.size _).trans (hb.mono (HB.alloc HB.size _).size); clear hb)
  rw [rounds_succ]
  go_wp2_with (go_at_call 90; refine (K3 _).mono ?_; clear K3; rintro e wn ⟨X, _, rfl, hb⟩; replace HB := (HB.alloc HB.size _).trans (hb.mono (HB.alloc HB.size _).size); clear hb)
  rw [rounds_succ]
  go_wp2_with (go_at_call 91; refine (K4 _).mono ?_; clear K4; rintro e wn ⟨X, _, rfl, hb⟩; replace HB := (HB.alloc HB.size _).trans (hb.mono (HB.alloc HB.size _).size); clear hb)
  rw [rounds_succ]
  go_wp2_with (go_at_call 92; refine (K5 _).mono ?_; clear K5; rintro e wn ⟨X, _, rfl, hb⟩; replace HB := (HB.alloc HB.size _).trans (hb.mono (HB.alloc HB.size _).size); clear hb)
  rw [rounds_succ]
  go_wp2_with fail
  refine bodyPost_ret (v := .tuple #[.nilIface, .string ⟨#[]⟩, .bool false]) (by simp [results, Tryz.results44, go_sem]) rfl ?_
  exact ⟨rfl, HB⟩

set_option maxRecDepth 100000 in
set_option maxHeartbeats 4000000 in
theorem reduced_zero (k : Nat) (y z : Tm) (w : World) (hk : k = 0) :
    Calls Tryz.prog 44 #[enc (.sel (.num k) y z)] w (RedP (some (y, [122, 101, 114, 111])) w) := by
  have KR := fun W => rules_c W
  have K0 := fun W => putLet_no (.sel (.num k) y z) W rfl
  have K1 := fun W => putArg_no1 (.sel (.num k) y z) W rfl
  have K2 := fun W => putSelf_no1 (.sel (.num k) y z) W rfl
  have K3 := fun W => ifZero_yes k y z W hk
  unfold RedP
  simp only
  unfold RuleYes at K3
  obtain ⟨rn, rv, hr⟩ := enc_gen (y)
  rw [hr]
  simp only [hr] at K3
  clear hr
  generalize hq : enc (.sel (.num k) y z) = Q at *
  obtain ⟨qn, qv, rfl⟩ : ∃ n v, Q = .iface n v := by rw [← hq]; exact enc_gen _
  clear hq
  have x0 := fun W => rule_ix0 W
  have x1 := fun W => rule_ix1 W
  have x2 := fun W => rule_ix2 W
  have x3 := fun W => rule_ix3 W
  go_enter Tryz.func44, Tryz.ntmps44
  go_wp2_with (go_at_call 66; refine (KR _).mono ?_; clear KR; rintro e w1 ⟨rfl, HB⟩; unfold rulesV)
  refine wp_loop_rounds 4 ?_
  rw [rounds_succ]
  go_wp2_with (go_at_call 87; refine (K0 _).mono ?_; clear K0; rintro e wn ⟨X, _, rfl, hb⟩; replace HB := (HB.alloc HB.size _).trans (hb.mono (HB.alloc HB.size _).size); clear hb)
  rw [rounds_succ]
  go_wp2_with (go_at_call 88; refine (K1 _).mono ?_; clear K1; rintro e wn ⟨X, _, rfl, hb⟩; replace HB := (HB.alloc HB.size _).trans (hb.mono (HB.alloc HB.size _).size); clear hb)
  rw [rounds_succ]
  go_wp2_with (go_at_call 89; refine (K2 _).mono ?_; clear K2; rintro e wn ⟨X, _, rfl, hb⟩; replace HB := (HB.alloc HB.size _).trans (hb.mono (HB.alloc HB.size _).size); clear hb)
  rw [rounds_succ]
  go_wp2_with (go_at_call 90; refine (K3 _).mono ?_; clear K3; rintro e wn ⟨rfl, hb⟩; (obtain ⟨k0, k1⟩ := rule_box hb); replace HB := (HB.alloc HB.size _).trans (hb.mono (HB.alloc HB.size _).size); clear hb)
  go_region
  all_goals go_wp2_with fail
  all_goals refine bodyPost_ret (v := .tuple #[.iface rn rv, .string ⟨#[122, 101, 114, 111]⟩, .bool true]) (by simp [results, Tryz.results44, go_sem]) rfl ?_
  all_goals exact ⟨rfl, by first | exact HB | exact HB.drew⟩

set_option maxRecDepth 100000 in
set_option maxHeartbeats 4000000 in
theorem reduced_other (k : Nat) (y z : Tm) (w : World) (hk : k ≠ 0) :
    Calls Tryz.prog 44 #[enc (.sel (.num k) y z)] w (RedP (some (z, [111, 116, 104, 101, 114])) w) := by
  have KR := fun W => rules_c W
  have K0 := fun W => putLet_no (.sel (.num k) y z) W rfl
  have K1 := fun W => putArg_no1 (.sel (.num k) y z) W rfl
  have K2 := fun W => putSelf_no1 (.sel (.num k) y z) W rfl
  have K3 := fun W => ifZero_no3 k y z W hk
  have K4 := fun W => ifOther_yes k y z W hk
  unfold RedP
  simp only
  unfold RuleYes at K4
  obtain ⟨rn, rv, hr⟩ := enc_gen (z)
  rw [hr]
  simp only [hr] at K4
  clear hr
  generalize hq : enc (.sel (.num k) y z) = Q at *
  obtain ⟨qn, qv, rfl⟩ : ∃ n v, Q = .iface n v := by rw [← hq]; exact enc_gen _
  clear hq
  have x0 := fun W => rule_ix0 W
  have x1 := fun W => rule_ix1 W
  have x2 := fun W => rule_ix2 W
  have x3 := fun W => rule_ix3 W
  have x4 := fun W => rule_ix4 W
  go_enter Tryz.func44, Tryz.ntmps44
  go_wp2_with (go_at_call 66; refine (KR _).mono ?_; clear KR; rintro e w1 ⟨rfl, HB⟩; unfold rulesV)
  refine wp_loop_rounds 5 ?_
  rw [rounds_succ]
  go_wp2_with (go_at_call 87; refine (K0 _).mono ?_; clear K0; rintro e wn ⟨X, _, rfl, hb⟩; replace HB := (HB.alloc HB.size _).trans (hb.mono (HB.alloc HB.size _).size); clear hb)
  rw [rounds_succ]
  go_wp2_with (go_at_call 88; refine (K1 _).mono ?_; clear K1; rintro e wn ⟨X, _, rfl, hb⟩; replace HB := (HB.alloc HB.size _).trans (hb.mono (HB.alloc HB.size _).size); clear hb)
  rw [rounds_succ]
  go_wp2_with (go_at_call 89; refine (K2 _).mono ?_; clear K2; rintro e wn ⟨X, _, rfl, hb⟩; replace HB := (HB.alloc HB.size _).trans (hb.mono (HB.alloc HB.size _).size); clear hb)
  rw [rounds_succ]
  go_wp2_with (go_at_call 90; refine (K3 _).mono ?_; clear K3; rintro e wn ⟨X, _, rfl, hb⟩; replace HB := (HB.alloc HB.size _).trans (hb.mono (HB.alloc HB.size _).size); clear hb)
  rw [rounds_succ]
  go_wp2_with (go_at_call 91; refine (K4 _).mono ?_; clear K4; rintro e wn ⟨rfl, hb⟩; (obtain ⟨k0, k1⟩ := rule_box hb); replace HB := (HB.alloc HB.size _).trans (hb.mono (HB.alloc HB.size _).size); clear hb)
  go_region
  all_goals go_wp2_with fail
  all_goals refine bodyPost_ret (v := .tuple #[.iface rn rv, .string ⟨#[111, 116, 104, 101, 114]⟩, .bool true]) (by simp [results, Tryz.results44, go_sem]) rfl ?_
  all_goals exact ⟨rfl, by first | exact HB | exact HB.drew⟩

set_option maxRecDepth 100000 in
set_option maxHeartbeats 4000000 in
theorem reduced_stuckSel (x y z : Tm) (w : World) (h : isNum x = false) :
    Calls Tryz.prog 44 #[enc (.sel x y z)] w (RedP (none) w) := by
  have KR := fun W => rules_c W
  have K0 := fun W => putLet_no (.sel x y z) W rfl
  have K1 := fun W => putArg_no1 (.sel x y z) W rfl
  have K2 := fun W => putSelf_no1 (.sel x y z) W rfl
  have K3 := fun W => ifZero_no2 x y z W h
  have K4 := fun W => ifOther_no2 x y z W h
  have K5 := fun W => calc_no1 (.sel x y z) W rfl
  unfold RedP
  simp only
  generalize hq : enc (.sel x y z) = Q at *
  obtain ⟨qn, qv, rfl⟩ : ∃ n v, Q = .iface n v := by rw [← hq]; exact enc_gen _
  clear hq
  have x0 := fun W => rule_ix0 W
  have x1 := fun W => rule_ix1 W
  have x2 := fun W => rule_ix2 W
  have x3 := fun W => rule_ix3 W
  have x4 := fun W => rule_ix4 W
  have x5 := fun W => rule_ix5 W
  go_enter Tryz.func44, Tryz.ntmps44
  go_wp2_with (go_at_call 66; refine (KR _).mono ?_; clear KR; rintro e w1 ⟨rfl, HB⟩; unfold rulesV)
  refine wp_loop_rounds 7 ?_
  rw [rounds_succ]
  go_wp2_with (go_at_call 87; refine (K0 _).mono ?_; clear K0; rintro e wn ⟨X, _, rfl, hb⟩; replace HB := (HB.alloc HB.size _).trans (hb.mono (HB.alloc HB.size _).size); clear hb)
  rw [rounds_succ]
  go_wp2_with (go_at_call 88; refine (K1 _).mono ?_; clear K1; rintro e wn ⟨X, _, rfl, hb⟩; replace HB := (HB.alloc HB.size _).trans (hb.mono (HB.alloc HB.size _).size); clear hb)
  rw [rounds_succ]
  go_wp2_with (go_at_call 89; refine (K2 _).mono ?_; clear K2; rintro e wn ⟨X, _, rfl, hb⟩; replace HB := (HB.alloc HB.size _).trans (hb.mono (HB.alloc HB.size _).size); clear hb)
  rw [rounds_succ]
  go_wp2_with (go_at_call 90; refine (K3 _).mono ?_; clear K3; rintro e wn ⟨X, _, rfl, hb⟩; replace HB := (HB.alloc HB.size _).trans (hb.mono (HB.alloc HB.size _).size); clear hb)
  rw [rounds_succ]
  go_wp2_with (go_at_call 91; refine (K4 _).mono ?_; clear K4; rintro e wn ⟨X, _, rfl, hb⟩; replace HB := (HB.alloc HB.size _).trans (hb.mono (HB.alloc HB.size _).size); clear hb)
  rw [rounds_succ]
  go_wp2_with (go_at_call 92; refine (K5 _).mono ?_; clear K5; rintro e wn ⟨X, _, rfl, hb⟩; replace HB := (HB.alloc HB.size _).trans (hb.mono (HB.alloc HB.size _).size); clear hb)
  rw [rounds_succ]
  go_wp2_with fail
  refine bodyPost_ret (v := .tuple #[.nilIface, .string ⟨#[]⟩, .bool false]) (by simp [results, Tryz.results44, go_sem]) rfl ?_
  exact ⟨rfl, HB⟩

set_option maxRecDepth 100000 in
set_option maxHeartbeats 4000000 in
theorem reduced_number (o : UInt8) (a b : Nat) (w : World) (ho : o.toNat = 43 ∨ o.toNat = 45 ∨ o.toNat = 42) (ha : a ≤ 99) (hb : b ≤ 99) :
    Calls Tryz.prog 44 #[enc (.op o (.num a) (.num b))] w (RedP (some (.num (calN o a b), [110, 117, 109, 98, 101, 114])) w) := by
  have KR := fun W => rules_c W
  have K0 := fun W => putLet_no (.op o (.num a) (.num b)) W rfl
  have K1 := fun W => putArg_no1 (.op o (.num a) (.num b)) W rfl
  have K2 := fun W => putSelf_no1 (.op o (.num a) (.num b)) W rfl
  have K3 := fun W => ifZero_no1 (.op o (.num a) (.num b)) W rfl
  have K4 := fun W => ifOther_no1 (.op o (.num a) (.num b)) W rfl
  have K5 := fun W => calc_yes o a b W ho ha hb
  unfold RedP
  simp only
  unfold RuleYes at K5
  obtain ⟨rn, rv, hr⟩ := enc_gen (.num (calN o a b))
  rw [hr]
  simp only [hr] at K5
  clear hr
  generalize hq : enc (.op o (.num a) (.num b)) = Q at *
  obtain ⟨qn, qv, rfl⟩ : ∃ n v, Q = .iface n v := by rw [← hq]; exact enc_gen _
  clear hq
  have x0 := fun W => rule_ix0 W
  have x1 := fun W => rule_ix1 W
  have x2 := fun W => rule_ix2 W
  have x3 := fun W => rule_ix3 W
  have x4 := fun W => rule_ix4 W
  have x5 := fun W => rule_ix5 W
  go_enter Tryz.func44, Tryz.ntmps44
  go_wp2_with (go_at_call 66; refine (KR _).mono ?_; clear KR; rintro e w1 ⟨rfl, HB⟩; unfold rulesV)
  refine wp_loop_rounds 6 ?_
  rw [rounds_succ]
  go_wp2_with (go_at_call 87; refine (K0 _).mono ?_; clear K0; rintro e wn ⟨X, _, rfl, hb⟩; replace HB := (HB.alloc HB.size _).trans (hb.mono (HB.alloc HB.size _).size); clear hb)
  rw [rounds_succ]
  go_wp2_with (go_at_call 88; refine (K1 _).mono ?_; clear K1; rintro e wn ⟨X, _, rfl, hb⟩; replace HB := (HB.alloc HB.size _).trans (hb.mono (HB.alloc HB.size _).size); clear hb)
  rw [rounds_succ]
  go_wp2_with (go_at_call 89; refine (K2 _).mono ?_; clear K2; rintro e wn ⟨X, _, rfl, hb⟩; replace HB := (HB.alloc HB.size _).trans (hb.mono (HB.alloc HB.size _).size); clear hb)
  rw [rounds_succ]
  go_wp2_with (go_at_call 90; refine (K3 _).mono ?_; clear K3; rintro e wn ⟨X, _, rfl, hb⟩; replace HB := (HB.alloc HB.size _).trans (hb.mono (HB.alloc HB.size _).size); clear hb)
  rw [rounds_succ]
  go_wp2_with (go_at_call 91; refine (K4 _).mono ?_; clear K4; rintro e wn ⟨X, _, rfl, hb⟩; replace HB := (HB.alloc HB.size _).trans (hb.mono (HB.alloc HB.size _).size); clear hb)
  rw [rounds_succ]
  go_wp2_with (go_at_call 92; refine (K5 _).mono ?_; clear K5; rintro e wn ⟨rfl, hb⟩; (obtain ⟨k0, k1⟩ := rule_box hb); replace HB := (HB.alloc HB.size _).trans (hb.mono (HB.alloc HB.size _).size); clear hb)
  go_region
  all_goals go_wp2_with fail
  all_goals refine bodyPost_ret (v := .tuple #[.iface rn rv, .string ⟨#[110, 117, 109, 98, 101, 114]⟩, .bool true]) (by simp [results, Tryz.results44, go_sem]) rfl ?_
  all_goals exact ⟨rfl, by first | exact HB | exact HB.drew⟩

set_option maxRecDepth 100000 in
set_option maxHeartbeats 4000000 in
theorem reduced_stuckOp (o : UInt8) (l r : Tm) (w : World) (h : (isNum l && isNum r) = false) :
    Calls Tryz.prog 44 #[enc (.op o l r)] w (RedP (none) w) := by
  have KR := fun W => rules_c W
  have K0 := fun W => putLet_no (.op o l r) W rfl
  have K1 := fun W => putArg_no1 (.op o l r) W rfl
  have K2 := fun W => putSelf_no1 (.op o l r) W rfl
  have K3 := fun W => ifZero_no1 (.op o l r) W rfl
  have K4 := fun W => ifOther_no1 (.op o l r) W rfl
  have K5 := fun W => calc_no2 o l r W h
  unfold RedP
  simp only
  generalize hq : enc (.op o l r) = Q at *
  obtain ⟨qn, qv, rfl⟩ : ∃ n v, Q = .iface n v := by rw [← hq]; exact enc_gen _
  clear hq
  have x0 := fun W => rule_ix0 W
  have x1 := fun W => rule_ix1 W
  have x2 := fun W => rule_ix2 W
  have x3 := fun W => rule_ix3 W
  have x4 := fun W => rule_ix4 W
  have x5 := fun W => rule_ix5 W
  go_enter Tryz.func44, Tryz.ntmps44
  go_wp2_with (go_at_call 66; refine (KR _).mono ?_; clear KR; rintro e w1 ⟨rfl, HB⟩; unfold rulesV)
  refine wp_loop_rounds 7 ?_
  rw [rounds_succ]
  go_wp2_with (go_at_call 87; refine (K0 _).mono ?_; clear K0; rintro e wn ⟨X, _, rfl, hb⟩; replace HB := (HB.alloc HB.size _).trans (hb.mono (HB.alloc HB.size _).size); clear hb)
  rw [rounds_succ]
  go_wp2_with (go_at_call 88; refine (K1 _).mono ?_; clear K1; rintro e wn ⟨X, _, rfl, hb⟩; replace HB := (HB.alloc HB.size _).trans (hb.mono (HB.alloc HB.size _).size); clear hb)
  rw [rounds_succ]
  go_wp2_with (go_at_call 89; refine (K2 _).mono ?_; clear K2; rintro e wn ⟨X, _, rfl, hb⟩; replace HB := (HB.alloc HB.size _).trans (hb.mono (HB.alloc HB.size _).size); clear hb)
  rw [rounds_succ]
  go_wp2_with (go_at_call 90; refine (K3 _).mono ?_; clear K3; rintro e wn ⟨X, _, rfl, hb⟩; replace HB := (HB.alloc HB.size _).trans (hb.mono (HB.alloc HB.size _).size); clear hb)
  rw [rounds_succ]
  go_wp2_with (go_at_call 91; refine (K4 _).mono ?_; clear K4; rintro e wn ⟨X, _, rfl, hb⟩; replace HB := (HB.alloc HB.size _).trans (hb.mono (HB.alloc HB.size _).size); clear hb)
  rw [rounds_succ]
  go_wp2_with (go_at_call 92; refine (K5 _).mono ?_; clear K5; rintro e wn ⟨X, _, rfl, hb⟩; replace HB := (HB.alloc HB.size _).trans (hb.mono (HB.alloc HB.size _).size); clear hb)
  rw [rounds_succ]
  go_wp2_with fail
  refine bodyPost_ret (v := .tuple #[.nilIface, .string ⟨#[]⟩, .bool false]) (by simp [results, Tryz.results44, go_sem]) rfl ?_
  exact ⟨rfl, HB⟩

end Go.Proofs.YtmkibadkcmljnaaGreatDoor
