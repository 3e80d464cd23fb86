import Derived.Test.YtojbffiffcfblaaGreatMPs
/- The specification's putting: terms without kids. -/
namespace Go.Proofs.YtojbffiffcfblaaGreat
open Go.RowKit
open Ff
set_option linter.unusedVariables false

theorem byte_ne {d c : UInt8} (h : d ≠ c) : (d == c) = false := by rw [beq_eq_false_iff_ne]; exact h
theorem below_three (w : World) (o1 o2 o3 : Obj) : Below w.heap.size w (((w.alloc o1).alloc o2).alloc o3) := (below_two w o1 o2).alloc (by simp; omega) o3
set_option maxRecDepth 100000 in
set_option maxHeartbeats 1000000 in
theorem subst_num (n : Nat) (m : Nat) (S : Nat → Prop) (x : UInt8) (u : Tm) (vt vu : Value) (w : World) (hS : ∀ g, S g → g < w.heap.size) (hrt : Rep S w (.num m) vt) (hru : Rep S w u vu) :
    Calls Tryz.prog 38 #[vt, .string ⟨([x] : Text).toArray⟩, vu] w fun e w' => ∃ v, e = .returned (.tuple #[v, .bool true]) ∧ Below w.heap.size w w' ∧ Rep (fun g => S g ∨ New w w' g) w' (.num m) v := by
  obtain ⟨u0, u1, u2, u3, u4, u5, rfl⟩ := hru.junk
  have HR := Lib.hid hrt
  cases hrt with
  | mk _ g cap cs hg hc hk =>
  clear hc hk
  unfold tmHead at HR
  unfold tmHead
  replace HR : Hid (Rep S w (.num m) (.agg #[.int .u8 110, .int .i64 (m : Int), .string ⟨#[]⟩, .slice (some ⟨g, 0, none⟩) 0 cap])) := HR
  show Calls Tryz.prog 38 #[.agg #[.int .u8 110, .int .i64 (m : Int), .string ⟨#[]⟩, .slice (some ⟨g, 0, none⟩) 0 cap], .string ⟨#[x]⟩, .agg #[.int .u8 u0, .int .i64 u1, .string u2, .slice u3 u4 u5]] w _
  go_enter Tryz.func38, Tryz.ntmps38
  go_wp2_with fail
  refine bodyPost_ret (v := .tuple #[.agg #[.int .u8 110, .int .i64 (m : Int), .string ⟨#[]⟩, .slice (some ⟨g, 0, none⟩) 0 cap], .bool true]) (by simp [results, Tryz.results38, go_sem]) rfl ?_
  exact ⟨_, rfl, below_three _ _ _ _, HR.out.keep (fun g' hg' => (below_three w _ _ _).block g' (hS g' hg')) (fun g' hg' => .inl hg')⟩
set_option maxRecDepth 100000 in
set_option maxHeartbeats 1000000 in
theorem subst_var (n : Nat) (c : UInt8) (S : Nat → Prop) (x : UInt8) (u : Tm) (vt vu : Value) (w : World) (hS : ∀ g, S g → g < w.heap.size) (hrt : Rep S w (.var c) vt) (hru : Rep S w u vu) :
    Calls Tryz.prog 38 #[vt, .string ⟨([x] : Text).toArray⟩, vu] w fun e w' => ∃ v, e = .returned (.tuple #[v, .bool true]) ∧ Below w.heap.size w w' ∧ Rep (fun g => S g ∨ New w w' g) w' (if c = x then u else .var c) v := by
  obtain ⟨u0, u1, u2, u3, u4, u5, rfl⟩ := hru.junk
  have HU := Lib.hid hru
  have HR := Lib.hid hrt
  cases hrt with
  | mk _ g cap cs hg hc hk =>
  clear hc hk hru
  unfold tmHead at HR
  unfold tmHead
  replace HR : Hid (Rep S w (.var c) (.agg #[.int .u8 118, .int .i64 0, .string ⟨#[c]⟩, .slice (some ⟨g, 0, none⟩) 0 cap])) := HR
  show Calls Tryz.prog 38 #[.agg #[.int .u8 118, .int .i64 0, .string ⟨#[c]⟩, .slice (some ⟨g, 0, none⟩) 0 cap], .string ⟨#[x]⟩, .agg #[.int .u8 u0, .int .i64 u1, .string u2, .slice u3 u4 u5]] w _
  by_cases h : c = x
  · subst h
    rw [if_pos rfl]
    go_enter Tryz.func38, Tryz.ntmps38
    go_wp2_with fail
    refine bodyPost_ret (v := .tuple #[.agg #[.int .u8 u0, .int .i64 u1, .string u2, .slice u3 u4 u5], .bool true]) (by simp [results, Tryz.results38, go_sem]) rfl ?_
    exact ⟨_, rfl, below_three _ _ _ _, HU.out.keep (fun g' hg' => (below_three w _ _ _).block g' (hS g' hg')) (fun g' hg' => .inl hg')⟩
  · have hq := byte_ne h
    rw [if_neg h]
    clear h
    go_enter Tryz.func38, Tryz.ntmps38
    go_wp2_with fail
    refine bodyPost_ret (v := .tuple #[.agg #[.int .u8 118, .int .i64 0, .string ⟨#[c]⟩, .slice (some ⟨g, 0, none⟩) 0 cap], .bool true]) (by simp [results, Tryz.results38, go_sem]) rfl ?_
    exact ⟨_, rfl, below_three _ _ _ _, HR.out.keep (fun g' hg' => (below_three w _ _ _).block g' (hS g' hg')) (fun g' hg' => .inl hg')⟩
end Go.Proofs.YtojbffiffcfblaaGreat
