/- The program's text of a term: what has kids. -/
import Derived.Test.YtppllaonbihflaaTxA
namespace Go.Proofs.Ytppllaonbihflaa
open Go.RowKit
open Ff
set_option linter.unusedVariables false
attribute [local irreducible] Calls

theorem keep2 {B : Nat} {w W : World} {f : Nat} {args : Array Value} {x : Value} {c0 c1 : Value} (h : Calls Try.prog f args W fun e w' => e = .returned x ∧ Below W.heap.size W w') (hb : Below B w W) (hs : B < W.heap.size) (h0 : W.cell? ⟨B, 0, none⟩ = some c0) (h1 : W.cell? ⟨B, 1, none⟩ = some c1) :
    Calls Try.prog f args W fun e w' => ∃ y, e = .returned y ∧ y = x ∧ Below B w w' ∧ B < w'.heap.size ∧ w'.cell? ⟨B, 0, none⟩ = some c0 ∧ w'.cell? ⟨B, 1, none⟩ = some c1 :=
  h.mono (by
    rintro e w' ⟨rfl, hb2⟩
    exact ⟨_, rfl, rfl, hb.trans (hb2.mono (by omega)), Nat.lt_of_lt_of_le hs hb2.size, (hb2.cell (p := ⟨B, 0, none⟩) hs).trans h0, (hb2.cell (p := ⟨B, 1, none⟩) hs).trans h1⟩)
theorem keep3 {B : Nat} {w W : World} {f : Nat} {args : Array Value} {x : Value} {c0 c1 c2 : Value} (h : Calls Try.prog f args W fun e w' => e = .returned x ∧ Below W.heap.size W w') (hb : Below B w W) (hs : B < W.heap.size) (h0 : W.cell? ⟨B, 0, none⟩ = some c0) (h1 : W.cell? ⟨B, 1, none⟩ = some c1) (h2 : W.cell? ⟨B, 2, none⟩ = some c2) :
    Calls Try.prog f args W fun e w' => ∃ y, e = .returned y ∧ y = x ∧ Below B w w' ∧ B < w'.heap.size ∧ w'.cell? ⟨B, 0, none⟩ = some c0 ∧ w'.cell? ⟨B, 1, none⟩ = some c1 ∧ w'.cell? ⟨B, 2, none⟩ = some c2 :=
  h.mono (by
    rintro e w' ⟨rfl, hb2⟩
    exact ⟨_, rfl, rfl, hb.trans (hb2.mono (by omega)), Nat.lt_of_lt_of_le hs hb2.size, (hb2.cell (p := ⟨B, 0, none⟩) hs).trans h0, (hb2.cell (p := ⟨B, 1, none⟩) hs).trans h1, (hb2.cell (p := ⟨B, 2, none⟩) hs).trans h2⟩)
set_option maxRecDepth 100000 in
set_option maxHeartbeats 4000000 in
theorem text_fn (n : Nat) (ih : ∀ s : Tm, s.depth ≤ n → s.good → (parts s).length ≤ 300000 → ∀ w, Calls Try.prog (tf s) #[pl s] w fun e w' => e = .returned (.string ⟨(textN s).toArray⟩) ∧ Below w.heap.size w w') (c : UInt8) (b : Tm) (hb : b.depth ≤ n) (gb : b.good) (pb : (parts b).length ≤ 300000) (hc : c ∈ letters) (w : World) :
    Calls Try.prog 153 #[.agg #[.int .u8 0, bv c, .iface (ty b) (pl b)]] w fun e w' => e = .returned (.string ⟨(92 :: c :: textN b : Text).toArray⟩) ∧ Below w.heap.size w w' := by
  have Cb := fun w' => ih b hb gb pb w'
  have lb := text_len b
  have vc := fun w' => conv_c (.inl hc) w'
  have z0 : ¬ 9223372036854775807 < 1 + 1 + (textN b).length := by omega
  have z1 : ¬ 9223372036854775807 < 2 + (textN b).length := by omega
  go_enter Try.func153, Try.ntmps153
  go_wp2_with fail
  have q0 := cell_new w [.int .u8 0, bv c, .iface (ty b) (pl b)] 90 0
  have q1 := cell_new w [.int .u8 0, bv c, .iface (ty b) (pl b)] 90 1
  have q2 := cell_new w [.int .u8 0, bv c, .iface (ty b) (pl b)] 90 2
  have qB := (Below.refl w.heap.size w).alloc (Nat.le_refl _) (.cells #[.int .u8 0, bv c, .iface (ty b) (pl b)] 90)
  have qs : w.heap.size < (w.alloc (.cells #[.int .u8 0, bv c, .iface (ty b) (pl b)] 90)).heap.size := by simp
  simp only [List.getElem?_cons_succ, List.getElem?_cons_zero] at q0 q1 q2
  change (w.alloc (.cells #[.int .u8 0, bv c, .iface (ty b) (pl b)] 90)).cell? _ = _ at q0 q1 q2
  generalize w.alloc (.cells #[.int .u8 0, bv c, .iface (ty b) (pl b)] 90) = W1 at q0 q1 q2 qB qs ⊢
  have qd := qB.drew
  clear ih
  go_region_held3 (fun w' => w'.cell? ⟨w.heap.size, 0, none⟩ = some (.int .u8 0) ∧ w'.cell? ⟨w.heap.size, 1, none⟩ = some (bv c) ∧ w'.cell? ⟨w.heap.size, 2, none⟩ = some (.iface (ty b) (pl b)) ∧ Below w.heap.size w w' ∧ w.heap.size < w'.heap.size)
    (first | go_keep | refine ⟨?_, ?_, ?_, ?_, ?_⟩ <;> assumption)
    (first | (refine wp_invoke_if rfl _ _ (ty b) (pl b) rfl rfl (tf b) (text_m b _ (by unfold TextName; kernel_rfl) _) (text_f b _) (fun rv w' => rv = .string ⟨(textN b).toArray⟩ ∧ Below w.heap.size w w' ∧ w.heap.size < w'.heap.size ∧ w'.cell? ⟨w.heap.size, 0, none⟩ = some (.int .u8 0) ∧ w'.cell? ⟨w.heap.size, 1, none⟩ = some (bv c) ∧ w'.cell? ⟨w.heap.size, 2, none⟩ = some (.iface (ty b) (pl b))) (keep3 (Cb _) (by assumption) (by assumption) (by assumption) (by assumption) (by assumption)) ?_; rintro rv w2 ⟨rfl, hbb, hss, hq0, hq1, hq2⟩))
  all_goals go_wp2_with fail
  all_goals go_ret
  all_goals exact ⟨congrArg (fun s => Ending.returned (Value.string s)) (by apply ba_ext; simp [ByteArray.data_append]), by assumption⟩
set_option maxRecDepth 100000 in
set_option maxHeartbeats 4000000 in
theorem text_fix (n : Nat) (ih : ∀ s : Tm, s.depth ≤ n → s.good → (parts s).length ≤ 300000 → ∀ w, Calls Try.prog (tf s) #[pl s] w fun e w' => e = .returned (.string ⟨(textN s).toArray⟩) ∧ Below w.heap.size w w') (f c : UInt8) (b : Tm) (hb : b.depth ≤ n) (gb : b.good) (pb : (parts b).length ≤ 300000) (hf : f ∈ letters) (hc : c ∈ letters) (hz : ((f.toNat : Int) == 0) = false) (w : World) :
    Calls Try.prog 153 #[.agg #[bv f, bv c, .iface (ty b) (pl b)]] w fun e w' => e = .returned (.string ⟨(64 :: f :: c :: textN b : Text).toArray⟩) ∧ Below w.heap.size w w' := by
  have Cb := fun w' => ih b hb gb pb w'
  have lb := text_len b
  have vc := fun w' => conv_c (.inl hc) w'
  have vf := fun w' => conv_c (.inl hf) w'
  have z0 : ¬ 9223372036854775807 < 1 + 1 + 1 + (textN b).length := by omega
  have z1 : ¬ 9223372036854775807 < 3 + (textN b).length := by omega
  go_enter Try.func153, Try.ntmps153
  go_wp2_with fail
  have q0 := cell_new w [bv f, bv c, .iface (ty b) (pl b)] 90 0
  have q1 := cell_new w [bv f, bv c, .iface (ty b) (pl b)] 90 1
  have q2 := cell_new w [bv f, bv c, .iface (ty b) (pl b)] 90 2
  have qB := (Below.refl w.heap.size w).alloc (Nat.le_refl _) (.cells #[bv f, bv c, .iface (ty b) (pl b)] 90)
  have qs : w.heap.size < (w.alloc (.cells #[bv f, bv c, .iface (ty b) (pl b)] 90)).heap.size := by simp
  simp only [List.getElem?_cons_succ, List.getElem?_cons_zero] at q0 q1 q2
  change (w.alloc (.cells #[bv f, bv c, .iface (ty b) (pl b)] 90)).cell? _ = _ at q0 q1 q2
  generalize w.alloc (.cells #[bv f, bv c, .iface (ty b) (pl b)] 90) = W1 at q0 q1 q2 qB qs ⊢
  have qd := qB.drew
  clear ih
  go_region_held3 (fun w' => w'.cell? ⟨w.heap.size, 0, none⟩ = some (bv f) ∧ w'.cell? ⟨w.heap.size, 1, none⟩ = some (bv c) ∧ w'.cell? ⟨w.heap.size, 2, none⟩ = some (.iface (ty b) (pl b)) ∧ Below w.heap.size w w' ∧ w.heap.size < w'.heap.size)
    (first | go_keep | refine ⟨?_, ?_, ?_, ?_, ?_⟩ <;> assumption)
    (first | (refine wp_invoke_if rfl _ _ (ty b) (pl b) rfl rfl (tf b) (text_m b _ (by unfold TextName; kernel_rfl) _) (text_f b _) (fun rv w' => rv = .string ⟨(textN b).toArray⟩ ∧ Below w.heap.size w w' ∧ w.heap.size < w'.heap.size ∧ w'.cell? ⟨w.heap.size, 0, none⟩ = some (bv f) ∧ w'.cell? ⟨w.heap.size, 1, none⟩ = some (bv c) ∧ w'.cell? ⟨w.heap.size, 2, none⟩ = some (.iface (ty b) (pl b))) (keep3 (Cb _) (by assumption) (by assumption) (by assumption) (by assumption) (by assumption)) ?_; rintro rv w2 ⟨rfl, hbb, hss, hq0, hq1, hq2⟩))
  all_goals go_wp2_with fail
  all_goals go_ret
  all_goals exact ⟨congrArg (fun s => Ending.returned (Value.string s)) (by apply ba_ext; simp [ByteArray.data_append]), by assumption⟩
set_option maxRecDepth 100000 in
set_option maxHeartbeats 4000000 in
theorem text_app (n : Nat) (ih : ∀ s : Tm, s.depth ≤ n → s.good → (parts s).length ≤ 300000 → ∀ w, Calls Try.prog (tf s) #[pl s] w fun e w' => e = .returned (.string ⟨(textN s).toArray⟩) ∧ Below w.heap.size w w') (x y : Tm) (hx : x.depth ≤ n) (gx : x.good) (px : (parts x).length ≤ 300000) (hy : y.depth ≤ n) (gy : y.good) (py : (parts y).length ≤ 300000)  (w : World) :
    Calls Try.prog 160 #[.agg #[.iface (ty x) (pl x), .iface (ty y) (pl y)]] w fun e w' => e = .returned (.string ⟨(40 :: (textN x ++ textN y ++ [41]) : Text).toArray⟩) ∧ Below w.heap.size w w' := by
  have Cx := fun w' => ih x hx gx px w'
  have Cy := fun w' => ih y hy gy py w'
  have lx := text_len x
  have ly := text_len y

  have z0 : ¬ 9223372036854775807 < 1 + (textN x).length := by omega
  have z1 : ¬ 9223372036854775807 < 1 + (textN x).length + (textN y).length := by omega
  have z2 : ¬ 9223372036854775807 < 1 + (textN x).length + (textN y).length + 1 := by omega
  go_enter Try.func160, Try.ntmps160
  go_wp2_with fail
  have q0 := cell_new w [.iface (ty x) (pl x), .iface (ty y) (pl y)] 128 0
  have q1 := cell_new w [.iface (ty x) (pl x), .iface (ty y) (pl y)] 128 1
  have qB := (Below.refl w.heap.size w).alloc (Nat.le_refl _) (.cells #[.iface (ty x) (pl x), .iface (ty y) (pl y)] 128)
  have qs : w.heap.size < (w.alloc (.cells #[.iface (ty x) (pl x), .iface (ty y) (pl y)] 128)).heap.size := by simp
  simp only [List.getElem?_cons_succ, List.getElem?_cons_zero] at q0 q1
  change (w.alloc (.cells #[.iface (ty x) (pl x), .iface (ty y) (pl y)] 128)).cell? _ = _ at q0 q1
  generalize w.alloc (.cells #[.iface (ty x) (pl x), .iface (ty y) (pl y)] 128) = W1 at q0 q1 qB qs ⊢
  have qd := qB.drew
  clear ih
  go_region_held3 (fun w' => w'.cell? ⟨w.heap.size, 0, none⟩ = some (.iface (ty x) (pl x)) ∧ w'.cell? ⟨w.heap.size, 1, none⟩ = some (.iface (ty y) (pl y)) ∧ Below w.heap.size w w' ∧ w.heap.size < w'.heap.size)
    (first | go_keep | refine ⟨?_, ?_, ?_, ?_⟩ <;> assumption)
    (first | (refine wp_invoke_if rfl _ _ (ty x) (pl x) rfl rfl (tf x) (text_m x _ (by unfold TextName; kernel_rfl) _) (text_f x _) (fun rv w' => rv = .string ⟨(textN x).toArray⟩ ∧ Below w.heap.size w w' ∧ w.heap.size < w'.heap.size ∧ w'.cell? ⟨w.heap.size, 0, none⟩ = some (.iface (ty x) (pl x)) ∧ w'.cell? ⟨w.heap.size, 1, none⟩ = some (.iface (ty y) (pl y))) (keep2 (Cx _) (by assumption) (by assumption) (by assumption) (by assumption)) ?_; rintro rv w2 ⟨rfl, hbb, hss, hq0, hq1⟩) | (refine wp_invoke_if rfl _ _ (ty y) (pl y) rfl rfl (tf y) (text_m y _ (by unfold TextName; kernel_rfl) _) (text_f y _) (fun rv w' => rv = .string ⟨(textN y).toArray⟩ ∧ Below w.heap.size w w' ∧ w.heap.size < w'.heap.size ∧ w'.cell? ⟨w.heap.size, 0, none⟩ = some (.iface (ty x) (pl x)) ∧ w'.cell? ⟨w.heap.size, 1, none⟩ = some (.iface (ty y) (pl y))) (keep2 (Cy _) (by assumption) (by assumption) (by assumption) (by assumption)) ?_; rintro rv w2 ⟨rfl, hbb, hss, hq0, hq1⟩))
  all_goals go_wp2_with fail
  all_goals go_ret
  all_goals exact ⟨congrArg (fun s => Ending.returned (Value.string s)) (by apply ba_ext; simp [ByteArray.data_append]), by assumption⟩
set_option maxRecDepth 100000 in
set_option maxHeartbeats 4000000 in
theorem text_bind (n : Nat) (ih : ∀ s : Tm, s.depth ≤ n → s.good → (parts s).length ≤ 300000 → ∀ w, Calls Try.prog (tf s) #[pl s] w fun e w' => e = .returned (.string ⟨(textN s).toArray⟩) ∧ Below w.heap.size w w') (c : UInt8) (x y : Tm) (hx : x.depth ≤ n) (gx : x.good) (px : (parts x).length ≤ 300000) (hy : y.depth ≤ n) (gy : y.good) (py : (parts y).length ≤ 300000) (hc : c ∈ letters) (w : World) :
    Calls Try.prog 155 #[.agg #[bv c, .iface (ty x) (pl x), .iface (ty y) (pl y)]] w fun e w' => e = .returned (.string ⟨(61 :: c :: (textN x ++ textN y) : Text).toArray⟩) ∧ Below w.heap.size w w' := by
  have Cx := fun w' => ih x hx gx px w'
  have Cy := fun w' => ih y hy gy py w'
  have lx := text_len x
  have ly := text_len y
  have vc := fun w' => conv_c (.inl hc) w'
  have z0 : ¬ 9223372036854775807 < 1 + 1 + (textN x).length := by omega
  have z1 : ¬ 9223372036854775807 < 2 + (textN x).length := by omega
  have z2 : ¬ 9223372036854775807 < 1 + 1 + (textN x).length + (textN y).length := by omega
  have z3 : ¬ 9223372036854775807 < 2 + (textN x).length + (textN y).length := by omega
  go_enter Try.func155, Try.ntmps155
  go_wp2_with fail
  have q0 := cell_new w [bv c, .iface (ty x) (pl x), .iface (ty y) (pl y)] 92 0
  have q1 := cell_new w [bv c, .iface (ty x) (pl x), .iface (ty y) (pl y)] 92 1
  have q2 := cell_new w [bv c, .iface (ty x) (pl x), .iface (ty y) (pl y)] 92 2
  have qB := (Below.refl w.heap.size w).alloc (Nat.le_refl _) (.cells #[bv c, .iface (ty x) (pl x), .iface (ty y) (pl y)] 92)
  have qs : w.heap.size < (w.alloc (.cells #[bv c, .iface (ty x) (pl x), .iface (ty y) (pl y)] 92)).heap.size := by simp
  simp only [List.getElem?_cons_succ, List.getElem?_cons_zero] at q0 q1 q2
  change (w.alloc (.cells #[bv c, .iface (ty x) (pl x), .iface (ty y) (pl y)] 92)).cell? _ = _ at q0 q1 q2
  generalize w.alloc (.cells #[bv c, .iface (ty x) (pl x), .iface (ty y) (pl y)] 92) = W1 at q0 q1 q2 qB qs ⊢
  have qd := qB.drew
  clear ih
  go_region_held3 (fun w' => w'.cell? ⟨w.heap.size, 0, none⟩ = some (bv c) ∧ w'.cell? ⟨w.heap.size, 1, none⟩ = some (.iface (ty x) (pl x)) ∧ w'.cell? ⟨w.heap.size, 2, none⟩ = some (.iface (ty y) (pl y)) ∧ Below w.heap.size w w' ∧ w.heap.size < w'.heap.size)
    (first | go_keep | refine ⟨?_, ?_, ?_, ?_, ?_⟩ <;> assumption)
    (first | (refine wp_invoke_if rfl _ _ (ty x) (pl x) rfl rfl (tf x) (text_m x _ (by unfold TextName; kernel_rfl) _) (text_f x _) (fun rv w' => rv = .string ⟨(textN x).toArray⟩ ∧ Below w.heap.size w w' ∧ w.heap.size < w'.heap.size ∧ w'.cell? ⟨w.heap.size, 0, none⟩ = some (bv c) ∧ w'.cell? ⟨w.heap.size, 1, none⟩ = some (.iface (ty x) (pl x)) ∧ w'.cell? ⟨w.heap.size, 2, none⟩ = some (.iface (ty y) (pl y))) (keep3 (Cx _) (by assumption) (by assumption) (by assumption) (by assumption) (by assumption)) ?_; rintro rv w2 ⟨rfl, hbb, hss, hq0, hq1, hq2⟩) | (refine wp_invoke_if rfl _ _ (ty y) (pl y) rfl rfl (tf y) (text_m y _ (by unfold TextName; kernel_rfl) _) (text_f y _) (fun rv w' => rv = .string ⟨(textN y).toArray⟩ ∧ Below w.heap.size w w' ∧ w.heap.size < w'.heap.size ∧ w'.cell? ⟨w.heap.size, 0, none⟩ = some (bv c) ∧ w'.cell? ⟨w.heap.size, 1, none⟩ = some (.iface (ty x) (pl x)) ∧ w'.cell? ⟨w.heap.size, 2, none⟩ = some (.iface (ty y) (pl y))) (keep3 (Cy _) (by assumption) (by assumption) (by assumption) (by assumption) (by assumption)) ?_; rintro rv w2 ⟨rfl, hbb, hss, hq0, hq1, hq2⟩))
  all_goals go_wp2_with fail
  all_goals go_ret
  all_goals exact ⟨congrArg (fun s => Ending.returned (Value.string s)) (by apply ba_ext; simp [ByteArray.data_append]), by assumption⟩
set_option maxRecDepth 100000 in
set_option maxHeartbeats 4000000 in
theorem text_op (n : Nat) (ih : ∀ s : Tm, s.depth ≤ n → s.good → (parts s).length ≤ 300000 → ∀ w, Calls Try.prog (tf s) #[pl s] w fun e w' => e = .returned (.string ⟨(textN s).toArray⟩) ∧ Below w.heap.size w w') (c : UInt8) (x y : Tm) (hx : x.depth ≤ n) (gx : x.good) (px : (parts x).length ≤ 300000) (hy : y.depth ≤ n) (gy : y.good) (py : (parts y).length ≤ 300000) (hc : c = 43 ∨ c = 45 ∨ c = 42) (w : World) :
    Calls Try.prog 162 #[.agg #[bv c, .iface (ty x) (pl x), .iface (ty y) (pl y)]] w fun e w' => e = .returned (.string ⟨(c :: (textN x ++ textN y) : Text).toArray⟩) ∧ Below w.heap.size w w' := by
  have Cx := fun w' => ih x hx gx px w'
  have Cy := fun w' => ih y hy gy py w'
  have lx := text_len x
  have ly := text_len y
  have vc := fun w' => conv_c (.inr hc) w'
  have z0 : ¬ 9223372036854775807 < 1 + (textN x).length := by omega
  have z1 : ¬ 9223372036854775807 < 1 + (textN x).length + (textN y).length := by omega
  go_enter Try.func162, Try.ntmps162
  go_wp2_with fail
  have q0 := cell_new w [bv c, .iface (ty x) (pl x), .iface (ty y) (pl y)] 130 0
  have q1 := cell_new w [bv c, .iface (ty x) (pl x), .iface (ty y) (pl y)] 130 1
  have q2 := cell_new w [bv c, .iface (ty x) (pl x), .iface (ty y) (pl y)] 130 2
  have qB := (Below.refl w.heap.size w).alloc (Nat.le_refl _) (.cells #[bv c, .iface (ty x) (pl x), .iface (ty y) (pl y)] 130)
  have qs : w.heap.size < (w.alloc (.cells #[bv c, .iface (ty x) (pl x), .iface (ty y) (pl y)] 130)).heap.size := by simp
  simp only [List.getElem?_cons_succ, List.getElem?_cons_zero] at q0 q1 q2
  change (w.alloc (.cells #[bv c, .iface (ty x) (pl x), .iface (ty y) (pl y)] 130)).cell? _ = _ at q0 q1 q2
  generalize w.alloc (.cells #[bv c, .iface (ty x) (pl x), .iface (ty y) (pl y)] 130) = W1 at q0 q1 q2 qB qs ⊢
  have qd := qB.drew
  clear ih
  go_region_held3 (fun w' => w'.cell? ⟨w.heap.size, 0, none⟩ = some (bv c) ∧ w'.cell? ⟨w.heap.size, 1, none⟩ = some (.iface (ty x) (pl x)) ∧ w'.cell? ⟨w.heap.size, 2, none⟩ = some (.iface (ty y) (pl y)) ∧ Below w.heap.size w w' ∧ w.heap.size < w'.heap.size)
    (first | go_keep | refine ⟨?_, ?_, ?_, ?_, ?_⟩ <;> assumption)
    (first | (refine wp_invoke_if rfl _ _ (ty x) (pl x) rfl rfl (tf x) (text_m x _ (by unfold TextName; kernel_rfl) _) (text_f x _) (fun rv w' => rv = .string ⟨(textN x).toArray⟩ ∧ Below w.heap.size w w' ∧ w.heap.size < w'.heap.size ∧ w'.cell? ⟨w.heap.size, 0, none⟩ = some (bv c) ∧ w'.cell? ⟨w.heap.size, 1, none⟩ = some (.iface (ty x) (pl x)) ∧ w'.cell? ⟨w.heap.size, 2, none⟩ = some (.iface (ty y) (pl y))) (keep3 (Cx _) (by assumption) (by assumption) (by assumption) (by assumption) (by assumption)) ?_; rintro rv w2 ⟨rfl, hbb, hss, hq0, hq1, hq2⟩) | (refine wp_invoke_if rfl _ _ (ty y) (pl y) rfl rfl (tf y) (text_m y _ (by unfold TextName; kernel_rfl) _) (text_f y _) (fun rv w' => rv = .string ⟨(textN y).toArray⟩ ∧ Below w.heap.size w w' ∧ w.heap.size < w'.heap.size ∧ w'.cell? ⟨w.heap.size, 0, none⟩ = some (bv c) ∧ w'.cell? ⟨w.heap.size, 1, none⟩ = some (.iface (ty x) (pl x)) ∧ w'.cell? ⟨w.heap.size, 2, none⟩ = some (.iface (ty y) (pl y))) (keep3 (Cy _) (by assumption) (by assumption) (by assumption) (by assumption) (by assumption)) ?_; rintro rv w2 ⟨rfl, hbb, hss, hq0, hq1, hq2⟩))
  all_goals go_wp2_with fail
  all_goals go_ret
  all_goals exact ⟨congrArg (fun s => Ending.returned (Value.string s)) (by apply ba_ext; simp [ByteArray.data_append]), by assumption⟩
set_option maxRecDepth 100000 in
set_option maxHeartbeats 4000000 in
theorem text_sel (n : Nat) (ih : ∀ s : Tm, s.depth ≤ n → s.good → (parts s).length ≤ 300000 → ∀ w, Calls Try.prog (tf s) #[pl s] w fun e w' => e = .returned (.string ⟨(textN s).toArray⟩) ∧ Below w.heap.size w w') (x y z : Tm) (hx : x.depth ≤ n) (gx : x.good) (px : (parts x).length ≤ 300000) (hy : y.depth ≤ n) (gy : y.good) (py : (parts y).length ≤ 300000) (hz : z.depth ≤ n) (gz : z.good) (pz : (parts z).length ≤ 300000)  (w : World) :
    Calls Try.prog 164 #[.agg #[.iface (ty x) (pl x), .iface (ty y) (pl y), .iface (ty z) (pl z)]] w fun e w' => e = .returned (.string ⟨(63 :: (textN x ++ textN y ++ textN z) : Text).toArray⟩) ∧ Below w.heap.size w w' := by
  have Cx := fun w' => ih x hx gx px w'
  have Cy := fun w' => ih y hy gy py w'
  have Cz := fun w' => ih z hz gz pz w'
  have lx := text_len x
  have ly := text_len y
  have lz := text_len z

  have z0 : ¬ 9223372036854775807 < 1 + (textN x).length := by omega
  have z1 : ¬ 9223372036854775807 < 1 + (textN x).length + (textN y).length := by omega
  have z2 : ¬ 9223372036854775807 < 1 + (textN x).length + (textN y).length + (textN z).length := by omega
  go_enter Try.func164, Try.ntmps164
  go_wp2_with fail
  have q0 := cell_new w [.iface (ty x) (pl x), .iface (ty y) (pl y), .iface (ty z) (pl z)] 132 0
  have q1 := cell_new w [.iface (ty x) (pl x), .iface (ty y) (pl y), .iface (ty z) (pl z)] 132 1
  have q2 := cell_new w [.iface (ty x) (pl x), .iface (ty y) (pl y), .iface (ty z) (pl z)] 132 2
  have qB := (Below.refl w.heap.size w).alloc (Nat.le_refl _) (.cells #[.iface (ty x) (pl x), .iface (ty y) (pl y), .iface (ty z) (pl z)] 132)
  have qs : w.heap.size < (w.alloc (.cells #[.iface (ty x) (pl x), .iface (ty y) (pl y), .iface (ty z) (pl z)] 132)).heap.size := by simp
  simp only [List.getElem?_cons_succ, List.getElem?_cons_zero] at q0 q1 q2
  change (w.alloc (.cells #[.iface (ty x) (pl x), .iface (ty y) (pl y), .iface (ty z) (pl z)] 132)).cell? _ = _ at q0 q1 q2
  generalize w.alloc (.cells #[.iface (ty x) (pl x), .iface (ty y) (pl y), .iface (ty z) (pl z)] 132) = W1 at q0 q1 q2 qB qs ⊢
  have qd := qB.drew
  clear ih
  go_region_held3 (fun w' => w'.cell? ⟨w.heap.size, 0, none⟩ = some (.iface (ty x) (pl x)) ∧ w'.cell? ⟨w.heap.size, 1, none⟩ = some (.iface (ty y) (pl y)) ∧ w'.cell? ⟨w.heap.size, 2, none⟩ = some (.iface (ty z) (pl z)) ∧ Below w.heap.size w w' ∧ w.heap.size < w'.heap.size)
    (first | go_keep | refine ⟨?_, ?_, ?_, ?_, ?_⟩ <;> assumption)
    (first | (refine wp_invoke_if rfl _ _ (ty x) (pl x) rfl rfl (tf x) (text_m x _ (by unfold TextName; kernel_rfl) _) (text_f x _) (fun rv w' => rv = .string ⟨(textN x).toArray⟩ ∧ Below w.heap.size w w' ∧ w.heap.size < w'.heap.size ∧ w'.cell? ⟨w.heap.size, 0, none⟩ = some (.iface (ty x) (pl x)) ∧ w'.cell? ⟨w.heap.size, 1, none⟩ = some (.iface (ty y) (pl y)) ∧ w'.cell? ⟨w.heap.size, 2, none⟩ = some (.iface (ty z) (pl z))) (keep3 (Cx _) (by assumption) (by assumption) (by assumption) (by assumption) (by assumption)) ?_; rintro rv w2 ⟨rfl, hbb, hss, hq0, hq1, hq2⟩) | (refine wp_invoke_if rfl _ _ (ty y) (pl y) rfl rfl (tf y) (text_m y _ (by unfold TextName; kernel_rfl) _) (text_f y _) (fun rv w' => rv = .string ⟨(textN y).toArray⟩ ∧ Below w.heap.size w w' ∧ w.heap.size < w'.heap.size ∧ w'.cell? ⟨w.heap.size, 0, none⟩ = some (.iface (ty x) (pl x)) ∧ w'.cell? ⟨w.heap.size, 1, none⟩ = some (.iface (ty y) (pl y)) ∧ w'.cell? ⟨w.heap.size, 2, none⟩ = some (.iface (ty z) (pl z))) (keep3 (Cy _) (by assumption) (by assumption) (by assumption) (by assumption) (by assumption)) ?_; rintro rv w2 ⟨rfl, hbb, hss, hq0, hq1, hq2⟩) | (refine wp_invoke_if rfl _ _ (ty z) (pl z) rfl rfl (tf z) (text_m z _ (by unfold TextName; kernel_rfl) _) (text_f z _) (fun rv w' => rv = .string ⟨(textN z).toArray⟩ ∧ Below w.heap.size w w' ∧ w.heap.size < w'.heap.size ∧ w'.cell? ⟨w.heap.size, 0, none⟩ = some (.iface (ty x) (pl x)) ∧ w'.cell? ⟨w.heap.size, 1, none⟩ = some (.iface (ty y) (pl y)) ∧ w'.cell? ⟨w.heap.size, 2, none⟩ = some (.iface (ty z) (pl z))) (keep3 (Cz _) (by assumption) (by assumption) (by assumption) (by assumption) (by assumption)) ?_; rintro rv w2 ⟨rfl, hbb, hss, hq0, hq1, hq2⟩))
  all_goals go_wp2_with fail
  all_goals go_ret
  all_goals exact ⟨congrArg (fun s => Ending.returned (Value.string s)) (by apply ba_ext; simp [ByteArray.data_append]), by assumption⟩
end Go.Proofs.Ytppllaonbihflaa
