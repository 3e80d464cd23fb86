/- SizeOf: the model's and the program's. -/
import Derived.Test.YtpiahmdgkmkhiaaYi
namespace Ff

/-- A term has no more parts than its text has bytes. -/
theorem parse_parts : ∀ (k : Nat) (s r : Text) (t : Tm), parse k s = some (t, r) → (Go.Proofs.Ytpiahmdgkmkhiaa.parts t).length + r.length ≤ s.length := by
  intro k
  induction k with
  | zero => intro s r t h; simp [parse] at h
  | succ k ih =>
    intro s r t h
    simp only [parse, Option.bind_eq_some_iff, Prod.exists] at h
    obtain ⟨c, s1, h1, h⟩ := h
    have l1 := next1_len h1
    have key : (Go.Proofs.Ytpiahmdgkmkhiaa.parts t).length + r.length ≤ s1.length + 1 := by
      unfold pBehind at h
      split at h
      · simp only [pLong, Option.bind_eq_some_iff, Prod.exists] at h
        obtain ⟨a, r1, ha, b, r2, hb, h⟩ := h
        have := next1_len ha; have := next1_len hb
        split at h
        · simp only [Option.some.injEq, Prod.mk.injEq] at h; obtain ⟨rfl, rfl⟩ := h; simp only [Go.Proofs.Ytpiahmdgkmkhiaa.parts, List.length_cons, List.length_nil]; omega
        · simp at h
      split at h
      · simp only [pFn, Option.bind_eq_some_iff, Prod.exists, Option.some.injEq, Prod.mk.injEq] at h
        obtain ⟨a, r1, ha, b, r2, hb, rfl, rfl⟩ := h
        have := name1_len ha; have := ih _ _ _ hb; simp only [Go.Proofs.Ytpiahmdgkmkhiaa.parts, List.length_cons]; omega
      split at h
      · simp only [pFix, Option.bind_eq_some_iff, Prod.exists] at h
        obtain ⟨a, r1, ha, b, r2, hb, h⟩ := h
        have := name1_len ha; have := name1_len hb
        split at h
        · simp at h
        · simp only [Option.bind_eq_some_iff, Prod.exists, Option.some.injEq, Prod.mk.injEq] at h
          obtain ⟨c, r3, hc, rfl, rfl⟩ := h
          have := ih _ _ _ hc; simp only [Go.Proofs.Ytpiahmdgkmkhiaa.parts, List.length_cons]; omega
      split at h
      · simp only [pApp, Option.bind_eq_some_iff, Prod.exists] at h
        obtain ⟨a, r1, ha, b, r2, hb, z, r3, hz, h⟩ := h
        have := ih _ _ _ ha; have := ih _ _ _ hb; have := next1_len hz
        split at h
        · simp only [Option.some.injEq, Prod.mk.injEq] at h; obtain ⟨rfl, rfl⟩ := h; simp only [Go.Proofs.Ytpiahmdgkmkhiaa.parts, List.length_cons, List.length_append]; omega
        · simp at h
      split at h
      · simp only [pBind, Option.bind_eq_some_iff, Prod.exists, Option.some.injEq, Prod.mk.injEq] at h
        obtain ⟨a, r1, ha, b, r2, hb, c, r3, hc, rfl, rfl⟩ := h
        have := name1_len ha; have := ih _ _ _ hb; have := ih _ _ _ hc; simp only [Go.Proofs.Ytpiahmdgkmkhiaa.parts, List.length_cons, List.length_append]; omega
      split at h
      · simp only [pOp, Option.bind_eq_some_iff, Prod.exists, Option.some.injEq, Prod.mk.injEq] at h
        obtain ⟨a, r1, ha, b, r2, hb, rfl, rfl⟩ := h
        have := ih _ _ _ ha; have := ih _ _ _ hb; simp only [Go.Proofs.Ytpiahmdgkmkhiaa.parts, List.length_cons, List.length_append]; omega
      split at h
      · simp only [pSel, Option.bind_eq_some_iff, Prod.exists, Option.some.injEq, Prod.mk.injEq] at h
        obtain ⟨a, r1, ha, b, r2, hb, c, r3, hc, rfl, rfl⟩ := h
        have := ih _ _ _ ha; have := ih _ _ _ hb; have := ih _ _ _ hc; simp only [Go.Proofs.Ytpiahmdgkmkhiaa.parts, List.length_cons, List.length_append]; omega
      split at h
      · simp only [Option.some.injEq, Prod.mk.injEq] at h; obtain ⟨rfl, rfl⟩ := h; simp only [Go.Proofs.Ytpiahmdgkmkhiaa.parts, List.length_cons, List.length_nil]; omega
      split at h
      · simp only [Option.some.injEq, Prod.mk.injEq] at h; obtain ⟨rfl, rfl⟩ := h; simp only [Go.Proofs.Ytpiahmdgkmkhiaa.parts, List.length_cons, List.length_nil]; omega
      · simp at h
    omega
theorem readS_parts {s : Text} {t : Tm} (h : readS s = some t) : (Go.Proofs.Ytpiahmdgkmkhiaa.parts t).length ≤ 120 := by
  obtain ⟨r, h1, h2, h3⟩ := readS_some h
  have := parse_parts _ _ _ _ h1
  omega
end Ff
namespace Go.Proofs.Ytpiahmdgkmkhiaa
open Go.RowKit Go.Shelf
open Ff
set_option linter.unusedVariables false
attribute [local go_sem] Oper.semAt_some

/-- What a text's size is told as. -/
def sizeI (o : Option Tm) : Int := match o with | some t => ((parts t).length : Nat) | none => -1
set_option maxHeartbeats 1000000 in
theorem sSizeOf_c (s : Text) (w : World) (hl : s.length ≤ 9223372036854775807) :
    Calls Try.prog 15 #[.string ⟨s.toArray⟩] w fun e w' => e = .returned (.int .i64 (sizeI (readS s))) ∧ Below w.heap.size w w' := by
  have C := sread_c s w hl
  go_enter Try.func15, Try.ntmps15
  go_wp2_with fail
  refine C.mono ?_
  clear C
  rcases hr : readS s with _ | t
  · rintro e w1 ⟨rfl, hb1⟩
    have HR := Lib.hid hr
    clear hr
    unfold zeroTm
    go_wp2_with fail
    go_ret
    exact ⟨by rw [HR.out]; rfl, hb1.alloc hb1.size _⟩
  · rintro e w1 ⟨v, rfl, hb1, hrep⟩
    have hd := readS_depth hr
    have hp := readS_parts hr
    have HR := Lib.hid hr
    clear hr
    obtain ⟨x, y, st, aa, l, cc, rfl⟩ := hrep.junk
    have D := each_c 1000 t w1.heap.size _ (w1.alloc (.cells #[.int .u8 x, .int .i64 y, .string st, .slice aa l cc] 35)) (by omega) (by omega) (hrep.keep (fun g' hg' => Below.heap_alloc _ _ _ hg'.2) (fun g' hg' => hg'.2)) (by simp)
    have D2 := D.mono (R' := fun e w2 => ∃ g cap, e = .returned (.slice (some ⟨g, 0, none⟩) (parts t).length cap) ∧ Below (w1.alloc (.cells #[.int .u8 x, .int .i64 y, .string st, .slice aa l cc] 35)).heap.size (w1.alloc (.cells #[.int .u8 x, .int .i64 y, .string st, .slice aa l cc] 35)) w2)
      (by
        rintro e w2 ⟨v2, xs2, rfl, hb2, hown2, hv2, hrep2⟩
        obtain ⟨g2, cap2, rfl⟩ := own_shape hown2 hv2
        exact ⟨g2, cap2, rfl, hb2⟩)
    clear D hrep
    go_wp2_with (go_at_call 38; refine D2.mono ?_; clear D2; rintro e w2 ⟨g2, cap2, rfl, hb2⟩)
    go_ret
    exact ⟨by rw [HR.out]; rfl, (hb1.alloc hb1.size _).trans (hb2.mono (by have := hb1.size; simp; omega))⟩

theorem cell_at_v {W : World} {B : Nat} {v : Value} {t : TypeId} (h : W.heap[B]? = some (.cells #[v] t (0, 0))) : W.cell? ⟨B, 0, none⟩ = some v ∧ W.frozen? ⟨B, 0, none⟩ = false := by
  constructor <;> simp [World.cell?, World.frozen?, h]
theorem cell_new_v (W : World) (v : Value) (t : TypeId) : (W.alloc (.cells #[v] t)).cell? ⟨W.heap.size, 0, none⟩ = some v ∧ (W.alloc (.cells #[v] t)).frozen? ⟨W.heap.size, 0, none⟩ = false := cell_at_v (World.alloc_heap_new W _)
/-- All blocks but one. -/
theorem told_one (b n₀ : Nat) (h : b < n₀) : Told n₀ (fun _ j => j = b) := ⟨fun _ _ _ _ _ h => h, fun A hn j hj => by subst hj; omega⟩
theorem keep_putObj (b : Nat) (W : World) (l : Nat) (o o' : Obj) (h : W.heap[l]? = some o) (ho : o.isCells = false) : KeepT (fun _ j => j = b) W (W.putObj l o') := by
  have hg := grownBy_putObj' W l o'
  refine ⟨hg.size, fun j oj hj hc _ => ?_, fun j hj => .inl hj⟩
  have hlt : j < W.heap.size := (Array.getElem?_eq_some_iff.1 hj).1
  refine (hg.block j hlt (fun e => ?_)).trans hj
  injection e with e
  subst e
  rw [h] at hj
  injection hj with hj
  subst hj
  rw [ho] at hc
  cases hc
theorem keep_setCell (b i : Nat) (W : World) (v : Value) : KeepT (fun _ j => j = b) W (W.setCell ⟨b, i, none⟩ v) :=
  ⟨(KeepsOthers.setCell W _ v).size, fun j o hj _ hne => (Below.heap_setCell W ⟨b, i, none⟩ v j hne).trans hj, fun j hj => .inl hj⟩
set_option maxRecDepth 100000 in
set_option maxHeartbeats 2000000 in
theorem iSizeOf_c (s : Text) (w : World) (hl : s.length ≤ 9223372036854775807) :
    Calls Try.prog 16 #[.string ⟨s.toArray⟩] w fun e w' => e = .returned (.int .i64 (sizeI (readT s))) ∧ Below w.heap.size w w' := by
  have C := read_c s w hl
  refine (callsIn_wide (n := 9)).1 ?_
  refine callsIn_of_wp_marks Try.func16 rfl trivial ?_ rfl
  simp only [Try.ntmps16, List.size_toArray, List.length_cons, List.length_nil, Nat.reduceAdd, Nat.reduceSub, Array.replicate_succ, Array.replicate_zero, List.push_toArray, List.append_toArray, List.nil_append, List.cons_append]
  gi_wp2_with (refine ⟨trivial, ?_⟩; gi_at_call 37; refine (callsIn_wide.2 C).mono ?_; clear C)
  rcases hr : readT s with _ | t
  · rintro e w1 ⟨rfl, hb1⟩
    have HR := Lib.hid hr
    clear hr
    gi_wp2
    exact ⟨_, results_tmp rfl _ _ _, by rw [HR.out]; rfl, hb1⟩
  · rintro e w1 ⟨rfl, hb1⟩
    have hp := readS_parts (readS_eq s ▸ hr)
    have HR := Lib.hid hr
    clear hr
    have P := partsOf_c 8 t (w1.alloc (.cells #[.int .i64 0] 3))
    rw [enc_ty t] at P ⊢
    gi_wp2_with (refine ⟨trivial, ?_⟩; gi_at_call 39; refine P.mono ?_; clear P; rintro e w2 ⟨rfl, rfl⟩)
    have hs := cell_new_v w1 (.int .i64 0) 3
    have hb := cell_new_v (w1.alloc (.cells #[.int .i64 0] 3)) (.iface (ty t) (pl t)) 39
    rw [World.size_alloc] at hb
    have hsz := hb1.size
    have hB0 : Below w.heap.size w ((w1.alloc (.cells #[.int .i64 0] 3)).alloc (.cells #[.iface (ty t) (pl t)] 39)) := (hb1.alloc hsz _).alloc (by simp; omega) _
    refine wpIn_rangeFunc_ownF rfl (by decide) (gf := 58) (lb := #[.pointer (some ⟨w1.heap.size + 1, 0, none⟩)]) rfl trivial (enters_of Try.func58 (by kernel_rfl) rfl)
      (parts_stops 8 (w1.heap.size + 1) (w1.heap.size + 1) (fun _ j => j = w1.heap.size) (told_one _ _ (Nat.lt_succ_self _)) t _ (by simp) (by simp) (by rw [enc_ty t]; exact hb.1)) KeepT.trans (fun W l o o' _ h ho _ => keep_putObj w1.heap.size W l o o' h ho) (Below.refl _ _) (fun _ => rfl)
      (fun pre W => (W.cell? ⟨w1.heap.size, 0, none⟩ = some (.int .i64 ((pre.length : Nat) : Int)) ∧ W.frozen? ⟨w1.heap.size, 0, none⟩ = false) ∧ Below w.heap.size w W)
      (fun _ _ _ => False)
      (OwnFrom.and (Own.from (fun s A B row hs hg hr => ⟨cell_kept hs.1 hg hr, (frozen_kept hs.1 hg hr).trans hs.2⟩) _) (ownFrom_below (Nat.le_refl _) (by simp; omega)))
      (fun _ _ _ _ _ hs _ _ => hs)
      ⟨⟨cell_kept hs.1 (World.grownBy_alloc _ _ none) (fun r e => by cases e), (frozen_kept hs.1 (World.grownBy_alloc _ _ none) (fun r e => by cases e)).trans hs.2⟩, hB0⟩
      (fun x => { tmps := #[.string ⟨s.toArray⟩, undef, .int .i64 0, .iface (ty t) (pl t), .bool true, .pointer (some ⟨w1.heap.size, 0, none⟩), .tuple #[.iface (ty t) (pl t), .bool true], .string ⟨s.toArray⟩, .tuple #[.iface (ty t) (pl t), .bool true], .iface (ty t) (pl t), .bool true, .bool true, .bool false, .iface (ty t) (pl t), .func (.func 58) #[] #[.pointer (some ⟨w1.heap.size + 1, 0, none⟩)], enc x, undef, undef, undef], defers := [] }) ?assign ?body ?done ?stop
    case assign =>
      intro l x W K hK
      have ez : (#[15] : Array Tmp).zip #[enc x] = #[(15, enc x)] := by simp
      gi_wp2
      rw [ez]
      exact hK
    case body =>
      rintro l pre x W ⟨⟨hc, hf⟩, hB⟩ hlt
      have hN : pre.length < 120 := by omega
      gi_wp2
      exact ⟨KeepsOthers.setCell _ _ _, keep_setCell _ _ _ _, ⟨by rw [World.cell?_setCell_same' _ _ _ (by rw [hc]; rfl)]; simp [List.length_append], by rw [World.frozen?_setCell]; exact hf⟩, hB.setCell (p := ⟨w1.heap.size, 0, none⟩) hsz _⟩
    case done =>
      rintro D ys W hD rfl ⟨⟨hc, _⟩, hB⟩ hK
      gi_wp2
      refine ⟨by simp, .inl ⟨_, _, rfl, run_takeDeferred hK, ?_⟩⟩
      exact ⟨_, results_tmp rfl _ _ _, by rw [HR.out]; rfl, hB.trans (belowK_b (w := w) (Nat.le_refl _) W D _ _ (by simp at hD; omega) hK rfl rfl)⟩
    case stop =>
      rintro D c pre W _ _ h _
      exact h.elim

set_option maxHeartbeats 1000000 in
theorem law_size (s : Text) (w : World) (hl : s.length ≤ 9223372036854775807) :
    Calls Try.prog 4 #[.string ⟨s.toArray⟩] w fun e w' => e = .returned (.bool true) ∧ Below w.heap.size w w' := by
  by_cases h : s.length ≤ 1048576
  · have h2 : (s.length : Int) ≤ 1048576 := by omega
    go_enter Try.func4, Try.ntmps4
    go_wp2_with fail
    refine (sSizeOf_c s _ hl).mono ?_
    rintro e w1 ⟨rfl, hb1⟩
    go_wp2_with fail
    refine (iSizeOf_c s _ hl).mono ?_
    rintro e w2 ⟨rfl, hb2⟩
    rw [readS_eq]
    generalize sizeI (readT s) = B
    go_wp2_with fail
    go_ret
    exact ⟨rfl, hb1.trans (hb2.mono hb1.size)⟩
  · have h2 : 1048576 < (s.length : Int) := by omega
    go_enter Try.func4, Try.ntmps4
    go_wp2_with fail
    go_ret
    exact ⟨rfl, Below.refl _ _⟩
end Go.Proofs.Ytpiahmdgkmkhiaa
