import Derived.Test.YtojbffiffcfblaaGreatPuG
import Derived.Deep.RegionHeld3
/- The program's putting: into a term. Written by genPh.py. -/
namespace Go.Proofs.YtojbffiffcfblaaGreat
open Go.RowKit
open Ff
set_option linter.unusedVariables false
attribute [local go_sem] Oper.semAt_some

/-- Where a box of a putting lies, and what is below. -/
abbrev BoxS (w W1 : World) (x : UInt8) (un : TypeId) (uv : Value) (b : Nat) (w' : World) : Prop := w'.cell? ⟨w.heap.size, 0, none⟩ = some (bv x) ∧ w'.cell? ⟨w.heap.size, 1, none⟩ = some (.iface un uv) ∧ w'.cell? ⟨w.heap.size, 2, none⟩ = some (.map (some b)) ∧ Below W1.heap.size W1 w'
theorem BoxS.keep {w W1 : World} {x : UInt8} {un : TypeId} {uv : Value} {b : Nat} {W W' : World} (h : BoxS w W1 x un uv b W) (hl : w.heap.size < W1.heap.size) (hb : Below W.heap.size W W') : BoxS w W1 x un uv b W' := by
  obtain ⟨h0, h1, h2, h3⟩ := h
  have hw : w.heap.size < W.heap.size := by have := h3.size; omega
  exact ⟨(hb.cell (p := ⟨w.heap.size, 0, none⟩) hw).trans h0, (hb.cell (p := ⟨w.heap.size, 1, none⟩) hw).trans h1, (hb.cell (p := ⟨w.heap.size, 2, none⟩) hw).trans h2, h3.trans (hb.mono h3.size)⟩
theorem var_shape (t : Tm) : ∃ z : Int, varV t = .agg #[.int .u8 z] := by
  cases t <;> exact ⟨_, rfl⟩
/-- The kids of a part that binds the name itself. -/
def rsB (n : Nat) (x : UInt8) (u t : Tm) : List (Tm × Bool) := t.kids.dropLast.map (subS n x u) ++ [(lastK t, true)]
theorem rsB_len (n : Nat) (x : UInt8) (u t : Tm) (h : t.kids ≠ []) : (rsB n x u t).length = t.kids.length := by
  have := List.length_pos_iff.2 h
  simp [rsB]; omega
theorem rsB_at (n : Nat) (x : UInt8) (u t : Tm) (h : t.kids ≠ []) {k : Nat} {s : Tm} {q : Tm × Bool} (hs : t.kids[k]? = some s) (hq : (rsB n x u t)[k]? = some q) : (k + 1 = t.kids.length ∧ q = (s, true)) ∨ (k + 1 ≠ t.kids.length ∧ q = subS n x u s) := by
  have hl := List.length_pos_iff.2 h
  have hk := (List.getElem?_eq_some_iff.1 hs).1
  unfold rsB at hq
  by_cases e : k + 1 = t.kids.length
  · refine .inl ⟨e, ?_⟩
    rw [List.getElem?_append_right (by simp; omega)] at hq
    simp only [List.length_map, List.length_dropLast, show k - (t.kids.length - 1) = 0 by omega, List.getElem?_cons_zero, Option.some.injEq] at hq
    rw [← hq]
    unfold lastK
    rw [List.getLast?_eq_getElem?, show t.kids.length - 1 = k by omega, hs]; rfl
  · refine .inr ⟨e, ?_⟩
    rw [List.getElem?_append_left (by simp; omega)] at hq
    simp only [List.getElem?_map, List.getElem?_dropLast] at hq
    rw [if_pos (by omega), hs] at hq
    simpa using hq.symm
set_option maxRecDepth 100000 in
set_option maxHeartbeats 4000000 in
theorem into_var (n : Nat) (x : UInt8) (u : Tm) (b : Nat) (w : World) :
    Calls Tryz.prog 64 #[putV x u b, enc (.var x)] w (SubP (subS (n + 1) x u (.var x)) w) := by
  have a0 := ta_var (.var x)
  obtain ⟨un, uv, huv⟩ := enc_gen u
  have HU := Lib.hid huv
  simp only [ty, pl, varV, isVar] at a0
  unfold putV
  rw [huv]
  simp only [enc]
  clear huv
  go_enter Tryz.func64, Tryz.ntmps64
  go_wp2_with fail
  go_ret
  refine ⟨.inl ⟨rfl, ?_⟩, ((Below.refl _ w).alloc (Nat.le_refl _) _).alloc (by simp) _⟩
  simp only [subS, if_true]
  rw [HU.out]
  rfl
set_option maxRecDepth 100000 in
set_option maxHeartbeats 8000000 in
theorem iinto_bound (n : Nat) (ih : IntoC n) (x : UInt8) (u t : Tm) (b m : Nat) (w : World) (ht : t.depth ≤ n + 1) (hn : n + 1 ≤ 4000) (hg : t.good) (hu : u.good) (hpu : (parts u).length ≤ 4000) (hp : (parts t).length ≤ 4000 ∨ sfree u = []) (hT : Tally w b m (cntF u)) (hm : m ≤ 4000) (hvar : t ≠ .var x) (hx : x ∈ bindsOf t) :
    Calls Tryz.prog 64 #[putV x u b, enc t] w (SubP (subS (n + 1) x u t) w) := by
  have a0 := ta_var t
  obtain ⟨z, hz⟩ := var_shape t
  have hzx : isVar t = true → (z == (x.toNat : Int)) = false := by
    intro h
    cases t with
    | var c =>
      simp only [varV, pl, Value.agg.injEq, Array.mk.injEq, List.cons.injEq, Value.int.injEq, true_and, and_true] at hz
      rw [← hz, beq_eq_false_iff_ne]
      intro e
      exact hvar (by rw [UInt8.toNat_inj.1 (by omega : c.toNat = x.toNat)])
    | _ => simp [isVar] at h
  rw [hz] at a0
  have KB := fun w' => boundBy_c t hg w'
  have hlen := binds_len t
  have KC := fun a w' h => containsB_c (bindsOf t) x a (bindsOf t).length w' (by omega) h
  rw [decide_eq_true hx] at KC
  have hdk : ∀ s ∈ t.kids, s.depth ≤ n := fun s hs => by have := kid_depth hs; omega
  have hpk : ∀ s ∈ t.kids, (parts s).length ≤ 4000 ∨ sfree u = [] := fun s hs => hp.imp (fun h => Nat.le_trans (parts_kid_le hs) h) id
  have hbn : bindsOf t ≠ [] := fun e => by rw [e] at hx; cases hx
  have hkids := binder_kids hbn
  have hsub := into_bound n x u t hx
  change subS (n + 1) x u t = (reTm t (bindsOf t) ((rsB n x u t).map (·.1)), (rsB n x u t).all (·.2)) at hsub
  have HSB := Lib.hid hsub
  clear hsub
  obtain ⟨un, uv, huv⟩ := enc_gen u
  have HU := Lib.hid huv
  rw [enc_ty t] at KB ⊢
  unfold putV
  rw [huv]
  generalize hff : isVar t = f at a0 hzx
  clear hz hvar hff
  have zz := World.alloc_heap_new w (.cells #[bv x, .iface un uv, .map (some b)] 106)
  have hs0 : w.heap.size < (w.alloc (.cells #[bv x, .iface un uv, .map (some b)] 106)).heap.size := by simp
  have hB0 := (Below.refl _ w).alloc (Nat.le_refl _) (.cells #[bv x, .iface un uv, .map (some b)] 106)
  have hT0 := hT.alloc (.cells #[bv x, .iface un uv, .map (some b)] 106)
  go_enter Tryz.func64, Tryz.ntmps64
  cases f
  all_goals simp only [Bool.false_eq_true, false_implies, true_implies] at hzx
  all_goals go_wp2_with fail
  all_goals
    have hB1 : Below w.heap.size w ((w.alloc (.cells #[bv x, .iface un uv, .map (some b)] 106)).alloc (.cells #[.int .u8 z] 94)) := hB0.alloc (by simp) _
    have hT1 : Tally ((w.alloc (.cells #[bv x, .iface un uv, .map (some b)] 106)).alloc (.cells #[.int .u8 z] 94)) b m (cntF u) := hT0.alloc _
    have z1 := (((Below.refl _ (w.alloc (.cells #[bv x, .iface un uv, .map (some b)] 106))).alloc (Nat.le_refl _) (.cells #[.int .u8 z] 94)).block _ hs0).trans zz
    have hs1 : w.heap.size < ((w.alloc (.cells #[bv x, .iface un uv, .map (some b)] 106)).alloc (.cells #[.int .u8 z] 94)).heap.size := by simp; omega
    obtain ⟨p0, p1, p2, pf⟩ := three_of z1
    generalize hW1 : (w.alloc (.cells #[bv x, .iface un uv, .map (some b)] 106)).alloc (.cells #[.int .u8 z] 94) = W1 at *
    clear zz hs0 hB0 hT0 z1 a0
    have q0 : W1.drew.cell? ⟨w.heap.size, 0, none⟩ = some (bv x) := p0
    have q1 : W1.drew.cell? ⟨w.heap.size, 1, none⟩ = some (.iface un uv) := p1
    have q2 : W1.drew.cell? ⟨w.heap.size, 2, none⟩ = some (.map (some b)) := p2
    have qB : Below W1.heap.size W1 W1.drew := (Below.refl _ W1).drew
    have KB1 : ∀ W, BoxS w W1 x un uv b W → Calls Tryz.prog 57 #[.iface (ty t) (pl t)] W fun e W' => ∃ a, e = .returned (.slice a (bindsOf t).length (bindsOf t).length) ∧ RowAt W' a ((bindsOf t).map bv) ∧ BoxS w W1 x un uv b W' :=
      fun W hS => (KB W).mono fun e W' ⟨v, h1, h2, h3⟩ => by
        obtain ⟨a, rfl, hr⟩ := h2.row
        exact ⟨a, by rw [h1, List.length_map], hr, hS.keep hs1 h3⟩
    have KC1 : ∀ a W, RowAt W a ((bindsOf t).map bv) → BoxS w W1 x un uv b W → Calls Tryz.prog 90 #[.slice a (bindsOf t).length (bindsOf t).length, bv x] W fun e W' => e = .returned (.bool true) ∧ BoxS w W1 x un uv b W' :=
      fun a W hr hS => (KC a W hr).mono fun e W' ⟨h1, h2⟩ => ⟨h1, h2 ▸ hS⟩
    clear KB KC
    go_region_held3 (fun w' => w'.cell? ⟨w.heap.size, 0, none⟩ = some (bv x) ∧ w'.cell? ⟨w.heap.size, 1, none⟩ = some (.iface un uv) ∧ w'.cell? ⟨w.heap.size, 2, none⟩ = some (.map (some b)) ∧ Below W1.heap.size W1 w')
      (first | go_keep | refine ⟨?_, ?_, ?_, ?_⟩ <;> assumption)
      (first | (go_at_call 57; refine (KB1 _ ?_).mono ?_; (refine ⟨?_, ?_, ?_, ?_⟩ <;> assumption); rintro e w2 ⟨a2, rfl, hr2, h0, h1, h2, h3⟩) | (go_at_call 90; refine (KC1 _ _ ?_ ?_).mono ?_; assumption; (refine ⟨?_, ?_, ?_, ?_⟩ <;> assumption); rintro e w3 ⟨rfl, g0, g1, g2, g3⟩))
  all_goals go_wp2_with fail
  all_goals
    have hrl := rsB_len n x u t hkids
    have hvis : ∀ k s r, t.kids[k]? = some s → (rsB n x u t)[k]? = some r → Visits W1.heap.size W1 (if k + 1 = t.kids.length then (.func (.func 91) #[] #[] : Value) else (.func (.func 64) #[.agg #[bv x, .iface un uv, .map (some b)]] #[] : Value)) s r := by
      intro k s r hs hr
      have hmem := List.mem_of_getElem? hs
      rcases rsB_at n x u t hkids hs hr with ⟨h1, rfl⟩ | ⟨h1, rfl⟩
      · rw [if_pos h1]; exact visits_itself _ _ _
      · rw [if_neg h1, ← HU.out]
        exact visits_into ih _ _ x u s b m (hdk s hmem) (by omega) (Tm.kid_good hg hmem) hu hpu (hpk s hmem) hT1 hm hT1.lt
    obtain ⟨RT, hRT⟩ : ∃ RT, reTm t (bindsOf t) ((rsB n x u t).map (·.1)) = RT := ⟨_, rfl⟩
    have HW := Lib.hid hB1
    have d3 := Below.drew g3
    have d0 : w3.drew.cell? ⟨w.heap.size, 0, none⟩ = some (bv x) := g0
    have d1 : w3.drew.cell? ⟨w.heap.size, 1, none⟩ = some (.iface un uv) := g1
    have d2 : w3.drew.cell? ⟨w.heap.size, 2, none⟩ = some (.map (some b)) := g2
    have KBo : ∀ W, BoxS w W1 x un uv b W → Calls Tryz.prog 57 #[.iface (ty (t)) (pl (t))] W fun e W' => ∃ a, e = .returned (.slice a (bindsOf (t)).length (bindsOf (t)).length) ∧ RowAt W' a ((bindsOf (t)).map bv) ∧ Below W.heap.size W W' ∧ BoxS w W1 x un uv b W' :=
      fun W hS => by
        have K := boundBy_c (t) hg W
        rw [enc_ty] at K
        exact K.mono fun e W' ⟨v, h1, h2, h3⟩ => by
          obtain ⟨a, rfl, hr⟩ := h2.row
          exact ⟨a, by rw [h1, List.length_map], hr, h3, hS.keep hs1 h3⟩
    have KVo : ∀ W, BoxS w W1 x un uv b W → Calls Tryz.prog 83 #[.iface (ty (t)) (pl (t)), .func (.func 64) #[.agg #[bv x, .iface un uv, .map (some b)]] #[], .func (.func 91) #[] #[]] W fun e W' => Below W.heap.size W W' ∧ (((rsB n x u t).all (·.2) = true ∧ ∃ a cap, e = .returned (.slice a (rsB n x u t).length cap) ∧ RowAt W' a ((rsB n x u t).map fun r => enc r.1)) ∨ ((rsB n x u t).all (·.2) = false ∧ e = .panicked shortP)) :=
      fun W hS => by
        have K := visitKids_c (t) (.func (.func 64) #[.agg #[bv x, .iface un uv, .map (some b)]] #[]) (.func (.func 91) #[] #[]) (rsB n x u t) W1.heap.size W1 W hrl hS.2.2.2 hS.2.2.2.size hvis
        rw [enc_ty] at K
        exact K
    have KRo : ∀ an ak cn ck W, RowAt W an ((bindsOf (t)).map bv) → RowAt W ak ((rsB n x u t).map fun r => enc r.1) → Calls Tryz.prog 82 #[.iface (ty (t)) (pl (t)), .slice an (bindsOf (t)).length cn, .slice ak (rsB n x u t).length ck] W fun e W' => e = .returned (.iface (ty RT) (pl RT)) ∧ Below W.heap.size W W' :=
      fun an ak cn ck W h1 h2 => by
        have K := remade_c (t) hg (bindsOf (t)) ((rsB n x u t).map (·.1)) rfl (by rw [List.length_map]; exact hrl) an ak cn ck W h1 (by rw [List.map_map]; exact h2)
        rw [enc_ty, enc_ty, List.length_map] at K
        rw [← hRT]
        exact K
    have HRT := Lib.hid hRT
    clear hRT hrl hvis
    generalize hlr : (rsB n x u t).length = lr at KVo KRo
    cases hall : (rsB n x u t).all (·.2)
    · have HAL := Lib.hid hall
      rw [hall] at KVo
      have KV1 : ∀ W, BoxS w W1 x un uv b W → Calls Tryz.prog 83 #[.iface (ty (t)) (pl (t)), .func (.func 64) #[.agg #[bv x, .iface un uv, .map (some b)]] #[], .func (.func 91) #[] #[]] W fun e W' => e = .panicked shortP ∧ Below W.heap.size W W' := fun W hS => (KVo W hS).mono fun e W' ⟨h1, h2⟩ => by
        rcases h2 with ⟨h2, _⟩ | ⟨_, h2⟩
        · cases h2
        · exact ⟨h2, h1⟩
      clear KVo hall
      go_region_held (fun w' => w'.cell? ⟨w.heap.size, 0, none⟩ = some (bv x) ∧ w'.cell? ⟨w.heap.size, 1, none⟩ = some (.iface un uv) ∧ w'.cell? ⟨w.heap.size, 2, none⟩ = some (.map (some b)) ∧ Below W1.heap.size W1 w')
        (first | go_keep | refine ⟨?_, ?_, ?_, ?_⟩ <;> assumption)
        (first | (go_at_call 57; refine (KBo _ ?_).mono ?_; (refine ⟨?_, ?_, ?_, ?_⟩ <;> assumption); rintro e w6 ⟨a6, rfl, hr6, hb6, h0, h1, h2, h3⟩) | (go_at_call 83; refine (KV1 _ ?_).mono ?_; (refine ⟨?_, ?_, ?_, ?_⟩ <;> assumption); rintro e7 w7 ⟨he7, hb7⟩; rcases e7 with v7 | c7 | _; rotate_left; (injection he7 with he7; subst he7; exact ⟨rfl, .inr ⟨by rw [HSB.out]; exact HAL.out, rfl⟩, HW.out.trans ((Below.trans (by assumption : Below W1.heap.size W1 _) (hb7.mono (Below.size (by assumption : Below W1.heap.size W1 _)))).mono HW.out.size)⟩); (cases he7); have hF : RowKit.Hid False := Lib.hid (by cases he7); obtain ⟨a7, c7, rfl⟩ : ∃ a c, v7 = .slice a lr c := hF.out.elim; have hr7 : RowAt w7 a7 ((rsB n x u t).map fun r => enc r.1) := hF.out.elim; have g0 : w7.cell? ⟨w.heap.size, 0, none⟩ = some (bv x) := hF.out.elim; have g1 : w7.cell? ⟨w.heap.size, 1, none⟩ = some (.iface un uv) := hF.out.elim; have g2 : w7.cell? ⟨w.heap.size, 2, none⟩ = some (.map (some b)) := hF.out.elim; have g3 : Below W1.heap.size W1 w7 := hF.out.elim; clear he7) | (go_at_call 82; refine (KRo _ _ _ _ _ ?_ ?_).mono ?_; (first | exact hr6 | exact hr6.keep hb7); (first | exact hr7 | exact hr7.keep hb6); rintro e w8 ⟨rfl, hb8⟩; obtain ⟨k0, k1, k2, k3⟩ : BoxS w W1 x un uv b w8 := hF.out.elim))
      all_goals exact hF.out.elim
    · have HAL := Lib.hid hall
      rw [hall] at KVo
      have KV1 : ∀ W, BoxS w W1 x un uv b W → Calls Tryz.prog 83 #[.iface (ty (t)) (pl (t)), .func (.func 64) #[.agg #[bv x, .iface un uv, .map (some b)]] #[], .func (.func 91) #[] #[]] W fun e W' => ∃ a cap, e = .returned (.slice a lr cap) ∧ RowAt W' a ((rsB n x u t).map fun r => enc r.1) ∧ Below W.heap.size W W' ∧ BoxS w W1 x un uv b W' := fun W hS => (KVo W hS).mono fun e W' ⟨h1, h2⟩ => by
        rcases h2 with ⟨_, a, cap, h2, h3⟩ | ⟨h2, _⟩
        · exact ⟨a, cap, h2, h3, h1, hS.keep hs1 h1⟩
        · cases h2
      clear KVo hall
      go_region_held3 (fun w' => w'.cell? ⟨w.heap.size, 0, none⟩ = some (bv x) ∧ w'.cell? ⟨w.heap.size, 1, none⟩ = some (.iface un uv) ∧ w'.cell? ⟨w.heap.size, 2, none⟩ = some (.map (some b)) ∧ Below W1.heap.size W1 w')
        (first | go_keep | refine ⟨?_, ?_, ?_, ?_⟩ <;> assumption)
        (first | (go_at_call 57; refine (KBo _ ?_).mono ?_; (refine ⟨?_, ?_, ?_, ?_⟩ <;> assumption); rintro e w6 ⟨a6, rfl, hr6, hb6, h0, h1, h2, h3⟩) | (go_at_call 83; refine (KV1 _ ?_).mono ?_; (refine ⟨?_, ?_, ?_, ?_⟩ <;> assumption); rintro e w7 ⟨a7, c7, rfl, hr7, hb7, g0, g1, g2, g3⟩) | (go_at_call 82; refine (KRo _ _ _ _ _ ?_ ?_).mono ?_; (first | exact hr6 | exact hr6.keep hb7); (first | exact hr7 | exact hr7.keep hb6); rintro e w8 ⟨rfl, hb8⟩; have h38 := Below.trans (by assumption : Below W1.heap.size W1 _) (hb8.mono (Below.size (by assumption : Below W1.heap.size W1 _))); have hk8 : BoxS w W1 x un uv b w8 := BoxS.keep (by first | exact ⟨h0, h1, h2, h3⟩ | exact ⟨g0, g1, g2, g3⟩) hs1 hb8; obtain ⟨k0, k1, k2, k3⟩ := hk8))
      all_goals go_wp2_with fail
      all_goals go_ret
      all_goals exact ⟨.inl ⟨by rw [HSB.out]; exact HAL.out, by rw [HSB.out, HRT.out, enc_ty]; rfl⟩, HW.out.trans (h38.mono HW.out.size)⟩
end Go.Proofs.YtojbffiffcfblaaGreat
