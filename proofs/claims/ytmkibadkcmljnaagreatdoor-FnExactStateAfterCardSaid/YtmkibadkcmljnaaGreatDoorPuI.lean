import Derived.Test.YtmkibadkcmljnaaGreatDoorMPg
/- The program's putting: into a term whose part does not bind the name. Written by genPh.py. -/
namespace Go.Proofs.YtmkibadkcmljnaaGreatDoor
open Go.RowKit
open Ff
set_option linter.unusedVariables false
attribute [local go_sem] Oper.semAt_some

set_option maxRecDepth 100000 in
set_option maxHeartbeats 8000000 in
theorem iinto_open (n : Nat) (ih : IntoC n) (x : UInt8) (u t : Tm) (b m : Nat) (w : World) (ht : t.depth ≤ n + 1) (hn : n + 1 ≤ 4000) (hg : t.good) (hu : u.good) (hpu : (parts u).length ≤ 4000) (hp : (parts t).length ≤ 4000 ∨ sfree u = []) (hT : Tally w b m (cntF u)) (hm : m ≤ 4000) (hvar : t ≠ .var x) (hx : x ∉ bindsOf t) :
    Calls Tryz.prog 111 #[putV x u b, enc t] w (SubP (subS (n + 1) x u t) w) := by
  have a0 := ta_var t
  obtain ⟨z, hz⟩ := var_shape t
  have hzx : isVar t = true → (z == (x.toNat : Int)) = false := by
    intro h
    cases t with
    | var c =>
      simp only [varV, pl, Value.agg.injEq, Array.mk.injEq, List.cons.injEq, Value.int.injEq, true_and, and_true] at hz
      rw [← hz, beq_eq_false_iff_ne]
      intro e
      exact hvar (by rw [UInt8.toNat_inj.1 (by omega : c.toNat = x.toNat)])
    | _ => simp [isVar] at h
  rw [hz] at a0
  have KB := fun w' => boundBy_c t hg w'
  have hlen := binds_len t
  have KC := fun a w' h => containsB_c (bindsOf t) x a (bindsOf t).length w' (by omega) h
  rw [decide_eq_false hx] at KC
  have hdk : ∀ s ∈ t.kids, s.depth ≤ n := fun s hs => by have := kid_depth hs; omega
  have hpk : ∀ s ∈ t.kids, (parts s).length ≤ 4000 ∨ sfree u = [] := fun s hs => hp.imp (fun h => Nat.le_trans (parts_kid_le hs) h) id
  obtain ⟨io1, io2⟩ := into_open n x u t hx hvar
  have OK := open_ok n x u t hg hp hdk
  have HIO1 := Lib.hid io1
  have HIO2 := Lib.hid io2
  have htd : t.depth ≤ 4000 := by omega
  have KO := fun w' (h : Tally w' b m (cntF u)) => opened_c n ih x u t b m w' hg hu hpu hp hdk (by omega) h hm htd
  clear io1 io2
  obtain ⟨un, uv, huv⟩ := enc_gen u
  have HU := Lib.hid huv
  rw [enc_ty t] at KB ⊢
  unfold putV
  rw [huv]
  generalize hff : isVar t = f at a0 hzx
  clear hz hvar hff
  have zz := World.alloc_heap_new w (.cells #[bv x, .iface un uv, .map (some b)] 153)
  have hs0 : w.heap.size < (w.alloc (.cells #[bv x, .iface un uv, .map (some b)] 153)).heap.size := by simp
  have hB0 := (Below.refl _ w).alloc (Nat.le_refl _) (.cells #[bv x, .iface un uv, .map (some b)] 153)
  have hT0 := hT.alloc (.cells #[bv x, .iface un uv, .map (some b)] 153)
  go_enter Tryz.func111, Tryz.ntmps111
  cases f
  all_goals simp only [Bool.false_eq_true, false_implies, true_implies] at hzx
  all_goals go_wp2_with fail
  all_goals
    have hB1 : Below w.heap.size w ((w.alloc (.cells #[bv x, .iface un uv, .map (some b)] 153)).alloc (.cells #[.int .u8 z] 104)) := hB0.alloc (by simp) _
    have hT1 : Tally ((w.alloc (.cells #[bv x, .iface un uv, .map (some b)] 153)).alloc (.cells #[.int .u8 z] 104)) b m (cntF u) := hT0.alloc _
    have z1 := (((Below.refl _ (w.alloc (.cells #[bv x, .iface un uv, .map (some b)] 153))).alloc (Nat.le_refl _) (.cells #[.int .u8 z] 104)).block _ hs0).trans zz
    have hs1 : w.heap.size < ((w.alloc (.cells #[bv x, .iface un uv, .map (some b)] 153)).alloc (.cells #[.int .u8 z] 104)).heap.size := by simp; omega
    obtain ⟨p0, p1, p2, pf⟩ := three_of z1
    generalize hW1 : (w.alloc (.cells #[bv x, .iface un uv, .map (some b)] 153)).alloc (.cells #[.int .u8 z] 104) = W1 at *
    clear zz hs0 hB0 hT0 z1 a0
    have q0 : W1.drew.cell? ⟨w.heap.size, 0, none⟩ = some (bv x) := p0
    have q1 : W1.drew.cell? ⟨w.heap.size, 1, none⟩ = some (.iface un uv) := p1
    have q2 : W1.drew.cell? ⟨w.heap.size, 2, none⟩ = some (.map (some b)) := p2
    have qB : Below W1.heap.size W1 W1.drew := (Below.refl _ W1).drew
    have KB1 : ∀ W, BoxS w W1 x un uv b W → Calls Tryz.prog 60 #[.iface (ty t) (pl t)] W fun e W' => ∃ a, e = .returned (.slice a (bindsOf t).length (bindsOf t).length) ∧ RowAt W' a ((bindsOf t).map bv) ∧ BoxS w W1 x un uv b W' :=
      fun W hS => (KB W).mono fun e W' ⟨v, h1, h2, h3⟩ => by
        obtain ⟨a, rfl, hr⟩ := h2.row
        exact ⟨a, by rw [h1, List.length_map], hr, hS.keep hs1 h3⟩
    have KC1 : ∀ a W, RowAt W a ((bindsOf t).map bv) → BoxS w W1 x un uv b W → Calls Tryz.prog 114 #[.slice a (bindsOf t).length (bindsOf t).length, bv x] W fun e W' => e = .returned (.bool false) ∧ BoxS w W1 x un uv b W' :=
      fun a W hr hS => (KC a W hr).mono fun e W' ⟨h1, h2⟩ => ⟨h1, h2 ▸ hS⟩
    clear KB KC
    go_region_held3 (fun w' => w'.cell? ⟨w.heap.size, 0, none⟩ = some (bv x) ∧ w'.cell? ⟨w.heap.size, 1, none⟩ = some (.iface un uv) ∧ w'.cell? ⟨w.heap.size, 2, none⟩ = some (.map (some b)) ∧ Below W1.heap.size W1 w')
      (first | go_keep | refine ⟨?_, ?_, ?_, ?_⟩ <;> assumption)
      (first | (go_at_call 60; refine (KB1 _ ?_).mono ?_; (refine ⟨?_, ?_, ?_, ?_⟩ <;> assumption); rintro e w2 ⟨a2, rfl, hr2, h0, h1, h2, h3⟩) | (go_at_call 114; refine (KC1 _ _ ?_ ?_).mono ?_; assumption; (refine ⟨?_, ?_, ?_, ?_⟩ <;> assumption); rintro e w3 ⟨rfl, g0, g1, g2, g3⟩))
  all_goals go_wp2_with fail
  all_goals
    have hT3 : Tally w3 b m (cntF u) := hT1.below g3
    have K3 := KO w3 hT3
    unfold putV at K3
    rw [HU.out, enc_ty t] at K3
    have HW := Lib.hid hB1
    refine K3.mono ?_
    clear K3 KO
    rintro e w4 ⟨⟨ho1, rfl⟩ | ⟨ho1, rfl⟩, hb4⟩
    rotate_left
    · exact ⟨rfl, .inr ⟨HIO1.out ho1, rfl⟩, HW.out.trans ((g3.trans (hb4.mono g3.size)).mono HW.out.size)⟩
    have hsub := HIO2.out ho1
    have HSB := Lib.hid hsub
    clear hsub ho1
    obtain ⟨OKg, OKk⟩ := OK
    generalize (openT n x u t).1 = o at HSB OKg OKk ⊢
    rw [enc_ty o]
    obtain ⟨s0, s1, s2, s3⟩ : BoxS w W1 x un uv b w4 := BoxS.keep (show BoxS w W1 x un uv b w3 from ⟨g0, g1, g2, g3⟩) hs1 hb4
    clear g0 g1 g2
    go_wp2_with fail
    have hrl : (rsAll n x u o).length = o.kids.length := by simp [rsAll]
    have hvis : ∀ k s r, o.kids[k]? = some s → (rsAll n x u o)[k]? = some r → Visits W1.heap.size W1 (if k + 1 = o.kids.length then (.func (.func 111) #[.agg #[bv x, .iface un uv, .map (some b)]] #[] : Value) else (.func (.func 111) #[.agg #[bv x, .iface un uv, .map (some b)]] #[] : Value)) s r := by
      intro k s r hs hr
      have hmem := List.mem_of_getElem? hs
      unfold rsAll at hr
      rw [List.getElem?_map, hs] at hr
      simp only [Option.map_some, Option.some.injEq] at hr
      subst hr
      rw [ite_self, ← HU.out]
      exact visits_into ih _ _ x u s b m (OKk s hmem).1 (by omega) (Tm.kid_good OKg hmem) hu hpu (OKk s hmem).2 hT1 hm hT1.lt
    obtain ⟨RT, hRT⟩ : ∃ RT, reTm o (bindsOf o) ((rsAll n x u o).map (·.1)) = RT := ⟨_, rfl⟩
    have d3 := Below.drew s3
    have d0 : w4.drew.cell? ⟨w.heap.size, 0, none⟩ = some (bv x) := s0
    have d1 : w4.drew.cell? ⟨w.heap.size, 1, none⟩ = some (.iface un uv) := s1
    have d2 : w4.drew.cell? ⟨w.heap.size, 2, none⟩ = some (.map (some b)) := s2
    have KBo : ∀ W, BoxS w W1 x un uv b W → Calls Tryz.prog 60 #[.iface (ty (o)) (pl (o))] W fun e W' => ∃ a, e = .returned (.slice a (bindsOf (o)).length (bindsOf (o)).length) ∧ RowAt W' a ((bindsOf (o)).map bv) ∧ Below W.heap.size W W' ∧ BoxS w W1 x un uv b W' :=
      fun W hS => by
        have K := boundBy_c (o) OKg W
        rw [enc_ty] at K
        exact K.mono fun e W' ⟨v, h1, h2, h3⟩ => by
          obtain ⟨a, rfl, hr⟩ := h2.row
          exact ⟨a, by rw [h1, List.length_map], hr, h3, hS.keep hs1 h3⟩
    have KVo : ∀ W, BoxS w W1 x un uv b W → Calls Tryz.prog 115 #[.iface (ty (o)) (pl (o)), .func (.func 111) #[.agg #[bv x, .iface un uv, .map (some b)]] #[], .func (.func 111) #[.agg #[bv x, .iface un uv, .map (some b)]] #[]] W fun e W' => Below W.heap.size W W' ∧ (((rsAll n x u o).all (·.2) = true ∧ ∃ a cap, e = .returned (.slice a (rsAll n x u o).length cap) ∧ RowAt W' a ((rsAll n x u o).map fun r => enc r.1)) ∨ ((rsAll n x u o).all (·.2) = false ∧ e = .panicked shortP)) :=
      fun W hS => by
        have K := visitKids_c (o) (.func (.func 111) #[.agg #[bv x, .iface un uv, .map (some b)]] #[]) (.func (.func 111) #[.agg #[bv x, .iface un uv, .map (some b)]] #[]) (rsAll n x u o) W1.heap.size W1 W hrl hS.2.2.2 hS.2.2.2.size hvis
        rw [enc_ty] at K
        exact K
    have KRo : ∀ an ak cn ck W, RowAt W an ((bindsOf (o)).map bv) → RowAt W ak ((rsAll n x u o).map fun r => enc r.1) → Calls Tryz.prog 86 #[.iface (ty (o)) (pl (o)), .slice an (bindsOf (o)).length cn, .slice ak (rsAll n x u o).length ck] W fun e W' => e = .returned (.iface (ty RT) (pl RT)) ∧ Below W.heap.size W W' :=
      fun an ak cn ck W h1 h2 => by
        have K := remade_c (o) OKg (bindsOf (o)) ((rsAll n x u o).map (·.1)) rfl (by rw [List.length_map]; exact hrl) an ak cn ck W h1 (by rw [List.map_map]; exact h2)
        rw [enc_ty, enc_ty, List.length_map] at K
        rw [← hRT]
        exact K
    have HRT := Lib.hid hRT
    clear hRT hrl hvis
    generalize hlr : (rsAll n x u o).length = lr at KVo KRo
    cases hall : (rsAll n x u o).all (·.2)
    · have HAL := Lib.hid hall
      rw [hall] at KVo
      have KV1 : ∀ W, BoxS w W1 x un uv b W → Calls Tryz.prog 115 #[.iface (ty (o)) (pl (o)), .func (.func 111) #[.agg #[bv x, .iface un uv, .map (some b)]] #[], .func (.func 111) #[.agg #[bv x, .iface un uv, .map (some b)]] #[]] W fun e W' => e = .panicked shortP ∧ Below W.heap.size W W' := fun W hS => (KVo W hS).mono fun e W' ⟨h1, h2⟩ => by
        rcases h2 with ⟨h2, _⟩ | ⟨_, h2⟩
        · cases h2
        · exact ⟨h2, h1⟩
      clear KVo hall
      go_region_held (fun w' => w'.cell? ⟨w.heap.size, 0, none⟩ = some (bv x) ∧ w'.cell? ⟨w.heap.size, 1, none⟩ = some (.iface un uv) ∧ w'.cell? ⟨w.heap.size, 2, none⟩ = some (.map (some b)) ∧ Below W1.heap.size W1 w')
        (first | go_keep | refine ⟨?_, ?_, ?_, ?_⟩ <;> assumption)
        (first | (go_at_call 60; refine (KBo _ ?_).mono ?_; (refine ⟨?_, ?_, ?_, ?_⟩ <;> assumption); rintro e w6 ⟨a6, rfl, hr6, hb6, h0, h1, h2, h3⟩) | (go_at_call 115; refine (KV1 _ ?_).mono ?_; (refine ⟨?_, ?_, ?_, ?_⟩ <;> assumption); rintro e7 w7 ⟨he7, hb7⟩; rcases e7 with v7 | c7 | _; rotate_left; (injection he7 with he7; subst he7; exact ⟨rfl, .inr ⟨by rw [HSB.out]; exact HAL.out, rfl⟩, HW.out.trans ((Below.trans (by assumption : Below W1.heap.size W1 _) (hb7.mono (Below.size (by assumption : Below W1.heap.size W1 _)))).mono HW.out.size)⟩); (cases he7); have hF : RowKit.Hid False := Lib.hid (by cases he7); obtain ⟨a7, c7, rfl⟩ : ∃ a c, v7 = .slice a lr c := hF.out.elim; have hr7 : RowAt w7 a7 ((rsAll n x u o).map fun r => enc r.1) := hF.out.elim; have g0 : w7.cell? ⟨w.heap.size, 0, none⟩ = some (bv x) := hF.out.elim; have g1 : w7.cell? ⟨w.heap.size, 1, none⟩ = some (.iface un uv) := hF.out.elim; have g2 : w7.cell? ⟨w.heap.size, 2, none⟩ = some (.map (some b)) := hF.out.elim; have g3 : Below W1.heap.size W1 w7 := hF.out.elim; clear he7) | (go_at_call 86; refine (KRo _ _ _ _ _ ?_ ?_).mono ?_; (first | exact hr6 | exact hr6.keep hb7); (first | exact hr7 | exact hr7.keep hb6); rintro e w8 ⟨rfl, hb8⟩; obtain ⟨k0, k1, k2, k3⟩ : BoxS w W1 x un uv b w8 := hF.out.elim))
      all_goals exact hF.out.elim
    · have HAL := Lib.hid hall
      rw [hall] at KVo
      have KV1 : ∀ W, BoxS w W1 x un uv b W → Calls Tryz.prog 115 #[.iface (ty (o)) (pl (o)), .func (.func 111) #[.agg #[bv x, .iface un uv, .map (some b)]] #[], .func (.func 111) #[.agg #[bv x, .iface un uv, .map (some b)]] #[]] W fun e W' => ∃ a cap, e = .returned (.slice a lr cap) ∧ RowAt W' a ((rsAll n x u o).map fun r => enc r.1) ∧ Below W.heap.size W W' ∧ BoxS w W1 x un uv b W' := fun W hS => (KVo W hS).mono fun e W' ⟨h1, h2⟩ => by
        rcases h2 with ⟨_, a, cap, h2, h3⟩ | ⟨h2, _⟩
        · exact ⟨a, cap, h2, h3, h1, hS.keep hs1 h1⟩
        · cases h2
      clear KVo hall
      go_region_held3 (fun w' => w'.cell? ⟨w.heap.size, 0, none⟩ = some (bv x) ∧ w'.cell? ⟨w.heap.size, 1, none⟩ = some (.iface un uv) ∧ w'.cell? ⟨w.heap.size, 2, none⟩ = some (.map (some b)) ∧ Below W1.heap.size W1 w')
        (first | go_keep | refine ⟨?_, ?_, ?_, ?_⟩ <;> assumption)
        (first | (go_at_call 60; refine (KBo _ ?_).mono ?_; (refine ⟨?_, ?_, ?_, ?_⟩ <;> assumption); rintro e w6 ⟨a6, rfl, hr6, hb6, h0, h1, h2, h3⟩) | (go_at_call 115; refine (KV1 _ ?_).mono ?_; (refine ⟨?_, ?_, ?_, ?_⟩ <;> assumption); rintro e w7 ⟨a7, c7, rfl, hr7, hb7, g0, g1, g2, g3⟩) | (go_at_call 86; refine (KRo _ _ _ _ _ ?_ ?_).mono ?_; (first | exact hr6 | exact hr6.keep hb7); (first | exact hr7 | exact hr7.keep hb6); rintro e w8 ⟨rfl, hb8⟩; have h38 := Below.trans (by assumption : Below W1.heap.size W1 _) (hb8.mono (Below.size (by assumption : Below W1.heap.size W1 _))); have hk8 : BoxS w W1 x un uv b w8 := BoxS.keep (by first | exact ⟨h0, h1, h2, h3⟩ | exact ⟨g0, g1, g2, g3⟩) hs1 hb8; obtain ⟨k0, k1, k2, k3⟩ := hk8))
      all_goals go_wp2_with fail
      all_goals go_ret
      all_goals exact ⟨.inl ⟨by rw [HSB.out]; exact HAL.out, by rw [HSB.out, HRT.out, enc_ty]; rfl⟩, HW.out.trans (h38.mono HW.out.size)⟩
theorem into_c : ∀ n, IntoC n
  | 0 => fun x u t b m w ht => absurd ht (by have := t.depth_pos; omega)
  | n + 1 => by
    intro x u t b m w ht hn hg hu hpu hp hT hm
    by_cases hvar : t = .var x
    · subst hvar; exact into_var n x u b w
    · by_cases hx : x ∈ bindsOf t
      · exact iinto_bound n (into_c n) x u t b m w ht hn hg hu hpu hp hT hm hvar hx
      · exact iinto_open n (into_c n) x u t b m w ht hn hg hu hpu hp hT hm hvar hx
end Go.Proofs.YtmkibadkcmljnaaGreatDoor
