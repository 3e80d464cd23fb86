import Derived.Test.YtefmmgccdpfnaaaGreatDoorMPg
import Derived.Test.YtefmmgccdpfnaaaGreatDoorMTx
import Derived.Test.YtefmmgccdpfnaaaGreatDoorMDp
/- The program's putting: into a term whose part does not bind the name. Written by genPh.py. -/
namespace Go.Proofs.YtefmmgccdpfnaaaGreatDoor
open Go.RowKit
open Ff
set_option linter.unusedVariables false
attribute [local go_sem] Oper.semAt_some

set_option maxRecDepth 100000 in
set_option maxHeartbeats 8000000 in
theorem iinto_open (n : Nat) (ih : IntoC n) (x : UInt8) (u t : Tm) (b m : Nat) (w : World) (ht : t.depth ≤ n + 1) (hn : n + 1 ≤ 4000) (hg : t.good) (hu : u.good) (hpu : (parts u).length ≤ 4000) (hp : (parts t).length ≤ 4000 ∨ sfree u = []) (hT : Tally w b m (cntF u)) (hm : m ≤ 4000) (hvar : t ≠ .var x) (hx : x ∉ bindsOf t) :
    Calls Tryz.prog 137 #[putV x u b, enc t] w (SubP (subS (n + 1) x u t) w) := by
  have a0 := ta_var t
  obtain ⟨z, hz⟩ := var_shape t
  have hzx : isVar t = true → (z == (x.toNat : Int)) = false := by
    intro h
    cases t with
    | var c =>
      simp only [varV, pl, Value.agg.injEq, Array.mk.injEq, List.cons.injEq, Value.int.injEq, true_and, and_true] at hz
      rw [← hz, beq_eq_false_iff_ne]
      intro e
      exact hvar (by rw [UInt8.toNat_inj.1 (by omega : c.toNat = x.toNat)])
    | _ => simp [isVar] at h
  rw [hz] at a0
  have KB := fun w' => boundBy_c t hg w'
  have hlen := binds_len t
  have KC := fun a w' h => containsB_c (bindsOf t) x a (bindsOf t).length w' (by omega) h
  rw [decide_eq_false hx] at KC
  have hdk : ∀ s ∈ t.kids, s.depth ≤ n := fun s hs => by have := kid_depth hs; omega
  have hpk : ∀ s ∈ t.kids, (parts s).length ≤ 4000 ∨ sfree u = [] := fun s hs => hp.imp (fun h => Nat.le_trans (parts_kid_le hs) h) id
  obtain ⟨io1, io2⟩ := into_open n x u t hx hvar
  have OK := open_ok n x u t hg hp hdk
  have HIO1 := Lib.hid io1
  have HIO2 := Lib.hid io2
  have htd : t.depth ≤ 4000 := by omega
  have KO := fun w' (h : Tally w' b m (cntF u)) => opened_c n ih x u t b m w' hg hu hpu hp hdk (by omega) h hm htd
  clear io1 io2
  obtain ⟨un, uv, huv⟩ := enc_gen u
  have HU := Lib.hid huv
  rw [enc_ty t] at KB ⊢
  unfold putV
  rw [huv]
  generalize hff : isVar t = f at a0 hzx
  clear hz hvar hff
  have zz := World.alloc_heap_new w (.cells #[bv x, .iface un uv, .map (some b)] 168)
  have hs0 : w.heap.size < (w.alloc (.cells #[bv x, .iface un uv, .map (some b)] 168)).heap.size := by simp
  have hB0 := (Below.refl _ w).alloc (Nat.le_refl _) (.cells #[bv x, .iface un uv, .map (some b)] 168)
  have hT0 := hT.alloc (.cells #[bv x, .iface un uv, .map (some b)] 168)
  go_enter Tryz.func137, Tryz.ntmps137
  cases f
  all_goals simp only [Bool.false_eq_true, false_implies, true_implies] at hzx
  all_goals go_wp2_with fail
  all_goals
    have hB1 : Below w.heap.size w ((w.alloc (.cells #[bv x, .iface un uv, .map (some b)] 168)).alloc (.cells #[.int .u8 z] 105)) := hB0.alloc (by simp) _
    have hT1 : Tally ((w.alloc (.cells #[bv x, .iface un uv, .map (some b)] 168)).alloc (.cells #[.int .u8 z] 105)) b m (cntF u) := hT0.alloc _
    have z1 := (((Below.refl _ (w.alloc (.cells #[bv x, .iface un uv, .map (some b)] 168))).alloc (Nat.le_refl _) (.cells #[.int .u8 z] 105)).block _ hs0).trans zz
    have hs1 : w.heap.size < ((w.alloc (.cells #[bv x, .iface un uv, .map (some b)] 168)).alloc (.cells #[.int .u8 z] 105)).heap.size := by simp; omega
    obtain ⟨p0, p1, p2, pf⟩ := three_of z1
    generalize hW1 : (w.alloc (.cells #[bv x, .iface un uv, .map (some b)] 168)).alloc (.cells #[.int .u8 z] 105) = W1 at *
    clear zz hs0 hB0 hT0 z1 a0
    have q0 : W1.drew.cell? ⟨w.heap.size, 0, none⟩ = some (bv x) := p0
    have q1 : W1.drew.cell? ⟨w.heap.size, 1, none⟩ = some (.iface un uv) := p1
    have q2 : W1.drew.cell? ⟨w.heap.size, 2, none⟩ = some (.map (some b)) := p2
    have qB : Below W1.heap.size W1 W1.drew := (Below.refl _ W1).drew
    have KB1 : ∀ W, BoxS w W1 x un uv b W → Calls Tryz.prog 71 #[.iface (ty t) (pl t)] W fun e W' => ∃ a, e = .returned (.slice a (bindsOf t).length (bindsOf t).length) ∧ RowAt W' a ((bindsOf t).map bv) ∧ BoxS w W1 x un uv b W' :=
      fun W hS => (KB W).mono fun e W' ⟨v, h1, h2, h3⟩ => by
        obtain ⟨a, rfl, hr⟩ := h2.row
        exact ⟨a, by rw [h1, List.length_map], hr, hS.keep hs1 h3⟩
    have KC1 : ∀ a W, RowAt W a ((bindsOf t).map bv) → BoxS w W1 x un uv b W → Calls Tryz.prog 140 #[.slice a (bindsOf t).length (bindsOf t).length, bv x] W fun e W' => e = .returned (.bool false) ∧ BoxS w W1 x un uv b W' :=
      fun a W hr hS => (KC a W hr).mono fun e W' ⟨h1, h2⟩ => ⟨h1, h2 ▸ hS⟩
    clear KB KC
    go_region_held3 (fun w' => w'.cell? ⟨w.heap.size, 0, none⟩ = some (bv x) ∧ w'.cell? ⟨w.heap.size, 1, none⟩ = some (.iface un uv) ∧ w'.cell? ⟨w.heap.size, 2, none⟩ = some (.map (some b)) ∧ Below W1.heap.size W1 w')
      (first | go_keep | refine ⟨?_, ?_, ?_, ?_⟩ <;> assumption)
      (first | (go_at_call 71; refine (KB1 _ ?_).mono ?_; (refine ⟨?_, ?_, ?_, ?_⟩ <;> assumption); rintro e w2 ⟨a2, rfl, hr2, h0, h1, h2, h3⟩) | (go_at_call 140; refine (KC1 _ _ ?_ ?_).mono ?_; assumption; (refine ⟨?_, ?_, ?_, ?_⟩ <;> assumption); rintro e w3 ⟨rfl, g0, g1, g2, g3⟩))
  all_goals go_wp2_with fail
  all_goals
    have hT3 : Tally w3 b m (cntF u) := hT1.below g3
    have K3 := KO w3 hT3
    unfold putV at K3
    rw [HU.out, enc_ty t] at K3
    have HW := Lib.hid hB1
    refine K3.mono ?_
    clear K3 KO
    rintro e w4 ⟨⟨ho1, rfl⟩ | ⟨ho1, rfl⟩, hb4⟩
    rotate_left
    · exact ⟨rfl, .inr ⟨HIO1.out ho1, rfl⟩, HW.out.trans ((g3.trans (hb4.mono g3.size)).mono HW.out.size)⟩
    have hsub := HIO2.out ho1
    have HSB := Lib.hid hsub
    clear hsub ho1
    obtain ⟨OKg, OKk⟩ := OK
    generalize (openT n x u t).1 = o at HSB OKg OKk ⊢
    rw [enc_ty o]
    obtain ⟨s0, s1, s2, s3⟩ : BoxS w W1 x un uv b w4 := BoxS.keep (show BoxS w W1 x un uv b w3 from ⟨g0, g1, g2, g3⟩) hs1 hb4
    clear g0 g1 g2
    go_wp2_with fail
    have hrl : (rsAll n x u o).length = o.kids.length := by simp [rsAll]
    have hvis : ∀ k s r, o.kids[k]? = some s → (rsAll n x u o)[k]? = some r → Visits W1.heap.size W1 (if k + 1 = o.kids.length then (.func (.func 137) #[.agg #[bv x, .iface un uv, .map (some b)]] #[] : Value) else (.func (.func 137) #[.agg #[bv x, .iface un uv, .map (some b)]] #[] : Value)) s r := by
      intro k s r hs hr
      have hmem := List.mem_of_getElem? hs
      unfold rsAll at hr
      rw [List.getElem?_map, hs] at hr
      simp only [Option.map_some, Option.some.injEq] at hr
      subst hr
      rw [ite_self, ← HU.out]
      exact visits_into ih _ _ x u s b m (OKk s hmem).1 (by omega) (Tm.kid_good OKg hmem) hu hpu (OKk s hmem).2 hT1 hm hT1.lt
    obtain ⟨RT, hRT⟩ : ∃ RT, reTm o (bindsOf o) ((rsAll n x u o).map (·.1)) = RT := ⟨_, rfl⟩
    have d3 := Below.drew s3
    have d0 : w4.drew.cell? ⟨w.heap.size, 0, none⟩ = some (bv x) := s0
    have d1 : w4.drew.cell? ⟨w.heap.size, 1, none⟩ = some (.iface un uv) := s1
    have d2 : w4.drew.cell? ⟨w.heap.size, 2, none⟩ = some (.map (some b)) := s2
    have KBo : ∀ W, BoxS w W1 x un uv b W → Calls Tryz.prog 71 #[.iface (ty (o)) (pl (o))] W fun e W' => ∃ a, e = .returned (.slice a (bindsOf (o)).length (bindsOf (o)).length) ∧ RowAt W' a ((bindsOf (o)).map bv) ∧ Below W.heap.size W W' ∧ BoxS w W1 x un uv b W' :=
      fun W hS => by
        have K := boundBy_c (o) OKg W
        rw [enc_ty] at K
        exact K.mono fun e W' ⟨v, h1, h2, h3⟩ => by
          obtain ⟨a, rfl, hr⟩ := h2.row
          exact ⟨a, by rw [h1, List.length_map], hr, h3, hS.keep hs1 h3⟩
    have KVo : ∀ W, BoxS w W1 x un uv b W → Calls Tryz.prog 141 #[.iface (ty (o)) (pl (o)), .func (.func 137) #[.agg #[bv x, .iface un uv, .map (some b)]] #[], .func (.func 137) #[.agg #[bv x, .iface un uv, .map (some b)]] #[]] W fun e W' => Below W.heap.size W W' ∧ (((rsAll n x u o).all (·.2) = true ∧ ∃ a cap, e = .returned (.slice a (rsAll n x u o).length cap) ∧ RowAt W' a ((rsAll n x u o).map fun r => enc r.1)) ∨ ((rsAll n x u o).all (·.2) = false ∧ e = .panicked shortP)) :=
      fun W hS => by
        have K := visitKids_c (o) (.func (.func 137) #[.agg #[bv x, .iface un uv, .map (some b)]] #[]) (.func (.func 137) #[.agg #[bv x, .iface un uv, .map (some b)]] #[]) (rsAll n x u o) W1.heap.size W1 W hrl hS.2.2.2 hS.2.2.2.size hvis
        rw [enc_ty] at K
        exact K
    have KRo : ∀ an ak cn ck W, RowAt W an ((bindsOf (o)).map bv) → RowAt W ak ((rsAll n x u o).map fun r => enc r.1) → Calls Tryz.prog 91 #[.iface (ty (o)) (pl (o)), .slice an (bindsOf (o)).length cn, .slice ak (rsAll n x u o).length ck] W fun e W' => e = .returned (.iface (ty RT) (pl RT)) ∧ Below W.heap.size W W' :=
      fun an ak cn ck W h1 h2 => by
        have K := remade_c (o) OKg (bindsOf (o)) ((rsAll n x u o).map (·.1)) rfl (by rw [List.length_map]; exact hrl) an ak cn ck W h1 (by rw [List.map_map]; exact h2)
        rw [enc_ty, enc_ty, List.length_map] at K
        rw [← hRT]
        exact K
    have HRT := Lib.hid hRT
    clear hRT hrl hvis
    generalize hlr : (rsAll n x u o).length = lr at KVo KRo
    cases hall : (rsAll n x u o).all (·.2)
    · have HAL := Lib.hid hall
      rw [hall] at KVo
      have KV1 : ∀ W, BoxS w W1 x un uv b W → Calls Tryz.prog 141 #[.iface (ty (o)) (pl (o)), .func (.func 137) #[.agg #[bv x, .iface un uv, .map (some b)]] #[], .func (.func 137) #[.agg #[bv x, .iface un uv, .map (some b)]] #[]] W fun e W' => e = .panicked shortP ∧ Below W.heap.size W W' := fun W hS => (KVo W hS).mono fun e W' ⟨h1, h2⟩ => by
        rcases h2 with ⟨h2, _⟩ | ⟨_, h2⟩
        · cases h2
        · exact ⟨h2, h1⟩
      clear KVo hall
      go_region_held (fun w' => w'.cell? ⟨w.heap.size, 0, none⟩ = some (bv x) ∧ w'.cell? ⟨w.heap.size, 1, none⟩ = some (.iface un uv) ∧ w'.cell? ⟨w.heap.size, 2, none⟩ = some (.map (some b)) ∧ Below W1.heap.size W1 w')
        (first | go_keep | refine ⟨?_, ?_, ?_, ?_⟩ <;> assumption)
        (first | (go_at_call 71; refine (KBo _ ?_).mono ?_; (refine ⟨?_, ?_, ?_, ?_⟩ <;> assumption); rintro e w6 ⟨a6, rfl, hr6, hb6, h0, h1, h2, h3⟩) | (go_at_call 141; refine (KV1 _ ?_).mono ?_; (refine ⟨?_, ?_, ?_, ?_⟩ <;> assumption); rintro e7 w7 ⟨he7, hb7⟩; rcases e7 with v7 | c7 | _; rotate_left; (injection he7 with he7; subst he7; exact ⟨rfl, .inr ⟨by rw [HSB.out]; exact HAL.out, rfl⟩, HW.out.trans ((Below.trans (by assumption : Below W1.heap.size W1 _) (hb7.mono (Below.size (by assumption : Below W1.heap.size W1 _)))).mono HW.out.size)⟩); (cases he7); have hF : RowKit.Hid False := Lib.hid (by cases he7); obtain ⟨a7, c7, rfl⟩ : ∃ a c, v7 = .slice a lr c := hF.out.elim; have hr7 : RowAt w7 a7 ((rsAll n x u o).map fun r => enc r.1) := hF.out.elim; have g0 : w7.cell? ⟨w.heap.size, 0, none⟩ = some (bv x) := hF.out.elim; have g1 : w7.cell? ⟨w.heap.size, 1, none⟩ = some (.iface un uv) := hF.out.elim; have g2 : w7.cell? ⟨w.heap.size, 2, none⟩ = some (.map (some b)) := hF.out.elim; have g3 : Below W1.heap.size W1 w7 := hF.out.elim; clear he7) | (go_at_call 91; refine (KRo _ _ _ _ _ ?_ ?_).mono ?_; (first | exact hr6 | exact hr6.keep hb7); (first | exact hr7 | exact hr7.keep hb6); rintro e w8 ⟨rfl, hb8⟩; obtain ⟨k0, k1, k2, k3⟩ : BoxS w W1 x un uv b w8 := hF.out.elim))
      all_goals exact hF.out.elim
    · have HAL := Lib.hid hall
      rw [hall] at KVo
      have KV1 : ∀ W, BoxS w W1 x un uv b W → Calls Tryz.prog 141 #[.iface (ty (o)) (pl (o)), .func (.func 137) #[.agg #[bv x, .iface un uv, .map (some b)]] #[], .func (.func 137) #[.agg #[bv x, .iface un uv, .map (some b)]] #[]] W fun e W' => ∃ a cap, e = .returned (.slice a lr cap) ∧ RowAt W' a ((rsAll n x u o).map fun r => enc r.1) ∧ Below W.heap.size W W' ∧ BoxS w W1 x un uv b W' := fun W hS => (KVo W hS).mono fun e W' ⟨h1, h2⟩ => by
        rcases h2 with ⟨_, a, cap, h2, h3⟩ | ⟨h2, _⟩
        · exact ⟨a, cap, h2, h3, h1, hS.keep hs1 h1⟩
        · cases h2
      clear KVo hall
      go_region_held3 (fun w' => w'.cell? ⟨w.heap.size, 0, none⟩ = some (bv x) ∧ w'.cell? ⟨w.heap.size, 1, none⟩ = some (.iface un uv) ∧ w'.cell? ⟨w.heap.size, 2, none⟩ = some (.map (some b)) ∧ Below W1.heap.size W1 w')
        (first | go_keep | refine ⟨?_, ?_, ?_, ?_⟩ <;> assumption)
        (first | (go_at_call 71; refine (KBo _ ?_).mono ?_; (refine ⟨?_, ?_, ?_, ?_⟩ <;> assumption); rintro e w6 ⟨a6, rfl, hr6, hb6, h0, h1, h2, h3⟩) | (go_at_call 141; refine (KV1 _ ?_).mono ?_; (refine ⟨?_, ?_, ?_, ?_⟩ <;> assumption); rintro e w7 ⟨a7, c7, rfl, hr7, hb7, g0, g1, g2, g3⟩) | (go_at_call 91; refine (KRo _ _ _ _ _ ?_ ?_).mono ?_; (first | exact hr6 | exact hr6.keep hb7); (first | exact hr7 | exact hr7.keep hb6); rintro e w8 ⟨rfl, hb8⟩; have h38 := Below.trans (by assumption : Below W1.heap.size W1 _) (hb8.mono (Below.size (by assumption : Below W1.heap.size W1 _))); have hk8 : BoxS w W1 x un uv b w8 := BoxS.keep (by first | exact ⟨h0, h1, h2, h3⟩ | exact ⟨g0, g1, g2, g3⟩) hs1 hb8; obtain ⟨k0, k1, k2, k3⟩ := hk8))
      all_goals go_wp2_with fail
      all_goals go_ret
      all_goals exact ⟨.inl ⟨by rw [HSB.out]; exact HAL.out, by rw [HSB.out, HRT.out, enc_ty]; rfl⟩, HW.out.trans (h38.mono HW.out.size)⟩
theorem into_c : ∀ n, IntoC n
  | 0 => fun x u t b m w ht => absurd ht (by have := t.depth_pos; omega)
  | n + 1 => by
    intro x u t b m w ht hn hg hu hpu hp hT hm
    by_cases hvar : t = .var x
    · subst hvar; exact into_var n x u b w
    · by_cases hx : x ∈ bindsOf t
      · exact iinto_bound n (into_c n) x u t b m w ht hn hg hu hpu hp hT hm hvar hx
      · exact iinto_open n (into_c n) x u t b m w ht hn hg hu hpu hp hT hm hvar hx
end Go.Proofs.YtefmmgccdpfnaaaGreatDoor

/- The program's putting: what recovers from a shortage; put; Put. -/
namespace Go.Proofs.YtefmmgccdpfnaaaGreatDoor
open Go.RowKit
open Ff
set_option linter.unusedVariables false
attribute [local go_sem] Oper.semAt_some

theorem short_panicking (p q : Addr) (x y : Value) (u : TypeId) (pv : Value) (older : List PanicEntry) (w : World) (hne : p ≠ q) (hp : w.cell? p = some x) (hpz : w.frozen? p = false) (hq : w.cell? q = some y) (hqz : w.frozen? q = false) :
    CallsD Tryz.prog 139 #[.pointer (some p), .pointer (some q)] (.panicking ({ v := .iface u pv, recovered := false } :: older)) w fun e u' w' =>
      e = .returned (.tuple #[]) ∧ u' = .panicking ({ v := .iface u pv, recovered := true } :: older) ∧ w' = (w.setCell p .nilIface).setCell q (.bool false) := by
  refine callsD_of_wpS Tryz.func139 rfl fun c₀ cs hu => ?_
  apply wpS_seq
  apply wpS_region
  simp [wpOpsS, go_sem, recoverD, hu, Tryz.ntmps139, Exit.thenS]
  refine wpS_cond (t := true) (by simp [Act.eval, Array.replicate]) ?_
  simp only [if_true]
  apply wpS_region
  have h2 : (w.setCell p .nilIface).cell? q = some y := by rw [World.cell?_setCell_other _ _ _ _ hne]; exact hq
  simp [wpOpsS, go_sem, hp, hpz, h2, hqz, bodyPostS, results, Tryz.results139]

theorem short_idle (p q : Addr) (w : World) :
    CallsD Tryz.prog 139 #[.pointer (some p), .pointer (some q)] .returning w fun e u' w' => e = .returned (.tuple #[]) ∧ u' = .returning ∧ w' = w := by
  refine callsD_of_wpS Tryz.func139 rfl fun c₀ cs hu => ?_
  apply wpS_seq
  apply wpS_region
  simp [wpOpsS, go_sem, recoverD, hu, Tryz.ntmps139, Exit.thenS]
  refine wpS_cond (t := false) (by simp [Act.eval, Array.replicate]) ?_
  simp only [Bool.false_eq_true, if_false]
  refine wpS_of_wp (wp_skip ?_)
  cases c₀
  simp_all [bodyPostS, results, Tryz.results139]

/-- What putting comes to where a shortage is told. -/
def PutPost (w : World) (r : Tm × Bool) (e : Ending) (w' : World) : Prop := ((r.2 = true ∧ e = .returned (.tuple #[enc r.1, .bool true])) ∨ (r.2 = false ∧ e = .returned (.tuple #[.nilIface, .bool false]))) ∧ Below w.heap.size w w'
theorem two_new (w : World) (t1 t2 : TypeId) {W : World} (h : Below (w.heap.size + 1 + 1) ((w.alloc (.cells #[.nilIface] t1)).alloc (.cells #[.bool false] t2)) W) :
    W.cell? ⟨w.heap.size, 0, none⟩ = some .nilIface ∧ W.frozen? ⟨w.heap.size, 0, none⟩ = false ∧ W.cell? ⟨w.heap.size + 1, 0, none⟩ = some (.bool false) ∧ W.frozen? ⟨w.heap.size + 1, 0, none⟩ = false := by
  refine ⟨(h.cell (by show w.heap.size < _; omega)).trans ?_, (h.frozen (by show w.heap.size < _; omega)).trans ?_, (h.cell (by simp)).trans ?_, (h.frozen (by simp)).trans ?_⟩ <;> simp [go_sem]
set_option maxRecDepth 100000 in
set_option maxHeartbeats 2000000 in
theorem orShortage_c (r : Tm × Bool) (p1 p2 p3 : Value) (w : World) (hC : ∀ W, Below w.heap.size w W → Calls Tryz.prog 135 #[p1, p2, p3] W (SubP r W)) :
    Calls Tryz.prog 134 #[.func (.func 135) #[] #[p1, p2, p3]] w (PutPost w r) := by
  have hmf : ∀ (fn : Fn) (first cap : Array Value) (w : World), (Instr.makeFunc fn first cap).run Tryz.prog w = .ok (.func fn first cap) w := fun _ _ _ _ => rfl
  have C := hC _ (below_two w (.cells #[.nilIface] 44) (.cells #[.bool false] 4))
  clear hC
  go_enter_defers Tryz.func134, Tryz.ntmps134
  go_wp2_with fail
  refine C.mono ?_
  clear C
  have hz : ((w.alloc (.cells #[.nilIface] 44)).alloc (.cells #[.bool false] 4)).heap.size = w.heap.size + 1 + 1 := by simp
  rintro e w1 ⟨⟨hr, rfl⟩ | ⟨hr, rfl⟩, hb1⟩
  · rw [hz] at hb1
    obtain ⟨c1, f1, c2, f2⟩ := two_new w _ _ hb1
    have hb : Below w.heap.size w w1 := (below_two w _ _).trans (hb1.mono (by omega))
    obtain ⟨n, v, hv⟩ := enc_gen r.1
    have HV := Lib.hid hv
    have HR := Lib.hid hr
    rw [hv]
    clear hv hr
    go_wp2_with fail
    refine leaves_cons (f := 139) (args := #[.pointer (some ⟨w.heap.size, 0, none⟩), .pointer (some ⟨w.heap.size + 1, 0, none⟩)]) (by simp) (by simp [go_sem]) ?_
    refine (short_idle ⟨w.heap.size, 0, none⟩ ⟨w.heap.size + 1, 0, none⟩ _).mono ?_
    rintro e u' w'' ⟨rfl, rfl, rfl⟩
    refine ⟨.tuple #[.iface n v, .bool true], ?_, .inl ⟨HR.out, by rw [HV.out]⟩, (hb.setCell (p := ⟨w.heap.size, 0, none⟩) (Nat.le_refl _) _).setCell (p := ⟨w.heap.size + 1, 0, none⟩) (by simp) _⟩
    simp [results, Tryz.results134, go_sem, c1, c2]
  · rw [hz] at hb1
    obtain ⟨c1, f1, c2, f2⟩ := two_new w _ _ hb1
    have hb : Below w.heap.size w w1 := (below_two w _ _).trans (hb1.mono (by omega))
    unfold shortP
    refine leaves_cons (f := 139) (args := #[.pointer (some ⟨w.heap.size, 0, none⟩), .pointer (some ⟨w.heap.size + 1, 0, none⟩)]) (by simp) (by simp [go_sem]) ?_
    refine (short_panicking ⟨w.heap.size, 0, none⟩ ⟨w.heap.size + 1, 0, none⟩ _ _ 186 _ [] _ (by simp) c1 f1 c2 f2).mono ?_
    rintro e u' w'' ⟨rfl, rfl, rfl⟩
    refine ⟨.tuple #[.nilIface, .bool false], ?_, .inr ⟨hr, rfl⟩, (hb.setCell (p := ⟨w.heap.size, 0, none⟩) (Nat.le_refl _) _).setCell (p := ⟨w.heap.size + 1, 0, none⟩) (by simp) _⟩
    simp [results, Tryz.results134, go_sem, c1, c2]
/-- Three boxes. -/
abbrev Box3 (a b c : Nat) (x : UInt8) (u t : Value) (w0 w : World) : Prop := w.cell? ⟨a, 0, none⟩ = some (bv x) ∧ w.cell? ⟨b, 0, none⟩ = some u ∧ w.cell? ⟨c, 0, none⟩ = some t ∧ Below w0.heap.size w0 w
theorem Box3.keep {a b c : Nat} {x : UInt8} {u t : Value} {w0 w w' : World} (h : Box3 a b c x u t w0 w) (ha : a < w0.heap.size) (hb : b < w0.heap.size) (hc : c < w0.heap.size) (hk : Below w.heap.size w w') : Box3 a b c x u t w0 w' := by
  obtain ⟨h1, h2, h3, h4⟩ := h
  have := h4.size
  exact ⟨(hk.cell (p := ⟨a, 0, none⟩) (by show a < _; omega)).trans h1, (hk.cell (p := ⟨b, 0, none⟩) (by show b < _; omega)).trans h2, (hk.cell (p := ⟨c, 0, none⟩) (by show c < _; omega)).trans h3, h4.trans (hk.mono h4.size)⟩
set_option maxRecDepth 100000 in
set_option maxHeartbeats 4000000 in
theorem put1_c (x : UInt8) (u t : Tm) (a b c : Nat) (w0 w : World) (hn : t.depth ≤ 4000) (hg : t.good) (hu : u.good) (hpu : (parts u).length ≤ 4000) (hdu : u.depth ≤ 4000) (hp : (parts t).length ≤ 4000 ∨ sfree u = []) (ha : a < w0.heap.size) (hb : b < w0.heap.size) (hc : c < w0.heap.size) (hB : Box3 a b c x (enc u) (enc t) w0 w) :
    Calls Tryz.prog 135 #[.pointer (some ⟨a, 0, none⟩), .pointer (some ⟨b, 0, none⟩), .pointer (some ⟨c, 0, none⟩)] w (SubP (subS t.depth x u t) w) := by
  have K1 : ∀ W, Box3 a b c x (enc u) (enc t) w0 W → Calls Tryz.prog 136 #[bv x, enc u] W fun e W' => ∃ g m, e = .returned (putV x u g) ∧ m ≤ 4000 ∧ Tally W' g m (cntF u) ∧ Below W.heap.size W W' ∧ Box3 a b c x (enc u) (enc t) w0 W' :=
    fun W hS => (newPutting_c x u W hu hpu hdu).mono fun e W' ⟨g, m, h1, h2, h3, h4, h5⟩ => ⟨g, m, h1, by omega, h4, h5, hS.keep ha hb hc h5⟩
  have K2 : ∀ g m W, m ≤ 4000 → Tally W g m (cntF u) → Calls Tryz.prog 137 #[putV x u g, enc t] W (SubP (subS t.depth x u t) W) :=
    fun g m W hm hT => into_c t.depth x u t g m W (Nat.le_refl _) hn hg hu hpu hp hT hm
  generalize subS t.depth x u t = r at *
  obtain ⟨un, uv, huv⟩ := enc_gen u
  obtain ⟨tn, tv, htv⟩ := enc_gen t
  unfold putV at K1 K2
  rw [huv, htv] at hB K1
  simp only [huv, htv] at K2
  clear huv htv
  obtain ⟨q0, q1, q2, q3⟩ := hB
  have d0 : w.drew.cell? ⟨a, 0, none⟩ = some (bv x) := q0
  have d1 : w.drew.cell? ⟨b, 0, none⟩ = some (.iface un uv) := q1
  have d2 : w.drew.cell? ⟨c, 0, none⟩ = some (.iface tn tv) := q2
  have d3 := Below.drew q3
  have hBw : Below w.heap.size w w.drew := (Below.refl _ w).drew
  go_enter Tryz.func135, Tryz.ntmps135
  go_wp2_with fail
  have HBW := Lib.hid hBw
  have K1' : ∀ W, Box3 a b c x (.iface un uv) (.iface tn tv) w0 W → Below w.heap.size w W → Calls Tryz.prog 136 #[bv x, .iface un uv] W fun e W' => ∃ g m, e = .returned (.agg #[bv x, .iface un uv, .map (some g)]) ∧ m ≤ 4000 ∧ Tally W' g m (cntF u) ∧ Below w.heap.size w W' ∧ Box3 a b c x (.iface un uv) (.iface tn tv) w0 W' :=
    fun W hS hw => (K1 W hS).mono fun e W' ⟨g, m, h1, h2, h3, h4, h5⟩ => ⟨g, m, h1, h2, h3, hw.trans (h4.mono hw.size), h5⟩
  clear K1
  cases hr : r.2
  · have HR := Lib.hid hr
    clear hr
    go_region_held (fun w' => w'.cell? ⟨a, 0, none⟩ = some (bv x) ∧ w'.cell? ⟨b, 0, none⟩ = some (.iface un uv) ∧ w'.cell? ⟨c, 0, none⟩ = some (.iface tn tv) ∧ Below w0.heap.size w0 w' ∧ Below w.heap.size w w')
      (first | go_keep | refine ⟨?_, ?_, ?_, ?_, ?_⟩ <;> assumption)
      (first | (go_at_call 136; refine (K1' _ ?_ ?_).mono ?_; (refine ⟨?_, ?_, ?_, ?_⟩ <;> assumption); assumption; rintro e w6 ⟨g6, m6, rfl, hm6, hT6, hw6, h0, h1, h2, h3⟩) | (go_at_call 137; refine (K2 _ _ _ hm6 hT6).mono ?_; rintro e7 w7 ⟨he7, hb7⟩; rcases e7 with v7 | c7 | _; rotate_left; (rcases he7 with ⟨h7, _⟩ | ⟨_, he7⟩; (rw [HR.out] at h7; cases h7); injection he7 with he7; subst he7; exact ⟨rfl, .inr ⟨HR.out, rfl⟩, hw6.trans (hb7.mono hw6.size)⟩); (rcases he7 with ⟨_, he7⟩ | ⟨_, he7⟩ <;> cases he7); have hF : RowKit.Hid False := Lib.hid (by rcases he7 with ⟨h7, _⟩ | ⟨_, he7⟩; (rw [HR.out] at h7; cases h7); cases he7); obtain ⟨zn, zv, rfl⟩ : ∃ n v, v7 = .iface n v := hF.out.elim; obtain ⟨k0, k1, k2, k3, k4⟩ : w7.cell? ⟨a, 0, none⟩ = some (bv x) ∧ w7.cell? ⟨b, 0, none⟩ = some (.iface un uv) ∧ w7.cell? ⟨c, 0, none⟩ = some (.iface tn tv) ∧ Below w0.heap.size w0 w7 ∧ Below w.heap.size w w7 := hF.out.elim; clear he7))
    all_goals exact hF.out.elim
  · have HR := Lib.hid hr
    clear hr
    obtain ⟨rn, rv, hrv⟩ := enc_gen r.1
    have HRV := Lib.hid hrv
    have K3 : ∀ g m W, m ≤ 4000 → Tally W g m (cntF u) → Below w.heap.size w W → Box3 a b c x (.iface un uv) (.iface tn tv) w0 W → Calls Tryz.prog 137 #[.agg #[bv x, .iface un uv, .map (some g)], .iface tn tv] W fun e W' => e = .returned (.iface rn rv) ∧ Below w.heap.size w W' ∧ Box3 a b c x (.iface un uv) (.iface tn tv) w0 W' :=
      fun g m W hm hT hw hS => (K2 g m W hm hT).mono fun e W' ⟨h1, h2⟩ => by
        rcases h1 with ⟨_, h1⟩ | ⟨h1, _⟩
        · exact ⟨by rw [h1, hrv], hw.trans (h2.mono hw.size), hS.keep ha hb hc h2⟩
        · rw [HR.out] at h1; cases h1
    clear hrv K2
    go_region_held3 (fun w' => w'.cell? ⟨a, 0, none⟩ = some (bv x) ∧ w'.cell? ⟨b, 0, none⟩ = some (.iface un uv) ∧ w'.cell? ⟨c, 0, none⟩ = some (.iface tn tv) ∧ Below w0.heap.size w0 w' ∧ Below w.heap.size w w')
      (first | go_keep | refine ⟨?_, ?_, ?_, ?_, ?_⟩ <;> assumption)
      (first | (go_at_call 136; refine (K1' _ ?_ ?_).mono ?_; (refine ⟨?_, ?_, ?_, ?_⟩ <;> assumption); assumption; rintro e w6 ⟨g6, m6, rfl, hm6, hT6, hw6, h0, h1, h2, h3⟩) | (go_at_call 137; refine (K3 _ _ _ hm6 hT6 hw6 ?_).mono ?_; (refine ⟨?_, ?_, ?_, ?_⟩ <;> assumption); rintro e w7 ⟨rfl, hw7, k0, k1, k2, k3⟩))
    all_goals go_wp2_with fail
    all_goals go_ret
    all_goals exact ⟨.inl ⟨HR.out, by rw [HRV.out]; rfl⟩, hw7⟩
set_option maxRecDepth 100000 in
set_option maxHeartbeats 2000000 in
theorem put_c (x : UInt8) (u t : Tm) (w : World) (hn : t.depth ≤ 4000) (hg : t.good) (hu : u.good) (hpu : (parts u).length ≤ 4000) (hdu : u.depth ≤ 4000) (hp : (parts t).length ≤ 4000 ∨ sfree u = []) :
    Calls Tryz.prog 123 #[enc t, bv x, enc u] w (PutPost w (subS t.depth x u t)) := by
  have hmf : ∀ (fn : Fn) (first cap : Array Value) (w : World), (Instr.makeFunc fn first cap).run Tryz.prog w = .ok (.func fn first cap) w := fun _ _ _ _ => rfl
  have KO := fun a b c W (ha : a < W.heap.size) (hb : b < W.heap.size) (hc : c < W.heap.size) (hB : Box3 a b c x (enc u) (enc t) W W) => orShortage_c (subS t.depth x u t) (.pointer (some ⟨a, 0, none⟩)) (.pointer (some ⟨b, 0, none⟩)) (.pointer (some ⟨c, 0, none⟩)) W (fun W' hW => put1_c x u t a b c W W' hn hg hu hpu hdu hp ha hb hc ⟨(hW.cell (p := ⟨a, 0, none⟩) ha).trans hB.1, (hW.cell (p := ⟨b, 0, none⟩) hb).trans hB.2.1, (hW.cell (p := ⟨c, 0, none⟩) hc).trans hB.2.2.1, hW⟩)
  generalize subS t.depth x u t = r at *
  obtain ⟨un, uv, huv⟩ := enc_gen u
  obtain ⟨tn, tv, htv⟩ := enc_gen t
  rw [huv, htv] at KO
  rw [huv, htv]
  clear huv htv
  go_enter Tryz.func123, Tryz.ntmps123
  have hz : (((w.alloc (.cells #[.iface tn tv] 44)).alloc (.cells #[bv x] 5)).alloc (.cells #[.iface un uv] 44)).heap.size = w.heap.size + 1 + 1 + 1 := by simp
  have KW := KO (w.heap.size + 1) (w.heap.size + 1 + 1) w.heap.size (((w.alloc (.cells #[.iface tn tv] 44)).alloc (.cells #[bv x] 5)).alloc (.cells #[.iface un uv] 44)) (by rw [hz]; omega) (by rw [hz]; omega) (by rw [hz]; omega) ⟨by simp [go_sem], by simp [go_sem], by simp [go_sem], Below.refl _ _⟩
  have hb0 : Below w.heap.size w (((w.alloc (.cells #[.iface tn tv] 44)).alloc (.cells #[bv x] 5)).alloc (.cells #[.iface un uv] 44)) := (below_two w _ _).alloc (by simp; omega) _
  clear KO hz
  go_wp2_with fail
  refine KW.mono ?_
  clear KW
  rintro e w1 ⟨⟨hr, rfl⟩ | ⟨hr, rfl⟩, hb1⟩
  · obtain ⟨n, v, hv⟩ := enc_gen r.1
    have HV := Lib.hid hv
    have HR := Lib.hid hr
    rw [hv]
    clear hv hr
    go_wp2_with fail
    go_ret2
    exact ⟨.inl ⟨HR.out, by rw [HV.out]; rfl⟩, hb0.trans (hb1.mono hb0.size)⟩
  · have HR := Lib.hid hr
    clear hr
    go_wp2_with fail
    go_ret2
    exact ⟨.inr ⟨HR.out, rfl⟩, hb0.trans (hb1.mono hb0.size)⟩
end Go.Proofs.YtefmmgccdpfnaaaGreatDoor
