import Derived.Test.YtefmmgccdpfnaaaGreatDoorMPu
import Derived.Deep.RegionHeld3
/- The program's putting: a part is opened. -/
namespace Go.Proofs.YtefmmgccdpfnaaaGreatDoor
open Go.RowKit
open Ff
set_option linter.unusedVariables false
attribute [local go_sem] Oper.semAt_some

/-- A part in whose body nothing gets bound that stands free in u. -/
def openT (n : Nat) (x : UInt8) (u t : Tm) : Tm × Bool :=
  if bindsOf t = [] ∨ sfree u = [] ∨ cntF (lastK t) x = 0 then (t, true) else
  (withNB t (stepsS (subS n) (sfree u) x (bindsOf t) (lastK t) (bindsOf t).length).ns (stepsS (subS n) (sfree u) x (bindsOf t) (lastK t) (bindsOf t).length).b, (stepsS (subS n) (sfree u) x (bindsOf t) (lastK t) (bindsOf t).length).ok)
theorem nil_cnt {u : Tm} (hu : u.good) : sfree u = [] ↔ ∀ c, cntF u c = 0 := free_nil hu

set_option maxRecDepth 100000 in
set_option maxHeartbeats 4000000 in
theorem opened_none (x : UInt8) (u t : Tm) (b m : Nat) (w : World) (hg : t.good) (hbn : bindsOf t = []) :
    Calls Tryz.prog 142 #[putV x u b, enc t] w fun e w' => e = .returned (enc t) ∧ Below w.heap.size w w' := by
  have hb0 := (Below.refl _ w).alloc (Nat.le_refl _) (.cells #[bv x, enc u, .map (some b)] 168)
  have KB := fun w' => boundBy_c t hg w'
  rw [hbn] at KB
  obtain ⟨un, uv, huv⟩ := enc_gen u
  obtain ⟨tn, tv, htv⟩ := enc_gen t
  unfold putV
  simp only [huv, htv] at KB hb0 ⊢
  clear huv htv
  go_enter Tryz.func142, Tryz.ntmps142
  generalize hW0 : w.alloc (.cells #[bv x, .iface un uv, .map (some b)] 168) = W0 at *
  go_wp2_with (go_at_call 71; refine (KB _).mono ?_; clear KB; rintro e w1 ⟨v, rfl, hsv, hb1⟩; obtain ⟨a1, rfl, hcell⟩ := hsv.uni; clear hcell hsv)
  go_region
  all_goals go_wp2_with fail
  all_goals go_ret
  all_goals exact ⟨rfl, hb0.trans ((hb1.mono hb0.size).trans ((Below.refl _ w1).drew.mono (by have := hb0.size; have := hb1.size; omega)))⟩
set_option maxRecDepth 100000 in
set_option maxHeartbeats 4000000 in
theorem opened_closed (x : UInt8) (u t : Tm) (b m : Nat) (w : World) (hg : t.good) (hu : u.good) (hbn : bindsOf t ≠ []) (hT : Tally w b m (cntF u)) (hc : sfree u = []) :
    Calls Tryz.prog 142 #[putV x u b, enc t] w fun e w' => e = .returned (enc t) ∧ Below w.heap.size w w' := by
  have hb0 := (Below.refl _ w).alloc (Nat.le_refl _) (.cells #[bv x, enc u, .map (some b)] 168)
  have KB := fun w' => boundBy_c t hg w'
  have hlen : 0 < (bindsOf t).length := List.length_pos_iff.2 hbn
  have hz := (nil_cnt hu).1 hc
  have z := World.alloc_heap_new w (.cells #[bv x, enc u, .map (some b)] 168)
  have hs0 : w.heap.size < (w.alloc (.cells #[bv x, enc u, .map (some b)] 168)).heap.size := by simp
  have hT0 := hT.alloc (.cells #[bv x, enc u, .map (some b)] 168)
  obtain ⟨un, uv, huv⟩ := enc_gen u
  obtain ⟨tn, tv, htv⟩ := enc_gen t
  unfold putV
  simp only [huv, htv] at KB hb0 z hs0 hT0 ⊢
  clear huv htv hc hbn
  go_enter Tryz.func142, Tryz.ntmps142
  generalize hW0 : w.alloc (.cells #[bv x, .iface un uv, .map (some b)] 168) = W0 at *
  go_wp2_with (go_at_call 71; refine (KB _).mono ?_; clear KB; rintro e w1 ⟨v, rfl, hsv, hb1⟩; obtain ⟨a1, rfl, hcell⟩ := hsv.uni; clear hcell hsv)
  have hT1 : Tally w1.drew b m (cntF u) := (hT0.below hb1).below ((Below.refl _ w1).drew)
  obtain ⟨p0, p1, p2, pf⟩ := three_of ((hb1.block _ hs0).trans z)
  obtain ⟨k, hk, _, hrun⟩ := hT1.len
  obtain rfl : k = 0 := hk.2 hz
  have q2 : w1.drew.cell? ⟨w.heap.size, 2, none⟩ = some (.map (some b)) := p2
  have hl1 : (((bindsOf t).length : Int) == 0) = false := by rw [beq_eq_false_iff_ne]; omega
  go_region
  all_goals go_wp2_with fail
  all_goals go_ret
  all_goals exact ⟨rfl, hb0.trans ((hb1.mono hb0.size).trans ((Below.refl _ w1).drew.mono (by have := hb0.size; have := hb1.size; omega)))⟩
/-- A binder with the names and the body of a state that keeps. -/
structure NbOk (t : Tm) (s : Bs) : Prop where
  binds : bindsOf (withNB t s.ns s.b) = s.ns
  last : lastK (withNB t s.ns s.b) = s.b
  good : (withNB t s.ns s.b).good
  many : (parts (withNB t s.ns s.b)).length = (parts t).length
  deep : (withNB t s.ns s.b).depth = t.depth
  again : ∀ ns b, withNB (withNB t s.ns s.b) ns b = withNB t ns b
theorem withNB_ok (t : Tm) (hb : bindsOf t ≠ []) (hg : t.good) (s : Bs) (h : BsOk (bindsOf t) (lastK t) s) : NbOk t s := by
  have hl := h.len
  have hn := h.nam
  have hd := h.nod
  have hk := h.like
  cases t with
  | fn c b =>
    obtain ⟨c', e⟩ := one_of hl
    rw [e] at hn
    refine ⟨?_, ?_, ?_, ?_, ?_, ?_⟩
    · simp [withNB, e, bindsOf]
    · simp [withNB, e, lastK, Tm.kids]
    · simp only [withNB, e, List.headD_cons]
      exact ⟨hn (by simpa [bindsOf] using hg.1) _ (by simp), hk.good hg.2⟩
    · have := hk.many
      simp only [withNB, parts, List.length_cons, this]; simp [lastK, Tm.kids]
    · have := hk.deep
      simp only [withNB, Tm.depth, this]; simp [lastK, Tm.kids]
    · intro ns b; rfl
  | fix f c b =>
    obtain ⟨f', c', e⟩ := two_of' hl
    rw [e] at hn hd
    refine ⟨?_, ?_, ?_, ?_, ?_, ?_⟩
    · simp [withNB, e, bindsOf]
    · simp [withNB, e, lastK, Tm.kids]
    · simp only [withNB, e, List.headD_cons, List.drop_succ_cons, List.drop_zero]
      have hall : ∀ y ∈ bindsOf (.fix f c b), isNam y = true := by
        intro y hy
        simp only [bindsOf, List.mem_cons, List.not_mem_nil, or_false] at hy
        rcases hy with rfl | rfl
        · exact hg.1
        · exact hg.2.1
      refine ⟨hn hall _ (by simp), hn hall _ (by simp), ?_, hk.good hg.2.2.2⟩
      have := hd (by
        unfold Dif
        intro i j y hij h1 h2
        exact (show False by
          match i, j, hij with
          | 0, 1, _ => simp [bindsOf] at h1 h2; exact hg.2.2.1 (h1.trans h2.symm)
          | i, j + 2, _ => simp [bindsOf] at h2
          | i + 1, 1, h => omega)) 0 1 f' (by omega) rfl
      intro e2
      subst e2
      exact this rfl
    · have := hk.many
      simp only [withNB, parts, List.length_cons, this]; simp [lastK, Tm.kids]
    · have := hk.deep
      simp only [withNB, Tm.depth, this]; simp [lastK, Tm.kids]
    · intro ns b; rfl
  | bind c v b =>
    obtain ⟨c', e⟩ := one_of hl
    rw [e] at hn
    refine ⟨?_, ?_, ?_, ?_, ?_, ?_⟩
    · simp [withNB, e, bindsOf]
    · simp [withNB, e, lastK, Tm.kids]
    · simp only [withNB, e, List.headD_cons]
      exact ⟨hn (by simpa [bindsOf] using hg.1) _ (by simp), hg.2.1, hk.good hg.2.2⟩
    · have := hk.many
      simp only [withNB, parts, List.length_cons, List.length_append, this]; simp [lastK, Tm.kids]
    · have := hk.deep
      simp only [withNB, Tm.depth, this]; simp [lastK, Tm.kids]
    · intro ns b; rfl
  | num _ => exact absurd rfl hb
  | var _ => exact absurd rfl hb
  | app _ _ => exact absurd rfl hb
  | op _ _ _ => exact absurd rfl hb
  | sel _ _ _ => exact absurd rfl hb
theorem withNB_self {t : Tm} (h : bindsOf t ≠ []) : withNB t (bindsOf t) (lastK t) = t := by
  cases t <;> simp [bindsOf] at h <;> simp [withNB, bindsOf, lastK, Tm.kids]
theorem binds_dif {t : Tm} (hg : t.good) : Dif (bindsOf t) := by
  unfold Dif
  intro i j y hij h1 h2
  cases t with
  | fix f c b =>
    match i, j, hij with
    | 0, 1, _ => simp [bindsOf] at h1 h2; exact hg.2.2.1 (h1.trans h2.symm)
    | i, j + 2, _ => simp [bindsOf] at h2
    | i + 1, 1, h => omega
  | fn c b => match i, j, hij with | i, j + 1, _ => simp [bindsOf] at h2
  | bind c v b => match i, j, hij with | i, j + 1, _ => simp [bindsOf] at h2
  | num _ => simp [bindsOf] at h1
  | var _ => simp [bindsOf] at h1
  | app _ _ => simp [bindsOf] at h1
  | op _ _ _ => simp [bindsOf] at h1
  | sel _ _ _ => simp [bindsOf] at h1
theorem stepS_names (sub : UInt8 → Tm → Tm → Tm × Bool) (fr : Text) (x : UInt8) (k : Nat) (s : Bs) (j : Nat) (hj : k < j) : (stepS sub fr x k s).ns[j]? = s.ns[j]? := by
  unfold stepS
  split
  · rfl
  · split
    · rfl
    · split
      · split
        · rfl
        · simp only; rw [List.getElem?_set_ne (by omega)]
      · rfl
theorem stepsS_names (sub : UInt8 → Tm → Tm → Tm × Bool) (fr : Text) (x : UInt8) (ns : Text) (b : Tm) : ∀ (k j : Nat), k ≤ j → (stepsS sub fr x ns b k).ns[j]? = ns[j]?
  | 0, _, _ => rfl
  | k + 1, j, h => (stepS_names sub fr x k _ j (by omega)).trans (stepsS_names sub fr x ns b k j (by omega))
theorem dif_take {ns : Text} (h : Dif ns) {k : Nat} {c : UInt8} (hc : ns[k]? = some c) : c ∉ ns.take k := by
  intro hm
  obtain ⟨i, hi⟩ := List.getElem?_of_mem hm
  rw [List.getElem?_take] at hi
  split at hi
  · exact h i k c (by assumption) hi hc
  · cases hi
/-- A value is a binder in a state that is well. -/
structure OpAt (t : Tm) (s : Bs) (v : Value) : Prop where
  val : v = enc (withNB t s.ns s.b)
  ok : s.ok = true
/-- How many names a tally has, in whatever world it lies as it was. -/
theorem Tally.lenK {w : World} {b n : Nat} {m : UInt8 → Nat} (h : Tally w b n m) : ∃ k : Nat, (k = 0 ↔ ∀ c, m c = 0) ∧ k ≤ n ∧ ∀ w', Below w.heap.size w w' → ∀ t, (Builtin.len_ #[69] t #[.map (some b)]).run Tryz.prog w' = .ok (.int .i64 (k : Int)) w' := by
  obtain ⟨D, hown, h1⟩ := h
  exact ⟨_, tally_size hown h1, hown.size_le, fun w' hb t => (hown.kept (row := none) (below_grown hb) (by simp)).len Tryz.underTally t⟩
set_option maxRecDepth 100000 in
set_option maxHeartbeats 4000000 in
theorem opened_open (n : Nat) (ih : IntoC n) (x : UInt8) (u t : Tm) (b m : Nat) (w : World) (hg : t.good) (hu : u.good) (hpu : (parts u).length ≤ 4000) (hp : (parts t).length ≤ 4000) (hd : (lastK t).depth ≤ n) (hn : n ≤ 4000) (hbn : bindsOf t ≠ []) (hT : Tally w b m (cntF u)) (hm : m ≤ 4000) (hc : sfree u ≠ []) (htd : t.depth ≤ 4000) :
    Calls Tryz.prog 142 #[putV x u b, enc t] w (SubP (openT n x u t) w) := by
  have hb0 := (Below.refl _ w).alloc (Nat.le_refl _) (.cells #[bv x, enc u, .map (some b)] 168)
  have KB := fun w' => boundBy_c t hg w'
  have hlen : 0 < (bindsOf t).length := List.length_pos_iff.2 hbn
  have hkids := binder_kids hbn
  have hlk := lastK_mem hkids
  have hpl := parts_kid_le hlk
  have hgl := Tm.kid_good hg hlk
  have hz : ¬ ∀ c, cntF u c = 0 := fun h => hc ((nil_cnt hu).2 h)
  have z := World.alloc_heap_new w (.cells #[bv x, enc u, .map (some b)] 168)
  have hs0 : w.heap.size < (w.alloc (.cells #[bv x, enc u, .map (some b)] 168)).heap.size := by simp
  have hT0 := hT.alloc (.cells #[bv x, enc u, .map (some b)] 168)
  have K1 := fun w' => bodyOf_c t hkids w'
  have K2 := fun w' => freeIn_c 4000 (lastK t) w' (by omega) (Nat.le_refl _) (by omega) hgl
  have HP := Lib.hid hpl
  have hl2 : (bindsOf t).length ≤ 2 := binds_len t
  obtain ⟨ln, lv, hlv⟩ := enc_gen (lastK t)
  obtain ⟨un, uv, huv⟩ := enc_gen u
  obtain ⟨tn, tv, htv⟩ := enc_gen t
  have HTV := Lib.hid htv
  have HUV := Lib.hid huv
  unfold putV
  simp only [hlv, huv, htv] at KB K1 K2 hb0 z hs0 hT0 ⊢
  clear huv htv hlv hc hpl
  go_enter Tryz.func142, Tryz.ntmps142
  generalize hW0 : w.alloc (.cells #[bv x, .iface un uv, .map (some b)] 168) = W0 at *
  go_wp2_with (go_at_call 71; refine (KB _).mono ?_; clear KB; rintro e w1 ⟨v, rfl, hsv, hb1⟩; obtain ⟨a1, rfl, hcell⟩ := hsv.uni; have HC := Lib.hid hcell; clear hcell hsv)
  have hT1 := hT0.below hb1
  obtain ⟨p0, p1, p2, pf⟩ := three_of ((hb1.block _ hs0).trans z)
  obtain ⟨k, hk, hkm, hrunK⟩ := hT1.lenK
  have hk0 : ((k : Int) == 0) = false := by
    rw [beq_eq_false_iff_ne]
    intro e
    exact hz (hk.1 (by omega))
  have hl1 : (((bindsOf t).length : Int) == 0) = false := by rw [beq_eq_false_iff_ne]; omega
  have q0 : w1.drew.cell? ⟨w.heap.size, 0, none⟩ = some (bv x) := p0
  have q2 : w1.drew.cell? ⟨w.heap.size, 2, none⟩ = some (.map (some b)) := p2
  have qB : Below w1.heap.size w1 w1.drew := (Below.refl _ w1).drew
  have qr := hrunK _ qB
  have hSS : ∀ W W', (W.cell? ⟨w.heap.size, 0, none⟩ = some (bv x) ∧ W.cell? ⟨w.heap.size, 2, none⟩ = some (.map (some b)) ∧ (∀ t, (Builtin.len_ #[69] t #[.map (some b)]).run Tryz.prog W = .ok (.int .i64 (k : Int)) W) ∧ Below w1.heap.size w1 W) → Below W.heap.size W W' →
      W'.cell? ⟨w.heap.size, 0, none⟩ = some (bv x) ∧ W'.cell? ⟨w.heap.size, 2, none⟩ = some (.map (some b)) ∧ (∀ t, (Builtin.len_ #[69] t #[.map (some b)]).run Tryz.prog W' = .ok (.int .i64 (k : Int)) W') ∧ Below w1.heap.size w1 W' := by
    rintro W W' ⟨h0, h2, h3, h4⟩ hb
    have hB := h4.trans (hb.mono h4.size)
    have hl : w.heap.size < W.heap.size := by have := h4.size; have := hb1.size; omega
    exact ⟨(hb.cell (p := ⟨w.heap.size, 0, none⟩) hl).trans h0, (hb.cell (p := ⟨w.heap.size, 2, none⟩) hl).trans h2, hrunK W' hB, hB⟩
  have C1 : ∀ W, (W.cell? ⟨w.heap.size, 0, none⟩ = some (bv x) ∧ W.cell? ⟨w.heap.size, 2, none⟩ = some (.map (some b)) ∧ (∀ t, (Builtin.len_ #[69] t #[.map (some b)]).run Tryz.prog W = .ok (.int .i64 (k : Int)) W) ∧ Below w1.heap.size w1 W) →
      Calls Tryz.prog 145 #[.iface tn tv] W fun e W' => e = .returned (.iface ln lv) ∧ W'.cell? ⟨w.heap.size, 0, none⟩ = some (bv x) ∧ W'.cell? ⟨w.heap.size, 2, none⟩ = some (.map (some b)) ∧ (∀ t, (Builtin.len_ #[69] t #[.map (some b)]).run Tryz.prog W' = .ok (.int .i64 (k : Int)) W') ∧ Below w1.heap.size w1 W' :=
    fun W hS => (K1 W).mono fun e W' h => ⟨h.1, hSS W W' hS h.2⟩
  have C2 : ∀ W, (W.cell? ⟨w.heap.size, 0, none⟩ = some (bv x) ∧ W.cell? ⟨w.heap.size, 2, none⟩ = some (.map (some b)) ∧ (∀ t, (Builtin.len_ #[69] t #[.map (some b)]).run Tryz.prog W = .ok (.int .i64 (k : Int)) W) ∧ Below w1.heap.size w1 W) →
      Calls Tryz.prog 41 #[.iface ln lv] W fun e W' => ∃ bf, e = .returned (.map (some bf)) ∧ (Instr.lookup 69 (.map (some bf)) (.int .u8 (x.toNat : Int)) false).run Tryz.prog W' = .ok (.int .i64 (cntF (lastK t) x : Int)) W' ∧ W'.cell? ⟨w.heap.size, 0, none⟩ = some (bv x) ∧ W'.cell? ⟨w.heap.size, 2, none⟩ = some (.map (some b)) ∧ (∀ t, (Builtin.len_ #[69] t #[.map (some b)]).run Tryz.prog W' = .ok (.int .i64 (k : Int)) W') ∧ Below w1.heap.size w1 W' :=
    fun W hS => (K2 W).mono fun e W' ⟨bf, nf, h1, _, _, h4, h5⟩ => ⟨bf, h1, h4.look x, hSS W W' hS h5⟩
  have HK := Lib.hid hrunK
  clear hrunK hSS K1 K2
  have hB1 : Below w.heap.size w w1 := hb0.trans (hb1.mono hb0.size)
  by_cases hcnt : cntF (lastK t) x = 0
  · have hc0 : ((cntF (lastK t) x : Int) == 0) = true := by rw [hcnt]; rfl
    have HCN := Lib.hid hcnt
    clear hcnt
    go_region_held3 (fun w' => w'.cell? ⟨w.heap.size, 0, none⟩ = some (bv x) ∧ w'.cell? ⟨w.heap.size, 2, none⟩ = some (.map (some b)) ∧ (∀ t, (Builtin.len_ #[69] t #[.map (some b)]).run Tryz.prog w' = .ok (.int .i64 (k : Int)) w') ∧ Below w1.heap.size w1 w')
      (first | go_keep | refine ⟨?_, ?_, ?_, ?_⟩ <;> assumption)
      (first | (go_at_call 145; refine (C1 _ ?_).mono ?_; (refine ⟨?_, ?_, ?_, ?_⟩ <;> assumption); rintro e w2 ⟨rfl, h0, h1, h2, h3⟩) | (go_at_call 41; refine (C2 _ ?_).mono ?_; (refine ⟨?_, ?_, ?_, ?_⟩ <;> assumption); rintro e w3 ⟨bf, rfl, hlook, h0, h1, h2, h3⟩))
    all_goals go_wp2_with fail
    all_goals go_ret
    all_goals refine ⟨.inl ⟨?_, ?_⟩, hB1.trans (Below.mono (by assumption) hB1.size)⟩
    all_goals unfold openT
    all_goals rw [if_pos (.inr (.inr HCN.out))]
    all_goals rw [HTV.out]
    all_goals rfl
  · have hc0 : ((cntF (lastK t) x : Int) == 0) = false := by rw [beq_eq_false_iff_ne]; omega
    have HCN := Lib.hid hcnt
    clear hcnt
    go_region_held3 (fun w' => w'.cell? ⟨w.heap.size, 0, none⟩ = some (bv x) ∧ w'.cell? ⟨w.heap.size, 2, none⟩ = some (.map (some b)) ∧ (∀ t, (Builtin.len_ #[69] t #[.map (some b)]).run Tryz.prog w' = .ok (.int .i64 (k : Int)) w') ∧ Below w1.heap.size w1 w')
      (first | go_keep | refine ⟨?_, ?_, ?_, ?_⟩ <;> assumption)
      (first | (go_at_call 145; refine (C1 _ ?_).mono ?_; (refine ⟨?_, ?_, ?_, ?_⟩ <;> assumption); rintro e w2 ⟨rfl, h0, h1, h2, h3⟩) | (go_at_call 41; refine (C2 _ ?_).mono ?_; (refine ⟨?_, ?_, ?_, ?_⟩ <;> assumption); rintro e w3 ⟨bf, rfl, hlook, h0, h1, h2, h3⟩))
    all_goals go_wp2_with fail
    obtain ⟨S, hS⟩ : ∃ S : Nat → Bs, S = stepsS (subS n) (sfree u) x (bindsOf t) (lastK t) := ⟨_, rfl⟩
    have hSk : ∀ i, BsOk (bindsOf t) (lastK t) (S i) := fun i => by rw [hS]; exact stepsS_keep (fun y d t hd => subS_like n y d t hd) _ _ _ _ i
    have hSn : ∀ i j, i ≤ j → (S i).ns[j]? = (bindsOf t)[j]? := fun i j h => by rw [hS]; exact stepsS_names _ _ _ _ _ i j h
    have hSs : ∀ i, S (i + 1) = stepS (subS n) (sfree u) x i (S i) := fun i => by rw [hS]; rfl
    have hS0 : S 0 = ⟨bindsOf t, lastK t, true, false⟩ := by rw [hS]; rfl
    have hSb : ∀ i, i ≤ (bindsOf t).length → (S i).ok = false → (S (bindsOf t).length).ok = false := fun i h e => by
      have := stepsS_bad (subS n) (sfree u) x (bindsOf t) (lastK t) i (by rw [hS] at e; exact e) ((bindsOf t).length - i)
      rw [show i + ((bindsOf t).length - i) = (bindsOf t).length by omega] at this
      rw [hS]; exact this
    have hSl : ∀ i, (S i).left = true → (S i).ok = false := fun i h => by rw [hS] at h ⊢; exact stepsS_left_bad _ _ _ _ _ i h
    have hop : openT n x u t = (withNB t (S (bindsOf t).length).ns (S (bindsOf t).length).b, (S (bindsOf t).length).ok) := by
      unfold openT
      rw [if_neg (by rintro (h | h | h); exact hbn h; exact hz ((nil_cnt hu).1 h); exact HCN.out h), hS]
    have HSK := Lib.hid hSk
    have HSN := Lib.hid hSn
    have HSS := Lib.hid hSs
    have HSB := Lib.hid hSb
    have HSL := Lib.hid hSl
    have HOP := Lib.hid hop
    have HS0 := Lib.hid hS0
    have hBw3 : Below w1.heap.size w1 w3 := h3
    have p1' := p1
    clear hS hSk hSn hSs hSb hSl hop hS0 hlook h0 h1 h2 C1 C2
    go_loopw [1, 31] (fun tv' j wr => ∃ i : Nat, i ≤ (bindsOf t).length ∧ j = .int .i64 i ∧ OpAt t (S i) tv' ∧ Below w1.heap.size w1 wr) (fun _ j _ => (bindsOf t).length - (intOf j).toNat)
    case atStart =>
      refine ⟨0, Nat.zero_le _, rfl, ⟨?_, by rw [HS0.out]⟩, hBw3⟩
      rw [HS0.out, withNB_self hbn, HTV.out]
    case round =>
      obtain ⟨i, hi, rfl, ⟨rfl, hok⟩, hBr⟩ := hrel
      have NB := withNB_ok t hbn hg (S i) (HSK.out i)
      have hBw : Below w.heap.size w wr := hB1.trans (hBr.mono hB1.size)
      by_cases hlt : i < (bindsOf t).length
      · obtain ⟨c, hc⟩ : ∃ c, (bindsOf t)[i]? = some c := ⟨_, List.getElem?_eq_getElem hlt⟩
        obtain ⟨g, rfl, hg1, hg2, hcg⟩ := HC.out i (bv c) (by simp [hc])
        have cg := (hBr.cell (p := ⟨g, i, none⟩) hg2).trans hcg
        have hwl : w.heap.size < w1.heap.size := by have := hb1.size; omega
        have r0 := (hBr.cell (p := ⟨w.heap.size, 0, none⟩) hwl).trans p0
        have r1 := (hBr.cell (p := ⟨w.heap.size, 1, none⟩) hwl).trans p1
        have r2 := (hBr.cell (p := ⟨w.heap.size, 2, none⟩) hwl).trans p2
        have hTr : Tally wr b m (cntF u) := hT1.below hBr
        have hci : (S i).ns[i]? = some c := (HSN.out i i (Nat.le_refl _)).trans hc
        have hnl : (S i).left = false := by
          cases h : (S i).left with
          | false => rfl
          | true => rw [HSL.out i h] at hok; cases hok
        have hstep : S (i + 1) = stepS (subS n) (sfree u) x i (S i) := HSS.out i
        unfold stepS at hstep
        rw [if_neg (by rw [hnl]; decide), hci] at hstep
        simp only at hstep
        have hfi := dif_take ((HSK.out i).nod (binds_dif hg)) hci
        have hkn : (withNB t (S i).ns (S i).b).kids ≠ [] := binder_kids (by rw [NB.binds]; intro e; rw [e] at hci; cases hci)
        have hbnk : bindsOf (withNB t (S i).ns (S i).b) ≠ [] := by rw [NB.binds]; intro e; rw [e] at hci; cases hci
        have KT := takenFor_c x u (withNB t (S i).ns (S i).b) b m
        have hck : (bindsOf (withNB t (S i).ns (S i).b))[i]? = some c := by rw [NB.binds]; exact hci
        have hfk : c ∉ (bindsOf (withNB t (S i).ns (S i).b)).take i := by rw [NB.binds]; exact hfi
        have hdk : (lastK (withNB t (S i).ns (S i).b)).depth ≤ n := by rw [NB.last, (HSK.out i).like.deep]; exact hd
        have KR := fun d w' (hdn : isNam d = true) => renamed_c n ih (withNB t (S i).ns (S i).b) i c d w' NB.good hbnk hck hfk hdn hdk hn (by rw [NB.many]; exact hp)
        have KTN := take_new x u (withNB t (S i).ns (S i).b) hu (by rw [NB.last]; exact (HSK.out i).like.good hgl)
        simp only [NB.last, NB.binds, NB.again] at KTN KR
        have KT2 := fun w' (h : Tally w' b m (cntF u)) => KT w' h hm hpu NB.good hkn (by rw [NB.many]; exact hp) (by rw [NB.deep]; exact htd)
        rw [NB.binds] at KT2
        obtain ⟨sn, sv, hsv⟩ := enc_gen (withNB t (S i).ns (S i).b)
        unfold putV at KT2
        rw [HUV.out, hsv] at KT2
        rw [hsv] at KR ⊢
        have HSV := Lib.hid hsv
        have HOK := Lib.hid hok
        have HST := Lib.hid hstep
        have HKN := Lib.hid KTN
        have HCC := Lib.hid hc
        clear hsv hok hstep KTN KT hck hfk hci hfi hcg hc
        by_cases hfr : c ∈ sfree u
        · have hcu : 0 < cntF u c := Nat.pos_of_ne_zero ((mem_free hu c).1 hfr)
          have hgt : ((0 : Int) < (cntF u c : Int)) := by omega
          have HFR := Lib.hid hfr
          clear hfr
          go_wp2_with (first
            | (at_lookup; refine wpList_lookup_tally rfl _ _ rfl rfl hTr c rfl ?_)
            | (go_at_call 148; refine (KT2 _ hTr).mono ?_; clear KT2; rintro e w4 ⟨b', m', rfl, hb', hT4, hb4⟩))
          refine (mustUntaken_c b' m' _ w4 hT4).mono ?_
          rw [HKN.out]
          have hBr4 : Below w1.heap.size w1 w4 := hBr.trans (hb4.mono hBr.size)
          rintro e w5 ⟨⟨d, hd5, rfl⟩ | ⟨hd5, rfl⟩, hb5⟩
          · have hdn := (newO_nam hd5).1
            have K6 := KR d w5 hdn
            have hBr5 : Below w1.heap.size w1 w5 := hBr4.trans (hb5.mono hBr4.size)
            have HD5 := Lib.hid hd5
            clear hd5 KR
            go_wp2_with fail
            refine K6.mono ?_
            clear K6
            have hst2 := HST.out
            rw [if_pos HFR.out, HD5.out] at hst2
            simp only at hst2
            rintro e w6 ⟨⟨h1, rfl⟩ | ⟨h1, rfl⟩, hb6⟩
            · have HS6 := Lib.hid hst2
              have H1 := Lib.hid h1
              clear hst2 h1
              obtain ⟨zn, zv, hzv⟩ := enc_gen (withNB t ((S i).ns.set i d) (subS n c (.var d) (S i).b).1)
              have HZ := Lib.hid hzv
              simp only [hzv]
              clear hzv
              go_wp2_with fail
              refine ⟨⟨i + 1, by omega, by go_num, ⟨?_, ?_⟩, hBr5.trans (hb6.mono hBr5.size)⟩, by simp [intOf]; omega⟩
              · rw [HS6.out, HZ.out]
              · rw [HS6.out]
                simp only
                rw [HOK.out, H1.out]; rfl
            · have hbad := HSB.out (i + 1) (by omega) (by rw [hst2]; simp only; rw [h1, Bool.and_false])
              refine ⟨rfl, .inr ⟨by rw [HOP.out]; exact hbad, rfl⟩, ?_⟩
              exact (hB1.trans (hBr5.mono hB1.size)).trans (hb6.mono (by have := hB1.size; have := hBr5.size; omega))
          · have hst2 := HST.out
            rw [if_pos HFR.out, hd5] at hst2
            have hbad := HSB.out (i + 1) (by omega) (by rw [hst2])
            refine ⟨rfl, .inr ⟨by rw [HOP.out]; exact hbad, rfl⟩, ?_⟩
            exact (hB1.trans (hBr4.mono hB1.size)).trans (hb5.mono (by have := hB1.size; have := hBr4.size; omega))
        · have hcu : cntF u c = 0 := by
            apply Classical.byContradiction
            intro h
            exact hfr ((mem_free hu c).2 h)
          have HCU := Lib.hid hcu
          have hst2 := HST.out
          rw [if_neg hfr] at hst2
          have HS6 := Lib.hid hst2
          clear hst2 hfr hcu
          go_wp2_with (at_lookup; refine wpList_lookup_tally rfl _ _ rfl rfl hTr c rfl ?_; rw [HCU.out, show ((0 : Nat) : Int) = 0 from rfl])
          refine ⟨⟨i + 1, by omega, by go_num, ⟨?_, ?_⟩, hBr⟩, by simp [intOf]; omega⟩
          · rw [HS6.out, HSV.out]
          · rw [HS6.out]; exact HOK.out
      · obtain rfl : i = (bindsOf t).length := by omega
        obtain ⟨sn, sv, hsv⟩ := enc_gen (withNB t (S (bindsOf t).length).ns (S (bindsOf t).length).b)
        have HV := Lib.hid hsv
        have HOK := Lib.hid hok
        rw [hsv]
        clear hsv hok
        go_wp2_with fail
        go_ret
        refine ⟨.inl ⟨?_, ?_⟩, hBw⟩
        · rw [HOP.out]; exact HOK.out
        · rw [HOP.out, HV.out]; rfl
end Go.Proofs.YtefmmgccdpfnaaaGreatDoor

/- The program's putting: into a term; put. -/
namespace Go.Proofs.YtefmmgccdpfnaaaGreatDoor
open Go.RowKit
open Ff
set_option linter.unusedVariables false
attribute [local go_sem] Oper.semAt_some

theorem opened_c (n : Nat) (ih : IntoC n) (x : UInt8) (u t : Tm) (b m : Nat) (w : World) (hg : t.good) (hu : u.good) (hpu : (parts u).length ≤ 4000) (hp : (parts t).length ≤ 4000 ∨ sfree u = []) (hd : ∀ s ∈ t.kids, s.depth ≤ n) (hn : n ≤ 4000) (hT : Tally w b m (cntF u)) (hm : m ≤ 4000) (htd : t.depth ≤ 4000) :
    Calls Tryz.prog 142 #[putV x u b, enc t] w (SubP (openT n x u t) w) := by
  by_cases hb : bindsOf t = []
  · have e : openT n x u t = (t, true) := by unfold openT; rw [if_pos (.inl hb)]
    rw [e]
    exact (opened_none x u t b m w hg hb).mono fun e w' h => ⟨.inl ⟨rfl, h.1⟩, h.2⟩
  · by_cases hc : sfree u = []
    · have e : openT n x u t = (t, true) := by unfold openT; rw [if_pos (.inr (.inl hc))]
      rw [e]
      exact (opened_closed x u t b m w hg hu hb hT hc).mono fun e w' h => ⟨.inl ⟨rfl, h.1⟩, h.2⟩
    · exact opened_open n ih x u t b m w hg hu hpu (hp.resolve_right hc) (hd _ (lastK_mem (binder_kids hb))) hn hb hT hm hc htd
theorem openT_neg {n : Nat} {x : UInt8} {u t : Tm} (h : ¬ (bindsOf t = [] ∨ sfree u = [] ∨ cntF (lastK t) x = 0)) :
    openT n x u t = (withNB t (stepsS (subS n) (sfree u) x (bindsOf t) (lastK t) (bindsOf t).length).ns (stepsS (subS n) (sfree u) x (bindsOf t) (lastK t) (bindsOf t).length).b, (stepsS (subS n) (sfree u) x (bindsOf t) (lastK t) (bindsOf t).length).ok) := by
  unfold openT
  rw [if_neg h]
/-- What an opened part is: as a part of its kind, and what its kids are. -/
structure OpenOk (n : Nat) (x : UInt8) (u t : Tm) : Prop where
  good : (openT n x u t).1.good
  kids : ∀ s ∈ (openT n x u t).1.kids, s.depth ≤ n ∧ ((parts s).length ≤ 4000 ∨ sfree u = [])
theorem open_ok (n : Nat) (x : UInt8) (u t : Tm) (hg : t.good) (hp : (parts t).length ≤ 4000 ∨ sfree u = []) (hd : ∀ s ∈ t.kids, s.depth ≤ n) : OpenOk n x u t := by
  have hkp : ∀ s ∈ t.kids, (parts s).length ≤ 4000 ∨ sfree u = [] := fun s hs => hp.imp (fun h => Nat.le_trans (parts_kid_le hs) h) id
  by_cases h : bindsOf t = [] ∨ sfree u = [] ∨ cntF (lastK t) x = 0
  · have e : openT n x u t = (t, true) := by unfold openT; rw [if_pos h]
    exact ⟨by rw [e]; exact hg, by rw [e]; exact fun s hs => ⟨hd s hs, hkp s hs⟩⟩
  · have hb : bindsOf t ≠ [] := fun e => h (.inl e)
    have e := openT_neg (n := n) h
    have K := stepsS_keep (fun y d t hd => subS_like n y d t hd) (sfree u) x (bindsOf t) (lastK t) (bindsOf t).length
    have NB := withNB_ok t hb hg _ K
    refine ⟨by rw [e]; exact NB.good, ?_⟩
    rw [e]
    simp only
    generalize hS : stepsS (subS n) (sfree u) x (bindsOf t) (lastK t) (bindsOf t).length = S at K NB
    have hl : S.b.depth ≤ n ∧ ((parts S.b).length ≤ 4000 ∨ sfree u = []) := by
      rw [K.like.deep, K.like.many]
      exact ⟨hd _ (lastK_mem (binder_kids hb)), hkp _ (lastK_mem (binder_kids hb))⟩
    intro s hs
    cases t with
    | fn c b => simp only [withNB, Tm.kids, List.mem_singleton] at hs; subst hs; exact hl
    | fix f c b => simp only [withNB, Tm.kids, List.mem_singleton] at hs; subst hs; exact hl
    | bind c v b =>
      simp only [withNB, Tm.kids, List.mem_cons, List.not_mem_nil, or_false] at hs
      rcases hs with rfl | rfl
      · exact ⟨hd _ (by simp [Tm.kids]), hkp _ (by simp [Tm.kids])⟩
      · exact hl
    | num _ => exact absurd rfl hb
    | var _ => exact absurd rfl hb
    | app _ _ => exact absurd rfl hb
    | op _ _ _ => exact absurd rfl hb
    | sel _ _ _ => exact absurd rfl hb
/-- What putting comes to, kid by kid. -/
def rsAll (n : Nat) (x : UInt8) (u t : Tm) : List (Tm × Bool) := t.kids.map (subS n x u)
theorem into_bound (n : Nat) (x : UInt8) (u t : Tm) (hx : x ∈ bindsOf t) : subS (n + 1) x u t = (reTm t (bindsOf t) ((t.kids.dropLast.map (subS n x u) ++ [(lastK t, true)]).map (·.1)), (t.kids.dropLast.map (subS n x u) ++ [(lastK t, true)]).all (·.2)) := by
  cases t with
  | fn c b =>
    have e := undS_none (subS n) [c] b x u (.inl hx)
    simp [subS, e, reTm, Tm.kids, bindsOf, lastK]
  | fix f c b =>
    have e := undS_none (subS n) [f, c] b x u (.inl hx)
    simp [subS, e, reTm, Tm.kids, bindsOf, lastK]
  | bind c v b =>
    have e := undS_none (subS n) [c] b x u (.inl hx)
    simp [subS, e, reTm, Tm.kids, bindsOf, lastK]
  | num _ => simp [bindsOf] at hx
  | var _ => simp [bindsOf] at hx
  | app _ _ => simp [bindsOf] at hx
  | op _ _ _ => simp [bindsOf] at hx
  | sel _ _ _ => simp [bindsOf] at hx
theorem into_open (n : Nat) (x : UInt8) (u t : Tm) (hx : x ∉ bindsOf t) (hv : t ≠ .var x) : ((openT n x u t).2 = false → (subS (n + 1) x u t).2 = false) ∧
    ((openT n x u t).2 = true → subS (n + 1) x u t = (reTm (openT n x u t).1 (bindsOf (openT n x u t).1) ((rsAll n x u (openT n x u t).1).map (·.1)), (rsAll n x u (openT n x u t).1).all (·.2))) := by
  by_cases h : bindsOf t = [] ∨ sfree u = [] ∨ cntF (lastK t) x = 0
  · have e : openT n x u t = (t, true) := by unfold openT; rw [if_pos h]
    rw [e]
    refine ⟨(fun h => by cases h), fun _ => ?_⟩
    have key : ∀ (ns : Text) (b : Tm), bindsOf t = ns → lastK t = b → ns ≠ [] → undS (subS n) ns b x u = (ns, (subS n x u b).1, (subS n x u b).2) := by
      rintro ns b rfl rfl hns
      rcases h with h | h | h
      · exact absurd h hns
      · rw [undS_closed _ _ _ _ _ h]
        split
        · rename_i h2
          rcases h2 with h2 | h2
          · exact absurd h2 hx
          · rw [subS_none n x u _ h2]
        · rfl
      · rw [undS_none _ _ _ _ _ (.inr h), subS_none n x u _ h]
    cases t with
    | num _ => simp [subS, rsAll, reTm, Tm.kids]
    | var c =>
      have : c ≠ x := fun e => hv (by rw [e])
      simp [subS, rsAll, reTm, Tm.kids, this]
    | fn c b => simp [subS, key [c] b rfl (by simp [lastK, Tm.kids]) (by simp), rsAll, reTm, Tm.kids, bindsOf]
    | fix f c b => simp [subS, key [f, c] b rfl (by simp [lastK, Tm.kids]) (by simp), rsAll, reTm, Tm.kids, bindsOf]
    | app _ _ => simp [subS, rsAll, reTm, Tm.kids]
    | bind c v b => simp [subS, key [c] b rfl (by simp [lastK, Tm.kids]) (by simp), rsAll, reTm, Tm.kids, bindsOf]
    | op _ _ _ => simp [subS, rsAll, reTm, Tm.kids]
    | sel _ _ _ => simp [subS, rsAll, reTm, Tm.kids, Bool.and_assoc]
  · have hb : bindsOf t ≠ [] := fun e => h (.inl e)
    have e := openT_neg (n := n) h
    have K := stepsS_keep (fun y d t hd => subS_like n y d t hd) (sfree u) x (bindsOf t) (lastK t) (bindsOf t).length
    have hc : ¬ (x ∈ bindsOf t ∨ cntF (lastK t) x = 0) := by rintro (h2 | h2); exact hx h2; exact h (.inr (.inr h2))
    obtain ⟨U1, U2⟩ := undS_ok (subS n) (bindsOf t) (lastK t) x u hc
    rw [e]
    simp only
    generalize stepsS (subS n) (sfree u) x (bindsOf t) (lastK t) (bindsOf t).length = S at *
    have hl := K.len
    cases t with
    | fn c b =>
      obtain ⟨c', e1⟩ := one_of hl
      simp only [bindsOf, lastK, Tm.kids, List.getLast?_singleton, Option.getD_some] at U1 U2 ⊢
      refine ⟨fun hf => by simp only [subS, U1, hf, Bool.false_and], fun ht => ?_⟩
      simp only [subS, U2 ht]
      simp [withNB, rsAll, reTm, Tm.kids, e1]
    | fix f c b =>
      obtain ⟨f', c', e1⟩ := two_of' hl
      simp only [bindsOf, lastK, Tm.kids, List.getLast?_singleton, Option.getD_some] at U1 U2 ⊢
      refine ⟨fun hf => by simp only [subS, U1, hf, Bool.false_and], fun ht => ?_⟩
      simp only [subS, U2 ht]
      simp [withNB, rsAll, reTm, Tm.kids, e1]
    | bind c v b =>
      obtain ⟨c', e1⟩ := one_of hl
      have eL : lastK (.bind c v b) = b := by simp [lastK, Tm.kids]
      simp only [bindsOf, eL] at U1 U2 ⊢
      refine ⟨fun hf => by simp only [subS, U1, hf, Bool.false_and, Bool.and_false], fun ht => ?_⟩
      simp only [subS, U2 ht]
      simp [withNB, rsAll, reTm, Tm.kids, e1]
    | num _ => exact absurd rfl hb
    | var _ => exact absurd rfl hb
    | app _ _ => exact absurd rfl hb
    | op _ _ _ => exact absurd rfl hb
    | sel _ _ _ => exact absurd rfl hb
end Go.Proofs.YtefmmgccdpfnaaaGreatDoor

/- The program's putting: into a term. Written by genPh.py. -/
namespace Go.Proofs.YtefmmgccdpfnaaaGreatDoor
open Go.RowKit
open Ff
set_option linter.unusedVariables false
attribute [local go_sem] Oper.semAt_some

/-- Where a box of a putting lies, and what is below. -/
abbrev BoxS (w W1 : World) (x : UInt8) (un : TypeId) (uv : Value) (b : Nat) (w' : World) : Prop := w'.cell? ⟨w.heap.size, 0, none⟩ = some (bv x) ∧ w'.cell? ⟨w.heap.size, 1, none⟩ = some (.iface un uv) ∧ w'.cell? ⟨w.heap.size, 2, none⟩ = some (.map (some b)) ∧ Below W1.heap.size W1 w'
theorem BoxS.keep {w W1 : World} {x : UInt8} {un : TypeId} {uv : Value} {b : Nat} {W W' : World} (h : BoxS w W1 x un uv b W) (hl : w.heap.size < W1.heap.size) (hb : Below W.heap.size W W') : BoxS w W1 x un uv b W' := by
  obtain ⟨h0, h1, h2, h3⟩ := h
  have hw : w.heap.size < W.heap.size := by have := h3.size; omega
  exact ⟨(hb.cell (p := ⟨w.heap.size, 0, none⟩) hw).trans h0, (hb.cell (p := ⟨w.heap.size, 1, none⟩) hw).trans h1, (hb.cell (p := ⟨w.heap.size, 2, none⟩) hw).trans h2, h3.trans (hb.mono h3.size)⟩
theorem var_shape (t : Tm) : ∃ z : Int, varV t = .agg #[.int .u8 z] := by
  cases t <;> exact ⟨_, rfl⟩
/-- The kids of a part that binds the name itself. -/
def rsB (n : Nat) (x : UInt8) (u t : Tm) : List (Tm × Bool) := t.kids.dropLast.map (subS n x u) ++ [(lastK t, true)]
theorem rsB_len (n : Nat) (x : UInt8) (u t : Tm) (h : t.kids ≠ []) : (rsB n x u t).length = t.kids.length := by
  have := List.length_pos_iff.2 h
  simp [rsB]; omega
theorem rsB_at (n : Nat) (x : UInt8) (u t : Tm) (h : t.kids ≠ []) {k : Nat} {s : Tm} {q : Tm × Bool} (hs : t.kids[k]? = some s) (hq : (rsB n x u t)[k]? = some q) : (k + 1 = t.kids.length ∧ q = (s, true)) ∨ (k + 1 ≠ t.kids.length ∧ q = subS n x u s) := by
  have hl := List.length_pos_iff.2 h
  have hk := (List.getElem?_eq_some_iff.1 hs).1
  unfold rsB at hq
  by_cases e : k + 1 = t.kids.length
  · refine .inl ⟨e, ?_⟩
    rw [List.getElem?_append_right (by simp; omega)] at hq
    simp only [List.length_map, List.length_dropLast, show k - (t.kids.length - 1) = 0 by omega, List.getElem?_cons_zero, Option.some.injEq] at hq
    rw [← hq]
    unfold lastK
    rw [List.getLast?_eq_getElem?, show t.kids.length - 1 = k by omega, hs]; rfl
  · refine .inr ⟨e, ?_⟩
    rw [List.getElem?_append_left (by simp; omega)] at hq
    simp only [List.getElem?_map, List.getElem?_dropLast] at hq
    rw [if_pos (by omega), hs] at hq
    simpa using hq.symm
set_option maxRecDepth 100000 in
set_option maxHeartbeats 4000000 in
theorem into_var (n : Nat) (x : UInt8) (u : Tm) (b : Nat) (w : World) :
    Calls Tryz.prog 137 #[putV x u b, enc (.var x)] w (SubP (subS (n + 1) x u (.var x)) w) := by
  have a0 := ta_var (.var x)
  obtain ⟨un, uv, huv⟩ := enc_gen u
  have HU := Lib.hid huv
  simp only [ty, pl, varV, isVar] at a0
  unfold putV
  rw [huv]
  simp only [enc]
  clear huv
  go_enter Tryz.func137, Tryz.ntmps137
  go_wp2_with fail
  go_ret
  refine ⟨.inl ⟨rfl, ?_⟩, ((Below.refl _ w).alloc (Nat.le_refl _) _).alloc (by simp) _⟩
  simp only [subS, if_true]
  rw [HU.out]
  rfl
set_option maxRecDepth 100000 in
set_option maxHeartbeats 8000000 in
theorem iinto_bound (n : Nat) (ih : IntoC n) (x : UInt8) (u t : Tm) (b m : Nat) (w : World) (ht : t.depth ≤ n + 1) (hn : n + 1 ≤ 4000) (hg : t.good) (hu : u.good) (hpu : (parts u).length ≤ 4000) (hp : (parts t).length ≤ 4000 ∨ sfree u = []) (hT : Tally w b m (cntF u)) (hm : m ≤ 4000) (hvar : t ≠ .var x) (hx : x ∈ bindsOf t) :
    Calls Tryz.prog 137 #[putV x u b, enc t] w (SubP (subS (n + 1) x u t) w) := by
  have a0 := ta_var t
  obtain ⟨z, hz⟩ := var_shape t
  have hzx : isVar t = true → (z == (x.toNat : Int)) = false := by
    intro h
    cases t with
    | var c =>
      simp only [varV, pl, Value.agg.injEq, Array.mk.injEq, List.cons.injEq, Value.int.injEq, true_and, and_true] at hz
      rw [← hz, beq_eq_false_iff_ne]
      intro e
      exact hvar (by rw [UInt8.toNat_inj.1 (by omega : c.toNat = x.toNat)])
    | _ => simp [isVar] at h
  rw [hz] at a0
  have KB := fun w' => boundBy_c t hg w'
  have hlen := binds_len t
  have KC := fun a w' h => containsB_c (bindsOf t) x a (bindsOf t).length w' (by omega) h
  rw [decide_eq_true hx] at KC
  have hdk : ∀ s ∈ t.kids, s.depth ≤ n := fun s hs => by have := kid_depth hs; omega
  have hpk : ∀ s ∈ t.kids, (parts s).length ≤ 4000 ∨ sfree u = [] := fun s hs => hp.imp (fun h => Nat.le_trans (parts_kid_le hs) h) id
  have hbn : bindsOf t ≠ [] := fun e => by rw [e] at hx; cases hx
  have hkids := binder_kids hbn
  have hsub := into_bound n x u t hx
  change subS (n + 1) x u t = (reTm t (bindsOf t) ((rsB n x u t).map (·.1)), (rsB n x u t).all (·.2)) at hsub
  have HSB := Lib.hid hsub
  clear hsub
  obtain ⟨un, uv, huv⟩ := enc_gen u
  have HU := Lib.hid huv
  rw [enc_ty t] at KB ⊢
  unfold putV
  rw [huv]
  generalize hff : isVar t = f at a0 hzx
  clear hz hvar hff
  have zz := World.alloc_heap_new w (.cells #[bv x, .iface un uv, .map (some b)] 168)
  have hs0 : w.heap.size < (w.alloc (.cells #[bv x, .iface un uv, .map (some b)] 168)).heap.size := by simp
  have hB0 := (Below.refl _ w).alloc (Nat.le_refl _) (.cells #[bv x, .iface un uv, .map (some b)] 168)
  have hT0 := hT.alloc (.cells #[bv x, .iface un uv, .map (some b)] 168)
  go_enter Tryz.func137, Tryz.ntmps137
  cases f
  all_goals simp only [Bool.false_eq_true, false_implies, true_implies] at hzx
  all_goals go_wp2_with fail
  all_goals
    have hB1 : Below w.heap.size w ((w.alloc (.cells #[bv x, .iface un uv, .map (some b)] 168)).alloc (.cells #[.int .u8 z] 105)) := hB0.alloc (by simp) _
    have hT1 : Tally ((w.alloc (.cells #[bv x, .iface un uv, .map (some b)] 168)).alloc (.cells #[.int .u8 z] 105)) b m (cntF u) := hT0.alloc _
    have z1 := (((Below.refl _ (w.alloc (.cells #[bv x, .iface un uv, .map (some b)] 168))).alloc (Nat.le_refl _) (.cells #[.int .u8 z] 105)).block _ hs0).trans zz
    have hs1 : w.heap.size < ((w.alloc (.cells #[bv x, .iface un uv, .map (some b)] 168)).alloc (.cells #[.int .u8 z] 105)).heap.size := by simp; omega
    obtain ⟨p0, p1, p2, pf⟩ := three_of z1
    generalize hW1 : (w.alloc (.cells #[bv x, .iface un uv, .map (some b)] 168)).alloc (.cells #[.int .u8 z] 105) = W1 at *
    clear zz hs0 hB0 hT0 z1 a0
    have q0 : W1.drew.cell? ⟨w.heap.size, 0, none⟩ = some (bv x) := p0
    have q1 : W1.drew.cell? ⟨w.heap.size, 1, none⟩ = some (.iface un uv) := p1
    have q2 : W1.drew.cell? ⟨w.heap.size, 2, none⟩ = some (.map (some b)) := p2
    have qB : Below W1.heap.size W1 W1.drew := (Below.refl _ W1).drew
    have KB1 : ∀ W, BoxS w W1 x un uv b W → Calls Tryz.prog 71 #[.iface (ty t) (pl t)] W fun e W' => ∃ a, e = .returned (.slice a (bindsOf t).length (bindsOf t).length) ∧ RowAt W' a ((bindsOf t).map bv) ∧ BoxS w W1 x un uv b W' :=
      fun W hS => (KB W).mono fun e W' ⟨v, h1, h2, h3⟩ => by
        obtain ⟨a, rfl, hr⟩ := h2.row
        exact ⟨a, by rw [h1, List.length_map], hr, hS.keep hs1 h3⟩
    have KC1 : ∀ a W, RowAt W a ((bindsOf t).map bv) → BoxS w W1 x un uv b W → Calls Tryz.prog 140 #[.slice a (bindsOf t).length (bindsOf t).length, bv x] W fun e W' => e = .returned (.bool true) ∧ BoxS w W1 x un uv b W' :=
      fun a W hr hS => (KC a W hr).mono fun e W' ⟨h1, h2⟩ => ⟨h1, h2 ▸ hS⟩
    clear KB KC
    go_region_held3 (fun w' => w'.cell? ⟨w.heap.size, 0, none⟩ = some (bv x) ∧ w'.cell? ⟨w.heap.size, 1, none⟩ = some (.iface un uv) ∧ w'.cell? ⟨w.heap.size, 2, none⟩ = some (.map (some b)) ∧ Below W1.heap.size W1 w')
      (first | go_keep | refine ⟨?_, ?_, ?_, ?_⟩ <;> assumption)
      (first | (go_at_call 71; refine (KB1 _ ?_).mono ?_; (refine ⟨?_, ?_, ?_, ?_⟩ <;> assumption); rintro e w2 ⟨a2, rfl, hr2, h0, h1, h2, h3⟩) | (go_at_call 140; refine (KC1 _ _ ?_ ?_).mono ?_; assumption; (refine ⟨?_, ?_, ?_, ?_⟩ <;> assumption); rintro e w3 ⟨rfl, g0, g1, g2, g3⟩))
  all_goals go_wp2_with fail
  all_goals
    have hrl := rsB_len n x u t hkids
    have hvis : ∀ k s r, t.kids[k]? = some s → (rsB n x u t)[k]? = some r → Visits W1.heap.size W1 (if k + 1 = t.kids.length then (.func (.func 69) #[] #[] : Value) else (.func (.func 137) #[.agg #[bv x, .iface un uv, .map (some b)]] #[] : Value)) s r := by
      intro k s r hs hr
      have hmem := List.mem_of_getElem? hs
      rcases rsB_at n x u t hkids hs hr with ⟨h1, rfl⟩ | ⟨h1, rfl⟩
      · rw [if_pos h1]; exact visits_itself _ _ _
      · rw [if_neg h1, ← HU.out]
        exact visits_into ih _ _ x u s b m (hdk s hmem) (by omega) (Tm.kid_good hg hmem) hu hpu (hpk s hmem) hT1 hm hT1.lt
    obtain ⟨RT, hRT⟩ : ∃ RT, reTm t (bindsOf t) ((rsB n x u t).map (·.1)) = RT := ⟨_, rfl⟩
    have HW := Lib.hid hB1
    have d3 := Below.drew g3
    have d0 : w3.drew.cell? ⟨w.heap.size, 0, none⟩ = some (bv x) := g0
    have d1 : w3.drew.cell? ⟨w.heap.size, 1, none⟩ = some (.iface un uv) := g1
    have d2 : w3.drew.cell? ⟨w.heap.size, 2, none⟩ = some (.map (some b)) := g2
    have KBo : ∀ W, BoxS w W1 x un uv b W → Calls Tryz.prog 71 #[.iface (ty (t)) (pl (t))] W fun e W' => ∃ a, e = .returned (.slice a (bindsOf (t)).length (bindsOf (t)).length) ∧ RowAt W' a ((bindsOf (t)).map bv) ∧ Below W.heap.size W W' ∧ BoxS w W1 x un uv b W' :=
      fun W hS => by
        have K := boundBy_c (t) hg W
        rw [enc_ty] at K
        exact K.mono fun e W' ⟨v, h1, h2, h3⟩ => by
          obtain ⟨a, rfl, hr⟩ := h2.row
          exact ⟨a, by rw [h1, List.length_map], hr, h3, hS.keep hs1 h3⟩
    have KVo : ∀ W, BoxS w W1 x un uv b W → Calls Tryz.prog 141 #[.iface (ty (t)) (pl (t)), .func (.func 137) #[.agg #[bv x, .iface un uv, .map (some b)]] #[], .func (.func 69) #[] #[]] W fun e W' => Below W.heap.size W W' ∧ (((rsB n x u t).all (·.2) = true ∧ ∃ a cap, e = .returned (.slice a (rsB n x u t).length cap) ∧ RowAt W' a ((rsB n x u t).map fun r => enc r.1)) ∨ ((rsB n x u t).all (·.2) = false ∧ e = .panicked shortP)) :=
      fun W hS => by
        have K := visitKids_c (t) (.func (.func 137) #[.agg #[bv x, .iface un uv, .map (some b)]] #[]) (.func (.func 69) #[] #[]) (rsB n x u t) W1.heap.size W1 W hrl hS.2.2.2 hS.2.2.2.size hvis
        rw [enc_ty] at K
        exact K
    have KRo : ∀ an ak cn ck W, RowAt W an ((bindsOf (t)).map bv) → RowAt W ak ((rsB n x u t).map fun r => enc r.1) → Calls Tryz.prog 91 #[.iface (ty (t)) (pl (t)), .slice an (bindsOf (t)).length cn, .slice ak (rsB n x u t).length ck] W fun e W' => e = .returned (.iface (ty RT) (pl RT)) ∧ Below W.heap.size W W' :=
      fun an ak cn ck W h1 h2 => by
        have K := remade_c (t) hg (bindsOf (t)) ((rsB n x u t).map (·.1)) rfl (by rw [List.length_map]; exact hrl) an ak cn ck W h1 (by rw [List.map_map]; exact h2)
        rw [enc_ty, enc_ty, List.length_map] at K
        rw [← hRT]
        exact K
    have HRT := Lib.hid hRT
    clear hRT hrl hvis
    generalize hlr : (rsB n x u t).length = lr at KVo KRo
    cases hall : (rsB n x u t).all (·.2)
    · have HAL := Lib.hid hall
      rw [hall] at KVo
      have KV1 : ∀ W, BoxS w W1 x un uv b W → Calls Tryz.prog 141 #[.iface (ty (t)) (pl (t)), .func (.func 137) #[.agg #[bv x, .iface un uv, .map (some b)]] #[], .func (.func 69) #[] #[]] W fun e W' => e = .panicked shortP ∧ Below W.heap.size W W' := fun W hS => (KVo W hS).mono fun e W' ⟨h1, h2⟩ => by
        rcases h2 with ⟨h2, _⟩ | ⟨_, h2⟩
        · cases h2
        · exact ⟨h2, h1⟩
      clear KVo hall
      go_region_held (fun w' => w'.cell? ⟨w.heap.size, 0, none⟩ = some (bv x) ∧ w'.cell? ⟨w.heap.size, 1, none⟩ = some (.iface un uv) ∧ w'.cell? ⟨w.heap.size, 2, none⟩ = some (.map (some b)) ∧ Below W1.heap.size W1 w')
        (first | go_keep | refine ⟨?_, ?_, ?_, ?_⟩ <;> assumption)
        (first | (go_at_call 71; refine (KBo _ ?_).mono ?_; (refine ⟨?_, ?_, ?_, ?_⟩ <;> assumption); rintro e w6 ⟨a6, rfl, hr6, hb6, h0, h1, h2, h3⟩) | (go_at_call 141; refine (KV1 _ ?_).mono ?_; (refine ⟨?_, ?_, ?_, ?_⟩ <;> assumption); rintro e7 w7 ⟨he7, hb7⟩; rcases e7 with v7 | c7 | _; rotate_left; (injection he7 with he7; subst he7; exact ⟨rfl, .inr ⟨by rw [HSB.out]; exact HAL.out, rfl⟩, HW.out.trans ((Below.trans (by assumption : Below W1.heap.size W1 _) (hb7.mono (Below.size (by assumption : Below W1.heap.size W1 _)))).mono HW.out.size)⟩); (cases he7); have hF : RowKit.Hid False := Lib.hid (by cases he7); obtain ⟨a7, c7, rfl⟩ : ∃ a c, v7 = .slice a lr c := hF.out.elim; have hr7 : RowAt w7 a7 ((rsB n x u t).map fun r => enc r.1) := hF.out.elim; have g0 : w7.cell? ⟨w.heap.size, 0, none⟩ = some (bv x) := hF.out.elim; have g1 : w7.cell? ⟨w.heap.size, 1, none⟩ = some (.iface un uv) := hF.out.elim; have g2 : w7.cell? ⟨w.heap.size, 2, none⟩ = some (.map (some b)) := hF.out.elim; have g3 : Below W1.heap.size W1 w7 := hF.out.elim; clear he7) | (go_at_call 91; refine (KRo _ _ _ _ _ ?_ ?_).mono ?_; (first | exact hr6 | exact hr6.keep hb7); (first | exact hr7 | exact hr7.keep hb6); rintro e w8 ⟨rfl, hb8⟩; obtain ⟨k0, k1, k2, k3⟩ : BoxS w W1 x un uv b w8 := hF.out.elim))
      all_goals exact hF.out.elim
    · have HAL := Lib.hid hall
      rw [hall] at KVo
      have KV1 : ∀ W, BoxS w W1 x un uv b W → Calls Tryz.prog 141 #[.iface (ty (t)) (pl (t)), .func (.func 137) #[.agg #[bv x, .iface un uv, .map (some b)]] #[], .func (.func 69) #[] #[]] W fun e W' => ∃ a cap, e = .returned (.slice a lr cap) ∧ RowAt W' a ((rsB n x u t).map fun r => enc r.1) ∧ Below W.heap.size W W' ∧ BoxS w W1 x un uv b W' := fun W hS => (KVo W hS).mono fun e W' ⟨h1, h2⟩ => by
        rcases h2 with ⟨_, a, cap, h2, h3⟩ | ⟨h2, _⟩
        · exact ⟨a, cap, h2, h3, h1, hS.keep hs1 h1⟩
        · cases h2
      clear KVo hall
      go_region_held3 (fun w' => w'.cell? ⟨w.heap.size, 0, none⟩ = some (bv x) ∧ w'.cell? ⟨w.heap.size, 1, none⟩ = some (.iface un uv) ∧ w'.cell? ⟨w.heap.size, 2, none⟩ = some (.map (some b)) ∧ Below W1.heap.size W1 w')
        (first | go_keep | refine ⟨?_, ?_, ?_, ?_⟩ <;> assumption)
        (first | (go_at_call 71; refine (KBo _ ?_).mono ?_; (refine ⟨?_, ?_, ?_, ?_⟩ <;> assumption); rintro e w6 ⟨a6, rfl, hr6, hb6, h0, h1, h2, h3⟩) | (go_at_call 141; refine (KV1 _ ?_).mono ?_; (refine ⟨?_, ?_, ?_, ?_⟩ <;> assumption); rintro e w7 ⟨a7, c7, rfl, hr7, hb7, g0, g1, g2, g3⟩) | (go_at_call 91; refine (KRo _ _ _ _ _ ?_ ?_).mono ?_; (first | exact hr6 | exact hr6.keep hb7); (first | exact hr7 | exact hr7.keep hb6); rintro e w8 ⟨rfl, hb8⟩; have h38 := Below.trans (by assumption : Below W1.heap.size W1 _) (hb8.mono (Below.size (by assumption : Below W1.heap.size W1 _))); have hk8 : BoxS w W1 x un uv b w8 := BoxS.keep (by first | exact ⟨h0, h1, h2, h3⟩ | exact ⟨g0, g1, g2, g3⟩) hs1 hb8; obtain ⟨k0, k1, k2, k3⟩ := hk8))
      all_goals go_wp2_with fail
      all_goals go_ret
      all_goals exact ⟨.inl ⟨by rw [HSB.out]; exact HAL.out, by rw [HSB.out, HRT.out, enc_ty]; rfl⟩, HW.out.trans (h38.mono HW.out.size)⟩
end Go.Proofs.YtefmmgccdpfnaaaGreatDoor
