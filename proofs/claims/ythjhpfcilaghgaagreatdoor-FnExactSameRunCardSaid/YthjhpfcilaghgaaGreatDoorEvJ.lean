import Derived.Test.YthjhpfcilaghgaaGreatDoorEvI
/- The program's runner: what chooses. -/
namespace Go.Proofs.YthjhpfcilaghgaaGreatDoor
open Go.RowKit Go.Shelf
open Ff
set_option linter.unusedVariables false
variable {X : Nat → Prop}
attribute [local irreducible] Calls
attribute [local go_sem] storeIF

theorem before_len0 (t : Tm) : (before t 0).length = 1 := by simp [before]
/-- The places of two kids. -/
theorem kids2 {S : Nat → Prop} {w : World} {t f a : Tm} {i : Nat} {v : Value} (h : PlaceR S w t i v) (hk : t.kids = [f, a]) : ∃ b g cap p0 p1, v = ptr b ∧ S b ∧ S g ∧ w.cell? ⟨b, 0, none⟩ = some (enc t) ∧ w.cell? ⟨b, 3, none⟩ = some (.slice (some ⟨g, 0, none⟩) 2 cap) ∧ w.cell? ⟨g, 0, none⟩ = some (ptr p0) ∧ w.cell? ⟨g, 1, none⟩ = some (ptr p1) ∧ PlaceR S w f (i + 1) (ptr p0) ∧ PlaceR S w a (i + 1 + (parts f).length) (ptr p1) := by
  cases h with
  | mk _ _ b g cap kv pk hb c0 c1 c3 c4 hkv hc hk2 =>
    obtain ⟨rfl, hg⟩ := hkv (by rw [hk]; simp)
    have q0 := hk2 0 f (by rw [hk]; rfl)
    have q1 := hk2 1 a (by rw [hk]; rfl)
    have r0 := hc 0 f (by rw [hk]; rfl)
    have r1 := hc 1 a (by rw [hk]; rfl)
    obtain ⟨p0, e0⟩ := q0.form
    obtain ⟨p1, e1⟩ := q1.form
    rw [before_len0] at q0
    rw [before_succ t 0 f (by rw [hk]; rfl), List.length_append, before_len0] at q1
    rw [e0] at q0 r0
    rw [e1] at q1 r1
    refine ⟨b, g, cap, p0, p1, rfl, hb, hg, c0, by rw [c3, hk]; rfl, r0, r1, q0, ?_⟩
    rw [show i + 1 + (parts f).length = i + (1 + (parts f).length) by omega]
    exact q1
theorem kids3 {S : Nat → Prop} {w : World} {t x y z : Tm} {i : Nat} {v : Value} (h : PlaceR S w t i v) (hk : t.kids = [x, y, z]) : ∃ b g cap p0 p1 p2, v = ptr b ∧ S b ∧ S g ∧ w.cell? ⟨b, 0, none⟩ = some (enc t) ∧ w.cell? ⟨b, 3, none⟩ = some (.slice (some ⟨g, 0, none⟩) 3 cap) ∧ w.cell? ⟨g, 0, none⟩ = some (ptr p0) ∧ w.cell? ⟨g, 1, none⟩ = some (ptr p1) ∧ w.cell? ⟨g, 2, none⟩ = some (ptr p2) ∧ PlaceR S w x (i + 1) (ptr p0) ∧ PlaceR S w y (i + 1 + (parts x).length) (ptr p1) ∧ PlaceR S w z (i + 1 + (parts x).length + (parts y).length) (ptr p2) := by
  cases h with
  | mk _ _ b g cap kv pk hb c0 c1 c3 c4 hkv hc hk2 =>
    obtain ⟨rfl, hg⟩ := hkv (by rw [hk]; simp)
    have q0 := hk2 0 x (by rw [hk]; rfl)
    have q1 := hk2 1 y (by rw [hk]; rfl)
    have q2 := hk2 2 z (by rw [hk]; rfl)
    have r0 := hc 0 x (by rw [hk]; rfl)
    have r1 := hc 1 y (by rw [hk]; rfl)
    have r2 := hc 2 z (by rw [hk]; rfl)
    obtain ⟨p0, e0⟩ := q0.form
    obtain ⟨p1, e1⟩ := q1.form
    obtain ⟨p2, e2⟩ := q2.form
    rw [before_len0] at q0
    rw [before_succ t 0 x (by rw [hk]; rfl), List.length_append, before_len0] at q1
    rw [before_succ t 1 y (by rw [hk]; rfl), List.length_append, before_succ t 0 x (by rw [hk]; rfl), List.length_append, before_len0] at q2
    rw [e0] at q0 r0
    rw [e1] at q1 r1
    rw [e2] at q2 r2
    refine ⟨b, g, cap, p0, p1, p2, rfl, hb, hg, c0, by rw [c3, hk]; rfl, r0, r1, r2, q0, ?_, ?_⟩
    · rw [show i + 1 + (parts x).length = i + (1 + (parts x).length) by omega]
      exact q1
    · rw [show i + 1 + (parts x).length + (parts y).length = i + (1 + (parts x).length + (parts y).length) by omega]
      exact q2
theorem StB.of_le {s s' : St} (h : StB s) (g : Goes s s') : StB s' := h.goes g
/-- What a sub-evaluation leaves, within a frame that has a block of its own. -/
theorem sub_bad {r b : Nat} {cv cv1 : Rw} {w w2 w3 : World} {s s1 : St} {o : Ou} {fn : Func} {e : Ending} {a : Act} (ho : o.bad) (h : EvPost (AndX X b) r cv1 w2 s1 o e w3) (K : Kep r cv w cv1 w2) (hd : s1.depth = s.depth) (ha : a.defers = []) {Q : Exit → Act → World → Prop} {R : Ending → World → Prop}
    (hQ : ∀ c, Q (.panic c) a w3 = (a.defers = [] ∧ R (.panicked c) w3)) (hR : R = EvPost X r cv w s o) : ∃ c, e = .panicked c ∧ Q (.panic c) a w3 := by
  have h2 := (evPost_bad ho _ _ _ _ _ _).1 h
  refine ⟨_, h2.1, ?_⟩
  rw [hQ, hR]
  refine ⟨ha, (evPost_bad ho _ _ _ _ _ _).2 ?_⟩
  rw [← h2.1]
  exact pan_out K hd h2
set_option maxRecDepth 100000 in
set_option maxHeartbeats 4000000 in
theorem choose_c (n : Nat) (ih : EvC n) (x y z : Tm) (i : Nat) (e : En) (s : St) (r : Nat) (cv : Rw) (pv ep : Value) (w : World) (hn : 1501 ≤ s.steps + n) (hB : StB s) (hok : TmOk (.sel x y z) i e) (hR : RunAt X r cv w s) (hP : PlaceR (Safe X r cv w) w (.sel x y z) i pv) (hE : RepE r (Safe X r cv w) w e ep) :
    Calls Tryz.prog 76 #[ptr r, pv, ep] w (EvPost X r cv w s (evB (ev n) (.sel x y z) i e s)) := by
  obtain ⟨b, g, cap, p0, p1, p2, rfl, hb, hg, c0, c3, d0, d1, d2, hp0, hp1, hp2⟩ := kids3 hP rfl
  obtain ⟨hx, hy, hz⟩ := hok.sel
  have hr0 := hR.lt
  have hbl := hb.1
  have hgl := hg.1
  have hW := ev_ok n _ _ _ s hx
  have zb := (Below.refl w.heap.size w).alloc (Nat.le_refl _) (.cells #[.int .i64 0, .nilIface] 105)
  have zz := res_block w
  have zs : (w.alloc (.cells #[.int .i64 0, .nilIface] 105)).heap.size = w.heap.size + 1 := by simp
  go_enter Tryz.func76, Tryz.ntmps76
  have a3 := (zb.cell (p := ⟨b, 3, none⟩) hbl).trans c3
  have b0 := (zb.cell (p := ⟨g, 0, none⟩) hgl).trans d0
  have b1 := (zb.cell (p := ⟨g, 1, none⟩) hgl).trans d1
  have b2 := (zb.cell (p := ⟨g, 2, none⟩) hgl).trans d2
  generalize hW1 : w.alloc (.cells #[.int .i64 0, .nilIface] 105) = W1 at zb zz zs a3 b0 b1 b2
  obtain ⟨z0, z1, zz⟩ := zz
  have K1 := Kep.below (r := r) (cv := cv) zb
  have H1 := K1.hide (X := X) (b := w.heap.size) (Nat.le_refl _)
  have C := ih (AndX X w.heap.size) x (i + 1) e s r cv (ptr p0) ep W1 hn hB hx ((hR.below zb).hide (by omega)) (hp0.keep H1) (hE.keep H1)
  have HO : ∃ o, ev n x (i + 1) e s = o := ⟨_, rfl⟩
  obtain ⟨o, ho⟩ := HO
  have hevB : evB (ev n) (.sel x y z) i e s = o.next fun u s => match u with
    | .num k => if k = 0 then ev n y (i + 1 + (parts x).length) e s else ev n z (i + 1 + (parts x).length + (parts y).length) e s
    | .clo _ _ _ => .fault := by rw [← ho]; rfl
  rw [ho] at C hW
  have HE := Lib.hid hevB
  clear hevB ho
  have hfin : ∀ (o3 : Ou) (s2 : St) (cv2 : Rw) (w3 w4 : World) (e' : Ending), Kep r cv W1 cv2 w3 → EvPost (AndX X w.heap.size) r cv2 w3 s2 o3 e' w4 → Kep r cv w cv2 w3 ∧ ∃ y0 y1, w4.heap[w.heap.size]? = some (.cells #[y0, y1] 105 (0, 0)) := fun o3 s2 cv2 w3 w4 e' hK h => by
    obtain ⟨cv', hk⟩ := evPost_kep h
    have q0 : Safe X r cv W1 w.heap.size := hR.new (Nat.le_refl _) (by omega)
    exact ⟨K1.trans hK, z0, z1, ((hK.trans hk).safe q0).1.trans zz⟩
  have hown : ∀ (cv2 : Rw) (w4 : World), Kep r cv W1 cv2 w4 → ¬ cv2.own w.heap.size := fun cv2 w4 hK e => by
    rcases hK.own _ e with h | h
    · have := (hR.owns _ h).2; omega
    · omega
  go_wp2_with fail
  rcases Ou.cases o with ⟨v, s1, rfl⟩ | hbad
  · obtain ⟨hokv, hG⟩ := hW
    have hB1 := hB.goes hG
    refine C.mono ?_
    rintro e' w2 ⟨xv, cv1, rfl, hv, hR2, hK2⟩
    clear C
    have hs2 := hK2.size
    have sb : Safe X r cv W1 b := (K1.safe hb).2
    have sg : Safe X r cv W1 g := (K1.safe hg).2
    have H2 := (K1.trans hK2).hide (X := X) (b := w.heap.size) (Nat.le_refl _)
    have aa3 := hK2.cell sb a3
    have bb1 := hK2.cell sg b1
    have bb2 := hK2.cell sg b2
    have M := mustNumber_c r _ v xv w2 hv
    cases v with
    | clo j f e1 =>
      go_wp2_with fail
      refine M.mono ?_
      rintro e' w3 ⟨he, hb3⟩
      rw [show e' = .panicked faultC from he]
      refine ⟨rfl, ?_⟩
      rw [HE.out]
      exact ⟨rfl, cv1, s1, hR2.bare.below hb3, (K1.trans hK2).trans (Kep.below hb3), hG.depth⟩
    | num k =>
      go_wp2_with fail
      refine M.mono ?_
      rintro e' w3 ⟨he, hb3⟩
      rw [show e' = .returned (.int .i64 (k : Int)) from he]
      clear he M
      have hK3 := hK2.trans (Kep.below (r := r) (cv := cv1) hb3)
      have hs3 := hb3.size
      have H3 := (K1.trans hK3).hide (X := X) (b := w.heap.size) (Nat.le_refl _)
      have ab3 := hK3.cell sb a3
      have ab1 := hK3.cell sg b1
      have ab2 := hK3.cell sg b2
      clear aa3 bb1 bb2
      have fin : ∀ (t : Tm) (j : Nat) (pt : Nat), TmOk t j e → PlaceR (Safe X r cv w) w t j (ptr pt) → Calls Tryz.prog 57 #[ptr r, ptr pt, ep] w3 (EvPost (AndX X w.heap.size) r cv1 w3 s1 (ev n t j e s1)) := fun t j pt h1 h2 =>
        ih _ _ _ _ _ _ _ _ _ _ (by have := hG.steps; omega) hB1 h1 (hR2.below hb3) (h2.keep H3) (hE.keep H3)
      by_cases hk : k = 0
      · have hk2 : ((k : Int) == 0) = true := by simp [hk]
        have C := fin y _ p1 hy hp1
        have HE2 : evB (ev n) (.sel x y z) i e s = ev n y (i + 1 + (parts x).length) e s1 := HE.out.trans (if_pos hk)
        have HE := Lib.hid HE2
        clear HE2
        generalize ev n y (i + 1 + (parts x).length) e s1 = o2 at C HE
        clear fin hk
        go_wp2_with fail
        refine C.mono ?_
        intro e' w4 h
        obtain ⟨kk, y0, y1, hzz⟩ := hfin _ _ _ _ _ _ hK3 h
        obtain ⟨t0, t1, t2, t3⟩ := two_of hzz
        rcases Ou.cases o2 with ⟨v2, s3, rfl⟩ | hbad2
        · obtain ⟨x4, cv4, rfl, hv4, hR4, hK4⟩ := h
          obtain ⟨u0, u1, rfl, ⟨mu, rfl⟩, ⟨qu, rfl⟩⟩ := hv4.form
          have hs4 := hK4.size
          go_wp2_with fail
          refine bodyPost_ret (v := .agg #[.int .i64 mu, IF qu]) (by simp [results, Tryz.results76, go_sem, t0, t1]) rfl ?_
          rw [HE.out]
          exact ev_out hR (Nat.le_refl _) hv4 hR4 (kk.trans hK4) (by omega) (hown _ _ (hK3.trans hK4))
        · obtain ⟨hc, hp⟩ := (evPost_bad hbad2 _ _ _ _ _ _).1 h
          rw [hc]
          refine ⟨rfl, ?_⟩
          rw [HE.out]
          exact (evPost_bad hbad2 _ _ _ _ _ _).2 (pan_out kk hG.depth ⟨rfl, hp⟩)
      · have hk2 : ((k : Int) == 0) = false := by simp [hk]
        have C := fin z _ p2 hz hp2
        have HE2 : evB (ev n) (.sel x y z) i e s = ev n z (i + 1 + (parts x).length + (parts y).length) e s1 := HE.out.trans (if_neg hk)
        have HE := Lib.hid HE2
        clear HE2
        generalize ev n z (i + 1 + (parts x).length + (parts y).length) e s1 = o2 at C HE
        clear fin hk
        go_wp2_with fail
        refine C.mono ?_
        intro e' w4 h
        obtain ⟨kk, y0, y1, hzz⟩ := hfin _ _ _ _ _ _ hK3 h
        obtain ⟨t0, t1, t2, t3⟩ := two_of hzz
        rcases Ou.cases o2 with ⟨v2, s3, rfl⟩ | hbad2
        · obtain ⟨x4, cv4, rfl, hv4, hR4, hK4⟩ := h
          obtain ⟨u0, u1, rfl, ⟨mu, rfl⟩, ⟨qu, rfl⟩⟩ := hv4.form
          have hs4 := hK4.size
          go_wp2_with fail
          refine bodyPost_ret (v := .agg #[.int .i64 mu, IF qu]) (by simp [results, Tryz.results76, go_sem, t0, t1]) rfl ?_
          rw [HE.out]
          exact ev_out hR (Nat.le_refl _) hv4 hR4 (kk.trans hK4) (by omega) (hown _ _ (hK3.trans hK4))
        · obtain ⟨hc, hp⟩ := (evPost_bad hbad2 _ _ _ _ _ _).1 h
          rw [hc]
          refine ⟨rfl, ?_⟩
          rw [HE.out]
          exact (evPost_bad hbad2 _ _ _ _ _ _).2 (pan_out kk hG.depth ⟨rfl, hp⟩)
  · refine C.mono ?_
    intro e' w2 h
    obtain ⟨hc, hp⟩ := (evPost_bad hbad _ _ _ _ _ _).1 h
    rw [hc]
    refine ⟨rfl, ?_⟩
    rw [HE.out, Ou.next_bad hbad]
    exact (evPost_bad hbad _ _ _ _ _ _).2 (pan_out K1 rfl ⟨rfl, hp⟩)
end Go.Proofs.YthjhpfcilaghgaaGreatDoor
