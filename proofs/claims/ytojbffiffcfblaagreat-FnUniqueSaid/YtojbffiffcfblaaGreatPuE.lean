import Derived.Test.YtojbffiffcfblaaGreatPuD
/- The program's putting: a binder gets another name. -/
namespace Go.Proofs.YtojbffiffcfblaaGreat
open Go.RowKit
open Ff
set_option linter.unusedVariables false
attribute [local go_sem] Oper.semAt_some

/-- What putting a term for a name comes to, in terms of no more than so many parts within each other. -/
def IntoC (n : Nat) : Prop := ∀ (x : UInt8) (u t : Tm) (b m : Nat) (w : World), t.depth ≤ n → n ≤ 4000 → t.good → u.good → (parts u).length ≤ 4000 → ((parts t).length ≤ 4000 ∨ sfree u = []) → Tally w b m (cntF u) → m ≤ 4000 →
  Calls Tryz.prog 64 #[putV x u b, enc t] w (SubP (subS n x u t) w)
theorem bound_own_of (w : World) (o : Obj) (l : List Value) (t : TypeId) (hl : l ≠ []) :
    ∃ g, Value.slice (some ⟨w.heap.size + 1, 0, none⟩) l.length l.length = .slice (some ⟨g, 0, none⟩) l.length l.length ∧ w.heap.size ≤ g ∧ g < ((w.alloc o).alloc (.cells l.toArray t)).heap.size ∧ (∀ i v, l[i]? = some v → ((w.alloc o).alloc (.cells l.toArray t)).cell? ⟨g, i, none⟩ = some v) ∧
      (∀ k, ((w.alloc o).alloc (.cells l.toArray t)).frozen? ⟨g, k, none⟩ = false) ∧ Below w.heap.size w ((w.alloc o).alloc (.cells l.toArray t)) := by
  refine ⟨w.heap.size + 1, rfl, by omega, by simp, fun i v hv => ?_, fun k => ?_, below_two w _ _⟩
  · rcases slice_new w o l t hl with ⟨h, _⟩ | ⟨_, g, h1, h2, h3, h4⟩
    · exact absurd h hl
    · injection h1 with h1
      injection h1 with h1
      injection h1 with h1
      rw [h1]
      exact h4 i v hv
  · have h := World.alloc_heap_new (w.alloc o) (.cells l.toArray t)
    rw [World.size_alloc] at h
    simp only [World.frozen?, h]
    simp
/-- The names that a binder binds, in a row of the caller's own. -/
theorem boundBy_own (t : Tm) (hgd : t.good) (hb : bindsOf t ≠ []) (w : World) :
    Calls Tryz.prog 57 #[enc t] w fun e w' => ∃ g, e = .returned (.slice (some ⟨g, 0, none⟩) (bindsOf t).length (bindsOf t).length) ∧ w.heap.size ≤ g ∧ g < w'.heap.size ∧ (∀ i c, (bindsOf t)[i]? = some c → w'.cell? ⟨g, i, none⟩ = some (bv c)) ∧
      (∀ k, w'.frozen? ⟨g, k, none⟩ = false) ∧ Below w.heap.size w w' := by
  have go : ∀ (e : Ending) (w' : World) (o : Obj) (l : Text), l ≠ [] → e = .returned (.slice (some ⟨w.heap.size + 1, 0, none⟩) l.length l.length) → w' = (w.alloc o).alloc (.cells (l.map bv).toArray 5) →
      ∃ g, e = .returned (.slice (some ⟨g, 0, none⟩) l.length l.length) ∧ w.heap.size ≤ g ∧ g < w'.heap.size ∧ (∀ i c, l[i]? = some c → w'.cell? ⟨g, i, none⟩ = some (bv c)) ∧ (∀ k, w'.frozen? ⟨g, k, none⟩ = false) ∧ Below w.heap.size w w' := by
    rintro e w' o l hl rfl rfl
    obtain ⟨g, h1, h2, h3, h4, h5, h6⟩ := bound_own_of w o (l.map bv) 5 (by simpa using hl)
    simp only [List.length_map] at h1
    exact ⟨g, by rw [h1], h2, h3, fun i c hc => h4 i _ (by simp [hc]), h5, h6⟩
  cases t with
  | fn c b => exact (boundBy_fn c b w).mono (by rintro e w' ⟨o, rfl, rfl⟩; exact go _ _ o [c] (by simp) rfl rfl)
  | fix f c b =>
    have hf : f.toNat ≠ 0 := by
      have := hgd.1
      simp only [isNam, Bool.and_eq_true, decide_eq_true_eq] at this
      omega
    exact (boundBy_fix f c b hf w).mono (by rintro e w' ⟨o, rfl, rfl⟩; exact go _ _ o [f, c] (by simp) rfl rfl)
  | bind c x b => exact (boundBy_bind c x b w).mono (by rintro e w' ⟨o, rfl, rfl⟩; exact go _ _ o [c] (by simp) rfl rfl)
  | num _ => exact absurd rfl hb
  | var _ => exact absurd rfl hb
  | app _ _ => exact absurd rfl hb
  | op _ _ _ => exact absurd rfl hb
  | sel _ _ _ => exact absurd rfl hb
/-- A binder with other names and another body. -/
def withNB : Tm → Text → Tm → Tm
  | .fn _ _, ns, b => .fn (ns.headD 0) b
  | .fix _ _ _, ns, b => .fix (ns.headD 0) ((ns.drop 1).headD 0) b
  | .bind _ v _, ns, b => .bind (ns.headD 0) v b
  | t, _, _ => t
/-- What the kids become where the last alone turns. -/
def rsLast (t : Tm) (r : Tm × Bool) : List (Tm × Bool) := t.kids.dropLast.map (fun s => (s, true)) ++ [r]
theorem binder_kids {t : Tm} (h : bindsOf t ≠ []) : t.kids ≠ [] := by cases t <;> simp [bindsOf] at h <;> simp [Tm.kids]
theorem rsLast_len {t : Tm} (h : t.kids ≠ []) (r : Tm × Bool) : (rsLast t r).length = t.kids.length := by
  have := List.length_pos_iff.2 h
  simp [rsLast]; omega
theorem rsLast_re {t : Tm} (h : bindsOf t ≠ []) (ns : Text) (r : Tm × Bool) : reTm t ns ((rsLast t r).map (·.1)) = withNB t ns r.1 := by
  cases t <;> simp [bindsOf] at h <;> simp [rsLast, Tm.kids, reTm, withNB]
theorem rsLast_all (t : Tm) (r : Tm × Bool) : (rsLast t r).all (·.2) = r.2 := by
  unfold rsLast
  rw [List.all_append]
  have : (t.kids.dropLast.map (fun s => (s, true))).all (·.2) = true := by
    rw [List.all_map]
    exact List.all_eq_true.2 fun _ _ => rfl
  rw [this]
  simp
theorem rsLast_at {t : Tm} (h : t.kids ≠ []) (r : Tm × Bool) {k : Nat} {s : Tm} {q : Tm × Bool} (hs : t.kids[k]? = some s) (hq : (rsLast t r)[k]? = some q) : (k + 1 = t.kids.length ∧ s = lastK t ∧ q = r) ∨ (k + 1 ≠ t.kids.length ∧ q = (s, true)) := by
  have hl := List.length_pos_iff.2 h
  have hk := (List.getElem?_eq_some_iff.1 hs).1
  unfold rsLast at hq
  by_cases e : k + 1 = t.kids.length
  · refine .inl ⟨e, ?_, ?_⟩
    · unfold lastK
      rw [List.getLast?_eq_getElem?, show t.kids.length - 1 = k by omega, hs]; rfl
    · rw [List.getElem?_append_right (by simp; omega)] at hq
      simp only [List.length_map, List.length_dropLast, show k - (t.kids.length - 1) = 0 by omega, List.getElem?_cons_zero, Option.some.injEq] at hq
      exact hq.symm
  · refine .inr ⟨e, ?_⟩
    rw [List.getElem?_append_left (by simp; omega)] at hq
    simp only [List.getElem?_map, List.getElem?_dropLast] at hq
    rw [if_pos (by omega), hs] at hq
    simpa using hq.symm
theorem enter_itself (w : World) (v : Value) : (callFunc 91 ((#[] : Array Value).push v)).run Tryz.prog w = .ok (.enter 91 ((#[] : Array Value).push v)) w := by kernel_rfl
theorem enter_into (p : Value) (w : World) (v : Value) : (callFunc 64 (#[p].push v)).run Tryz.prog w = .ok (.enter 64 (#[p].push v)) w := by kernel_rfl
theorem visits_itself (B : Nat) (w0 : World) (s : Tm) : Visits B w0 (.func (.func 91) #[] #[]) s (s, true) :=
  ⟨_, _, rfl, enter_itself, fun w _ => (itself_c s w).mono (by rintro e w' ⟨rfl, rfl⟩; exact ⟨.inl ⟨rfl, rfl⟩, Below.refl _ _⟩)⟩
theorem visits_into {n : Nat} (ih : IntoC n) (B : Nat) (w0 : World) (x : UInt8) (u s : Tm) (b m : Nat) (hs : s.depth ≤ n) (hn : n ≤ 4000) (hg : s.good) (hu : u.good) (hpu : (parts u).length ≤ 4000) (hp : (parts s).length ≤ 4000 ∨ sfree u = []) (hT : Tally w0 b m (cntF u)) (hm : m ≤ 4000) (hbB : b < B) :
    Visits B w0 (.func (.func 64) #[putV x u b] #[]) s (subS n x u s) :=
  ⟨_, _, rfl, enter_into _, fun w hB => ih x u s b m w hs hn hg hu hpu hp (hT.keepB hbB hB) hm⟩
theorem lastK_mem {t : Tm} (hk : t.kids ≠ []) : lastK t ∈ t.kids := by
  unfold lastK
  rcases h : t.kids.getLast? with _ | y
  · rw [List.getLast?_eq_none_iff] at h; exact absurd h hk
  · exact List.mem_of_getLast? h
set_option maxRecDepth 100000 in
set_option maxHeartbeats 4000000 in
theorem renamed_c (n : Nat) (ih : IntoC n) (t : Tm) (k : Nat) (c d : UInt8) (w : World) (hg : t.good) (hb : bindsOf t ≠ []) (hck : (bindsOf t)[k]? = some c) (hfi : c ∉ (bindsOf t).take k) (hd : isNam d = true) (hdep : (lastK t).depth ≤ n) (hn : n ≤ 4000) (hp : (parts t).length ≤ 4000) :
    Calls Tryz.prog 108 #[enc t, bv c, bv d] w (SubP (withNB t ((bindsOf t).set k d) (subS n c (.var d) (lastK t)).1, (subS n c (.var d) (lastK t)).2) w) := by
  have hkids := binder_kids hb
  have hlk := lastK_mem hkids
  have hpl := parts_kid_le hlk
  have hgl := Tm.kid_good hg hlk
  have hlen := binds_len t
  have hkl := (List.getElem?_eq_some_iff.1 hck).1
  have KB := fun w' => boundBy_own t hg hb w'
  have KI := fun a w' h => indexB_c (bindsOf t) c a (bindsOf t).length w' (by omega) h
  rw [findI_at hck hfi] at KI
  have KN := fun w' => newPutting_c c (.var d) w' hd (by simp [parts]) (by simp [Tm.depth])
  have hev : enc (.var d) = .iface 94 (.agg #[bv d]) := rfl
  rw [hev] at KN
  have KV := fun (b m : Nat) (w' : World) (hT : Tally w' b m (cntF (.var d))) (hm : m ≤ 4000) => visitKids_c t (.func (.func 91) #[] #[]) (.func (.func 64) #[putV c (.var d) b] #[]) (rsLast t (subS n c (.var d) (lastK t))) w'.heap.size w' w' (rsLast_len hkids _) (Below.refl _ _) (Nat.le_refl _) (by
    intro j s r hs hr
    rcases rsLast_at hkids _ hs hr with ⟨h1, rfl, rfl⟩ | ⟨h1, rfl⟩
    · rw [if_pos h1]
      exact visits_into ih _ _ c (.var d) (lastK t) b m hdep hn hgl hd (by simp [parts]) (.inl (by omega)) hT hm hT.lt
    · rw [if_neg h1]
      exact visits_itself _ _ _)
  have KR := fun an ak cn ck w' h1 h2 => remade_c t hg ((bindsOf t).set k d) ((rsLast t (subS n c (.var d) (lastK t))).map (·.1)) (by simp) (by rw [List.length_map, rsLast_len hkids]) an ak cn ck w' h1 h2
  rw [rsLast_re hb] at KR
  rw [rsLast_all, rsLast_len hkids] at KV
  simp only [List.length_map, List.length_set, rsLast_len hkids] at KR
  generalize subS n c (.var d) (lastK t) = r at *
  rw [enc_ty t] at *
  have HCK := Lib.hid hck
  unfold putV at KN KV
  rw [hev] at KV
  clear hck hfi hev
  go_enter Tryz.func108, Tryz.ntmps108
  go_wp2_with (first
    | (go_at_call 57; refine (KB _).mono ?_; clear KB; rintro e w1 ⟨g, rfl, hg1, hg2, hcell, hfz, hb1⟩; have ck := hcell k c HCK.out; have fk := hfz k; have HC := Lib.hid hcell; clear hcell hfz)
    | (go_at_call 71; refine (KI _ _ (fun i x hx => ?_)).mono ?_; (obtain ⟨c', hc', rfl⟩ : ∃ c', (bindsOf t)[i]? = some c' ∧ bv c' = x := (by simpa using hx)); exact ⟨g, rfl, hg2, HC.out i c' hc'⟩; clear KI; rintro e w2 ⟨rfl, rfl⟩)
    | (go_at_call 63; refine (KN _).mono ?_; clear KN; rintro e w3 ⟨bn, mn, rfl, hbn, hmn, hTn, hb3⟩))
  have hmn4 : mn ≤ 4000 := by simp [parts] at hmn; omega
  refine (KV bn mn w3 hTn hmn4).mono ?_
  clear KV
  have hB3 : Below w.heap.size w w3 := (hb1.setCell (p := ⟨g, k, none⟩) hg1 _).trans (hb3.mono (by simpa using hb1.size))
  have hrow : RowAt w3 (some ⟨g, 0, none⟩) (((bindsOf t).set k d).map bv) := by
    intro i x hx
    obtain ⟨c', hc', rfl⟩ : ∃ c', ((bindsOf t).set k d)[i]? = some c' ∧ bv c' = x := by rw [List.getElem?_map] at hx; simpa using hx
    refine ⟨g, rfl, by have := hb3.size; simp at this; omega, (hb3.cell (p := ⟨g, i, none⟩) (by simpa using hg2)).trans ?_⟩
    by_cases e : k = i
    · subst e
      rw [List.getElem?_set_self hkl] at hc'
      injection hc' with hc'
      subst hc'
      exact World.cell?_setCell_same _ _ _ ck
    · rw [List.getElem?_set_ne e] at hc'
      rw [World.cell?_setCell_other _ _ _ _ (by first | (simp; done) | (simp; omega))]
      exact HC.out i c' hc'
  rintro e w4 ⟨hb4, ⟨hok, a4, cap4, rfl, hrow4⟩ | ⟨hok, rfl⟩⟩
  · have hB4 := hB3.trans (hb4.mono hB3.size)
    have KR2 := KR _ a4 (bindsOf t).length cap4 w4 (hrow.keep hb4) (by rw [List.map_map]; exact hrow4)
    clear KR hrow hrow4 hTn ck fk HC
    go_wp2_with fail
    refine KR2.mono ?_
    rintro e w5 ⟨rfl, hb5⟩
    obtain ⟨n5, v5, e5⟩ := enc_gen (withNB t ((bindsOf t).set k d) r.1)
    have E5 := Lib.hid e5
    rw [e5]
    clear e5 KR2
    go_wp2_with fail
    go_ret
    exact ⟨.inl ⟨hok, by rw [E5.out]; rfl⟩, hB4.trans (hb5.mono hB4.size)⟩
  · exact ⟨rfl, .inr ⟨hok, rfl⟩, hB3.trans (hb4.mono hB3.size)⟩
end Go.Proofs.YtojbffiffcfblaaGreat
