import Derived.Test.YtdgdcfdhfmbacaaGreatDoorMEa
import Derived.Deep.AppendLies
import Derived.Deep.RegionLaw
/- The program's closures are called: their bodies. -/
namespace Go.Proofs.YtdgdcfdhfmbacaaGreatDoor
open Go.RowKit Go.Shelf
open Ff
set_option linter.unusedVariables false
variable {X : Nat → Prop}
attribute [local irreducible] Calls

/-! A block that is one's own: what is evaluated in the meantime does not speak of it. -/
theorem RunAt.hide {r : Nat} {cv : Value} {w : World} {s : St} (h : RunAt X r cv w s) {b : Nat} (hb : b < w.heap.size) : RunAt (AndX X b) r cv w s := ⟨h.cells, h.row, fun g hg => hg.elim (h.priv g) (fun e => by omega)⟩
theorem RunAt.bare {r : Nat} {cv : Value} {w : World} {s : St} {b : Nat} (h : RunAt (AndX X b) r cv w s) : RunAt X r cv w s := ⟨h.cells, h.row, fun g hg => h.priv g (.inl hg)⟩
theorem Kep.hide {r : Nat} {c0 c1 : Value} {w0 w1 : World} (h : Kep r c0 w0 c1 w1) {b : Nat} (hb : w0.heap.size ≤ b) (g : Nat) (hs : Safe X r c0 w0 g) : w1.heap[g]? = w0.heap[g]? ∧ Safe (AndX X b) r c1 w1 g :=
  have k := h.safe hs
  ⟨k.1, k.2.1, k.2.2.1, k.2.2.2.1, fun e => e.elim k.2.2.2.2 (fun e => by have := hs.1; omega)⟩
theorem set_hidden {r : Nat} {c1 : Value} {w1 : World} {b k : Nat} {u : Value} (g : Nat) (hs : Safe (AndX X b) r c1 w1 g) : (w1.setCell ⟨b, k, none⟩ u).heap[g]? = w1.heap[g]? ∧ Safe (AndX X b) r c1 (w1.setCell ⟨b, k, none⟩ u) g :=
  ⟨Below.heap_setCell _ _ _ _ (fun e => hs.2.2.2 (.inr e)), by simpa using hs.1, hs.2.1, hs.2.2.1, hs.2.2.2⟩
theorem safe_bare {r : Nat} {c1 : Value} {w1 : World} {b : Nat} (g : Nat) (hs : Safe (AndX X b) r c1 w1 g) : w1.heap[g]? = w1.heap[g]? ∧ Safe X r c1 w1 g := ⟨rfl, hs.1, hs.2.1, hs.2.2.1, fun e => hs.2.2.2 (.inl e)⟩
theorem set_far (W : World) (b k : Nat) (v : Value) (c j : Nat) (h : c ≠ b) : (W.setCell ⟨b, k, none⟩ v).cell? ⟨c, j, none⟩ = W.cell? ⟨c, j, none⟩ := World.cell?_setCell_other W _ _ v (fun e => h (by injection e with e; exact e.symm))
/-- What a run that panics leaves. -/
def PanP (X : Nat → Prop) (r : Nat) (cv : Value) (w : World) (s : St) (c : List PanicEntry) (e : Ending) (w' : World) : Prop := e = .panicked c ∧ ∃ cv' s', RunAt X r cv' w' s' ∧ Kep r cv w cv' w' ∧ s'.depth = s.depth
def panC : Ou → List PanicEntry
  | .ok _ _ => []
  | .fault => faultC
  | .long => longC
def Ou.bad : Ou → Prop
  | .ok _ _ => False
  | _ => True
theorem Ou.cases (o : Ou) : (∃ v s, o = .ok v s) ∨ o.bad := by cases o; exact .inl ⟨_, _, rfl⟩; exact .inr trivial; exact .inr trivial
theorem evPost_bad {o : Ou} (h : o.bad) (r : Nat) (cv : Value) (w : World) (s : St) (e : Ending) (w' : World) : EvPost X r cv w s o e w' ↔ PanP X r cv w s (panC o) e w' := by cases o; exact h.elim; exact Iff.rfl; exact Iff.rfl
theorem panC_cases {o : Ou} (h : o.bad) : panC o = faultC ∨ panC o = longC := by cases o; exact h.elim; exact .inl rfl; exact .inr rfl
theorem Ou.next_bad {o : Ou} (h : o.bad) (k : Vl → St → Ou) : o.next k = o := by cases o; exact h.elim; rfl; rfl
/-- The end of what evaluates: the value lies in the result's own block. -/
theorem ev_out0 {r b : Nat} {cv cv' a0 a1 : Value} {w w3 : World} {s0 s' : St} {v : Vl} (hR : RunAt X r cv w s0) (hb : w.heap.size ≤ b) (hv : RepV r (Safe (AndX X b) r cv' w3) w3 v (.agg #[a0, a1])) (hR3 : RunAt (AndX X b) r cv' w3 s') (K3 : Kep r cv w cv' w3) (hbl : b < w3.heap.size) (hbo : cv'.ownBlock ≠ some b) :
    RepV r (Safe X r cv' ((w3.setCell ⟨b, 0, none⟩ a0).setCell ⟨b, 1, none⟩ a1)) ((w3.setCell ⟨b, 0, none⟩ a0).setCell ⟨b, 1, none⟩ a1) v (.agg #[a0, a1]) ∧ RunAt X r cv' ((w3.setCell ⟨b, 0, none⟩ a0).setCell ⟨b, 1, none⟩ a1) s' ∧ Kep r cv w cv' ((w3.setCell ⟨b, 0, none⟩ a0).setCell ⟨b, 1, none⟩ a1) := by
  have hr := (Array.getElem?_eq_some_iff.1 hR.cells).1
  have st : ∀ (W : World) (k : Nat) (u : Value), RunAt X r cv' W s' → RunAt X r cv' (W.setCell ⟨b, k, none⟩ u) s' := fun W k u h => by
    refine ⟨(Below.heap_setCell _ _ _ _ (by show r ≠ b; omega)).trans h.cells, ?_, fun g hg => by simpa using h.priv g hg⟩
    obtain ⟨h3, h2 | ⟨g', cap, cur, hq, hb, hh, rest⟩⟩ := h.row
    · exact ⟨h3, .inl h2⟩
    · exact ⟨h3, .inr ⟨g', cap, cur, hq, hb, (Below.heap_setCell _ _ _ _ (by show g' ≠ b; rintro rfl; exact hbo (by rw [hq]; rfl))).trans hh, rest⟩⟩
  exact ⟨((hv.keep set_hidden).keep set_hidden).keep safe_bare, st _ _ _ (st _ _ _ hR3.bare), (K3.setNew hb _ _).setNew hb _ _⟩
theorem ev_out {r b : Nat} {cv cv' a0 a1 : Value} {w w3 : World} {s s0 s' : St} {v : Vl} (hR : RunAt X r cv w s0) (hb : w.heap.size ≤ b) (hv : RepV r (Safe (AndX X b) r cv' w3) w3 v (.agg #[a0, a1])) (hR3 : RunAt (AndX X b) r cv' w3 s') (K3 : Kep r cv w cv' w3) (hbl : b < w3.heap.size) (hbo : cv'.ownBlock ≠ some b) :
    EvPost X r cv w s (.ok v s') (.returned (.agg #[a0, a1])) ((w3.setCell ⟨b, 0, none⟩ a0).setCell ⟨b, 1, none⟩ a1) := ⟨_, cv', rfl, ev_out0 hR hb hv hR3 K3 hbl hbo⟩
theorem pan_out {r b : Nat} {cv cv1 : Value} {w w2 w3 : World} {s s1 : St} {c : List PanicEntry} {e : Ending} (K : Kep r cv w cv1 w2) (hd : s1.depth = s.depth) (h : PanP (AndX X b) r cv1 w2 s1 c e w3) : PanP X r cv w s c e w3 := by
  obtain ⟨h1, cv', s', h2, h3, h4⟩ := h
  exact ⟨h1, cv', s', h2.bare, K.trans h3, h4.trans hd⟩
theorem evPost_kep {r : Nat} {cv : Value} {w w' : World} {s : St} {o : Ou} {e : Ending} (h : EvPost X r cv w s o e w') : ∃ cv', Kep r cv w cv' w' := by
  cases o with
  | ok v s' => obtain ⟨x, cv', _, _, _, h⟩ := h; exact ⟨cv', h⟩
  | fault => obtain ⟨_, cv', _, _, h, _⟩ := h; exact ⟨cv', h⟩
  | long => obtain ⟨_, cv', _, _, h, _⟩ := h; exact ⟨cv', h⟩
/-- What evaluates, where no more than n steps are left. -/
def EvC (n : Nat) : Prop := ∀ (X : Nat → Prop) (t : Tm) (i : Nat) (e : En) (s : St) (r : Nat) (cv pv ep : Value) (w : World), 1501 ≤ s.steps + n → StB s → TmOk t i e → RunAt X r cv w s → PlaceR (Safe X r cv w) w t i pv → RepE r (Safe X r cv w) w e ep →
  Calls Tryz.prog 69 #[ptr r, pv, ep] w (EvPost X r cv w s (ev n t i e s))
/-- The names as they are within a closure's body. -/
theorem body_env {r b : Nat} {S : Nat → Prop} {w : World} {g : Tm} {j : Nat} {e : En} {y : Vl} {a0 a1 ee e0 : Value} {bs : Nat} (hg : isFun g = true) (hv : RepV r S w (.clo j g e) (.agg #[.int .i64 0, ptr b])) (hee : CloEnv S w g b ee e0) (he : RepE r S w e e0) (hy : RepV r S w y (.agg #[a0, a1]))
    (hb : S bs) (c0 : w.cell? ⟨bs, 0, none⟩ = some (.int .u8 ((paramOf g).toNat : Int))) (c1 : w.cell? ⟨bs, 1, none⟩ = some a0) (c2 : w.cell? ⟨bs, 2, none⟩ = some a1) (c3 : w.cell? ⟨bs, 3, none⟩ = some ee) (ho : ptrN ee ≤ bs) : RepE r S w (bodyEn g j e y) (ptr bs) := by
  cases g with
  | fn c t => cases hee; exact .cons _ _ _ _ _ _ _ hb c0 c1 c2 c3 ho hy he
  | fix f c t =>
    obtain ⟨bs', rfl, h2, h3, h4, h5, h6, h7⟩ := hee
    exact .cons _ _ _ _ _ _ _ hb c0 c1 c2 c3 ho hy (.cons _ _ _ _ _ _ _ h2 h3 h4 h5 h6 h7 hv he)
  | _ => cases hg
theorem cloEnv_form {r b : Nat} {S : Nat → Prop} {w : World} {g : Tm} {e : En} {ee e0 : Value} (hee : CloEnv S w g b ee e0) (he : RepE r S w e e0) : (∃ p, ee = .pointer p) ∧ ∀ B, (∀ g, S g → g < B) → ptrN ee ≤ B := by
  cases g with
  | fix f c t => obtain ⟨bs, rfl, h2, _⟩ := hee; exact ⟨⟨_, rfl⟩, fun B h => h bs h2⟩
  | _ => cases hee; exact ⟨he.form, fun B h => he.top h⟩
/-- The first kid's place. -/
theorem kid_place {S : Nat → Prop} {w : World} {t s : Tm} {i k : Nat} {v : Value} (h : PlaceR S w t i v) (hs : t.kids[k]? = some s) : ∃ b g cap pk, v = ptr b ∧ S b ∧ S g ∧ w.cell? ⟨b, 3, none⟩ = some (.slice (some ⟨g, 0, none⟩) t.kids.length cap) ∧ w.cell? ⟨g, k, none⟩ = some pk ∧ PlaceR S w s (i + (before t k).length) pk := by
  cases h with
  | mk _ _ b g cap kv pk hb c0 c1 c3 c4 hkv hc hk =>
    obtain ⟨rfl, hg⟩ := hkv (fun e => by rw [e] at hs; simp at hs)
    exact ⟨b, g, cap, pk k, rfl, hb, hg, c3, hc k s hs, hk k s hs⟩
theorem PlaceR.form {S : Nat → Prop} {w : World} {t : Tm} {i : Nat} {v : Value} (h : PlaceR S w t i v) : ∃ b, v = ptr b := by cases h; exact ⟨_, rfl⟩
theorem fun_kid {g : Tm} (h : isFun g = true) : g.kids[0]? = some (bodyOf g) ∧ g.kids.length = 1 ∧ (before g 0).length = 1 := by cases g <;> first | exact ⟨rfl, rfl, rfl⟩ | cases h
end Go.Proofs.YtdgdcfdhfmbacaaGreatDoor

/- The program's closures: the body of one. -/
namespace Go.Proofs.YtdgdcfdhfmbacaaGreatDoor
open Go.RowKit Go.Shelf
open Ff
set_option linter.unusedVariables false
variable {X : Nat → Prop}
attribute [local irreducible] Calls

/-- A value in a box, and the result's block. -/
def vW (w : World) (a0 a1 : Value) : World := (w.alloc (.cells #[a0, a1] 124)).alloc (.cells #[.int .i64 0, .pointer none] 124)
theorem vW_facts (w : World) (a0 a1 : Value) : ((vW w a0 a1).heap.size = w.heap.size + 2 ∧ Below w.heap.size w (vW w a0 a1)) ∧ (vW w a0 a1).cell? ⟨w.heap.size, 0, none⟩ = some a0 ∧ (vW w a0 a1).cell? ⟨w.heap.size, 1, none⟩ = some a1 ∧ ∃ z0 z1, (vW w a0 a1).heap[w.heap.size + 1]? = some (.cells #[z0, z1] 124 (0, 0)) := by
  refine ⟨⟨by simp [vW], ((Below.refl _ w).alloc (Nat.le_refl _) _).alloc (by simp) _⟩, by simp [vW, go_sem], by simp [vW, go_sem], .int .i64 0, .pointer none, ?_⟩
  have := World.alloc_heap_new (w.alloc (.cells #[a0, a1] 124)) (.cells #[.int .i64 0, .pointer none] 124)
  simpa [vW] using this
set_option maxRecDepth 100000 in
set_option maxHeartbeats 4000000 in
theorem clobody_c (n : Nat) (ih : EvC n) (g : Tm) (j : Nat) (e : En) (y : Vl) (s : St) (r : Nat) (cv x : Value) (w : World) (b br bp be bx : Nat) (pl0 ee e0 : Value) (hn : 1501 ≤ s.steps + n) (hB : StB s) (hf : isFun g = true) (hok : TmOk (bodyOf g) (j + 1) (bodyEn g j e y)) (hR : RunAt X r cv w s)
    (hv : RepV r (Safe X r cv w) w (.clo j g e) (.agg #[.int .i64 0, ptr b]))
    (hbr : Safe X r cv w br) (cr : w.cell? ⟨br, 0, none⟩ = some (ptr r)) (hbp : Safe X r cv w bp) (cp : w.cell? ⟨bp, 0, none⟩ = some pl0) (hp : PlaceR (Safe X r cv w) w g j pl0)
    (hbe : Safe X r cv w be) (ce : w.cell? ⟨be, 0, none⟩ = some ee) (hbx : Safe X r cv w bx) (cx : w.cell? ⟨bx, 1, none⟩ = some (.int .u8 ((paramOf g).toNat : Int)))
    (hee : CloEnv (Safe X r cv w) w g b ee e0) (he : RepE r (Safe X r cv w) w e e0) (hy : RepV r (Safe X r cv w) w y x) :
    Calls Tryz.prog 100 #[x, ptr br, ptr bp, ptr be, ptr bx] w (EvPost X r cv w s (ev n (bodyOf g) (j + 1) (bodyEn g j e y) s)) := by
  obtain ⟨a0, a1, rfl, ⟨m, rfl⟩, ⟨q, rfl⟩⟩ := hy.form
  obtain ⟨bl, gk, cap, pk, rfl, hbl, hgk, p3, p4, hpk⟩ := kid_place hp (fun_kid hf).1
  rw [(fun_kid hf).2.1] at p3
  rw [(fun_kid hf).2.2] at hpk
  obtain ⟨pb, rfl⟩ := hpk.form
  obtain ⟨⟨qe, rfl⟩, htop⟩ := cloEnv_form hee he
  have hb0 := hbr.1
  have hb1 := hbp.1
  have hb2 := hbe.1
  have hb3 := hbx.1
  have hb4 := hbl.1
  have hb5 := hgk.1
  go_enter Tryz.func100, Tryz.ntmps100
  go_wp2_with fail
  have z := vW_facts w (.int .i64 m) (.pointer q)
  change Code.wp _ _ _ _ (vW w (.int .i64 m) (.pointer q))
  generalize vW w (.int .i64 m) (.pointer q) = W2 at z ⊢
  obtain ⟨⟨zs, zb⟩, z0, z1, zz0, zz1, z2⟩ := z
  have d0 := (zb.cell (p := ⟨br, 0, none⟩) hb0).trans cr
  have d1 := (zb.cell (p := ⟨bp, 0, none⟩) hb1).trans cp
  have d2 := (zb.cell (p := ⟨be, 0, none⟩) hb2).trans ce
  have d3 := (zb.cell (p := ⟨bx, 1, none⟩) hb3).trans cx
  have d4 := (zb.cell (p := ⟨bl, 3, none⟩) hb4).trans p3
  have d5 := (zb.cell (p := ⟨gk, 0, none⟩) hb5).trans p4
  have C := with_c (.pointer qe) (paramOf g) (.int .i64 m) (.pointer q) ⟨_, rfl⟩ ⟨_, rfl⟩ ⟨_, rfl⟩ W2.drew
  have C2 : Calls Tryz.prog 65 #[.pointer qe, .int .u8 ((paramOf g).toNat : Int), .agg #[.int .i64 m, .pointer q]] W2.drew fun e' w' => ∃ x, e' = .returned x ∧ (∃ bs, x = ptr bs ∧ W2.heap.size ≤ bs ∧ bs < w'.heap.size ∧ Below W2.heap.size W2 w' ∧ w'.cell? ⟨bs, 0, none⟩ = some (.int .u8 ((paramOf g).toNat : Int)) ∧ w'.cell? ⟨bs, 1, none⟩ = some (.int .i64 m) ∧ w'.cell? ⟨bs, 2, none⟩ = some (.pointer q) ∧ w'.cell? ⟨bs, 3, none⟩ = some (.pointer qe)) ∧ w'.cell? ⟨br, 0, none⟩ = some (ptr r) ∧ w'.cell? ⟨bp, 0, none⟩ = some (ptr bl) ∧ w'.cell? ⟨bl, 3, none⟩ = some (.slice (some ⟨gk, 0, none⟩) 1 cap) ∧ w'.cell? ⟨gk, 0, none⟩ = some (ptr pb) ∧ w'.cell? ⟨be, 0, none⟩ = some (.pointer qe) ∧ w'.cell? ⟨bx, 1, none⟩ = some (.int .u8 ((paramOf g).toNat : Int)) ∧ w'.cell? ⟨w.heap.size, 0, none⟩ = some (.int .i64 m) ∧ w'.cell? ⟨w.heap.size, 1, none⟩ = some (.pointer q) := C.mono (by
      rintro e' w' ⟨bs, rfl, q1, q2, q3, q4, q5, q6, q7⟩
      have q8 : Below W2.heap.size W2 w' := ((Below.refl _ W2).drew).trans q3
      exact ⟨_, rfl, ⟨bs, rfl, q1, q2, q8, q4, q5, q6, q7⟩, (q8.cell (by show br < _; omega)).trans d0, (q8.cell (by show bp < _; omega)).trans d1, (q8.cell (by show bl < _; omega)).trans d4, (q8.cell (by show gk < _; omega)).trans d5, (q8.cell (by show be < _; omega)).trans d2, (q8.cell (by show bx < _; omega)).trans d3, (q8.cell (by show w.heap.size < _; omega)).trans z0, (q8.cell (by show w.heap.size < _; omega)).trans z1⟩)
  clear C
  have D : ∀ w3 bs, W2.heap.size ≤ bs → bs < w3.heap.size → Below W2.heap.size W2 w3 → w3.cell? ⟨bs, 0, none⟩ = some (.int .u8 ((paramOf g).toNat : Int)) → w3.cell? ⟨bs, 1, none⟩ = some (.int .i64 m) → w3.cell? ⟨bs, 2, none⟩ = some (.pointer q) → w3.cell? ⟨bs, 3, none⟩ = some (.pointer qe) →
      Calls Tryz.prog 69 #[ptr r, ptr pb, ptr bs] w3 fun e' w' => EvPost (AndX X (w.heap.size + 1)) r cv w3 s (ev n (bodyOf g) (j + 1) (bodyEn g j e y) s) e' w' ∧ Kep r cv w cv w3 ∧ W2.heap.size ≤ w3.heap.size ∧ (∃ z0 z1, w'.heap[w.heap.size + 1]? = some (.cells #[z0, z1] 124 (0, 0))) ∧ w'.cell? ⟨br, 0, none⟩ = some (ptr r) ∧ w'.cell? ⟨bp, 0, none⟩ = some (ptr bl) ∧ w'.cell? ⟨bl, 3, none⟩ = some (.slice (some ⟨gk, 0, none⟩) 1 cap) ∧ w'.cell? ⟨gk, 0, none⟩ = some (ptr pb) ∧ w'.cell? ⟨be, 0, none⟩ = some (.pointer qe) ∧ w'.cell? ⟨bx, 1, none⟩ = some (.int .u8 ((paramOf g).toNat : Int)) ∧ w'.cell? ⟨w.heap.size, 0, none⟩ = some (.int .i64 m) ∧ w'.cell? ⟨w.heap.size, 1, none⟩ = some (.pointer q) := by
    intro w3 bs q1 q2 q3 q4 q5 q6 q7
    have hb := zb.trans (q3.mono (by omega))
    have H : ∀ g, Safe X r cv w g → w3.heap[g]? = w.heap[g]? ∧ Safe (AndX X (w.heap.size + 1)) r cv w3 g := (Kep.below hb).hide (Nat.le_succ _)
    have hs : Safe (AndX X (w.heap.size + 1)) r cv w3 bs := ((hR.below hb).hide (b := w.heap.size + 1) (by omega)) |> fun h => ⟨q2, by have := (Array.getElem?_eq_some_iff.1 hR.cells).1; omega, fun e => by have := (World.ownsRow.lt hR.row bs e).2; omega, fun e => by rcases e with e | e; (have := hR.priv bs e; omega); omega⟩
    refine (ih _ _ _ _ _ _ _ _ _ _ hn hB hok ((hR.below hb).hide (by omega)) (hpk.keep H) (body_env hf (hv.keep H) (hee.keep H) (he.keep H) (hy.keep H) hs q4 q5 q6 q7 (by have := htop w.heap.size (fun g hg => hg.1); omega))).mono ?_
    intro e' w' h
    obtain ⟨cv', hk⟩ := evPost_kep h
    have hk2 := (Kep.below (r := r) (cv := cv) hb).trans hk
    have hkz : ∀ k v, W2.cell? ⟨w.heap.size, k, none⟩ = some v → w'.cell? ⟨w.heap.size, k, none⟩ = some v := fun k v hv => hk.cell (X := X) ((hR.new (Nat.le_refl _) (by omega))) ((q3.cell (by show w.heap.size < _; omega)).trans hv)
    exact ⟨h, Kep.below hb, q3.size, ⟨zz0, zz1, ((hk.safe (X := X) (hR.new (Nat.le_succ _) (by omega))).1.trans (q3.block _ (by omega))).trans z2⟩, hk2.cell hbr cr, hk2.cell hbp cp, hk2.cell hbl p3, hk2.cell hgk p4, hk2.cell hbe ce, hk2.cell hbx cx, hkz _ _ z0, hkz _ _ z1⟩
  clear cr cp ce cx p3 p4
  clear hp hpk hee he hy hv
  have n6 : w.heap.size ≠ w.heap.size + 1 := by omega
  have n0 : br ≠ w.heap.size + 1 := by omega
  have n1 : bp ≠ w.heap.size + 1 := by omega
  have n2 : be ≠ w.heap.size + 1 := by omega
  have n3 : bx ≠ w.heap.size + 1 := by omega
  have n4 : bl ≠ w.heap.size + 1 := by omega
  have n5 : gk ≠ w.heap.size + 1 := by omega
  rcases Ou.cases (ev n (bodyOf g) (j + 1) (bodyEn g j e y) s) with ⟨v, s', ho⟩ | ho
  · rw [ho] at D ⊢
    go_region_held3 (fun w' => w'.cell? ⟨br, 0, none⟩ = some (ptr r) ∧ w'.cell? ⟨bp, 0, none⟩ = some (ptr bl) ∧ w'.cell? ⟨bl, 3, none⟩ = some (.slice (some ⟨gk, 0, none⟩) 1 cap) ∧ w'.cell? ⟨gk, 0, none⟩ = some (ptr pb) ∧ w'.cell? ⟨be, 0, none⟩ = some (.pointer qe) ∧ w'.cell? ⟨bx, 1, none⟩ = some (.int .u8 ((paramOf g).toNat : Int)) ∧ w'.cell? ⟨w.heap.size, 0, none⟩ = some (.int .i64 m) ∧ w'.cell? ⟨w.heap.size, 1, none⟩ = some (.pointer q))
      (first | (simp only [set_far _ _ _ _ _ _ n0, set_far _ _ _ _ _ _ n1, set_far _ _ _ _ _ _ n2, set_far _ _ _ _ _ _ n3, set_far _ _ _ _ _ _ n4, set_far _ _ _ _ _ _ n5, set_far _ _ _ _ _ _ n6]; refine ⟨?_, ?_, ?_, ?_, ?_, ?_, ?_, ?_⟩ <;> assumption) | (refine ⟨?_, ?_, ?_, ?_, ?_, ?_, ?_, ?_⟩ <;> assumption) | go_keep)
      (first | (refine C2.mono ?_; rintro e' w3 ⟨x, rfl, ⟨bs, rfl, q1, q2, q3, q4, q5, q6, q7⟩, k0, k1, k2, k3, k4, k5, k6, k7⟩) | (refine (D _ _ q1 q2 q3 q4 q5 q6 q7).mono ?_; rintro e' w4 ⟨⟨x, cv', rfl, hv, hR4, hK4⟩, hK3, hsz, ⟨y0, y1, hz⟩, k0, k1, k2, k3, k4, k5, k6, k7⟩; obtain ⟨u0, u1, rfl, ⟨mu, rfl⟩, ⟨qu, rfl⟩⟩ := hv.form; obtain ⟨t0, t1, t2, t3⟩ := two_of hz))
    go_wp2_with fail
    refine bodyPost_ret (v := .agg #[.int .i64 mu, .pointer qu]) (by simp [results, Tryz.results100, go_sem, t0, t1]) rfl ?_
    rw [ho]
    refine ev_out (b := w.heap.size + 1) hR (Nat.le_succ _) hv hR4 (hK3.trans hK4) (by have := hK4.size; omega) (fun e => ?_)
    rcases hK4.own _ e with h | h
    · have := (World.ownsRow.lt hR.row _ h).2; omega
    · omega
  · generalize hO : ev n (bodyOf g) (j + 1) (bodyEn g j e y) s = o at D ho ⊢
    go_region_held (fun w' => w'.cell? ⟨br, 0, none⟩ = some (ptr r) ∧ w'.cell? ⟨bp, 0, none⟩ = some (ptr bl) ∧ w'.cell? ⟨bl, 3, none⟩ = some (.slice (some ⟨gk, 0, none⟩) 1 cap) ∧ w'.cell? ⟨gk, 0, none⟩ = some (ptr pb) ∧ w'.cell? ⟨be, 0, none⟩ = some (.pointer qe) ∧ w'.cell? ⟨bx, 1, none⟩ = some (.int .u8 ((paramOf g).toNat : Int)) ∧ w'.cell? ⟨w.heap.size, 0, none⟩ = some (.int .i64 m) ∧ w'.cell? ⟨w.heap.size, 1, none⟩ = some (.pointer q))
      (first | (simp only [set_far _ _ _ _ _ _ n0, set_far _ _ _ _ _ _ n1, set_far _ _ _ _ _ _ n2, set_far _ _ _ _ _ _ n3, set_far _ _ _ _ _ _ n4, set_far _ _ _ _ _ _ n5, set_far _ _ _ _ _ _ n6]; refine ⟨?_, ?_, ?_, ?_, ?_, ?_, ?_, ?_⟩ <;> assumption) | (refine ⟨?_, ?_, ?_, ?_, ?_, ?_, ?_, ?_⟩ <;> assumption) | go_keep)
      (first | (refine C2.mono ?_; rintro e' w3 ⟨x, rfl, ⟨bs, rfl, q1, q2, q3, q4, q5, q6, q7⟩, k0, k1, k2, k3, k4, k5, k6, k7⟩) | (refine (D _ _ q1 q2 q3 q4 q5 q6 q7).mono ?_; rintro e' w4 ⟨h, hK3, hsz, ⟨y0, y1, hz⟩, k0, k1, k2, k3, k4, k5, k6, k7⟩; rcases e' with v | c | _; rotate_left; (obtain ⟨hc, cv', s', h2, h3, h4⟩ := (evPost_bad ho _ _ _ _ _ _).1 h; injection hc with hc; subst hc; exact ⟨rfl, (evPost_bad ho _ _ _ _ _ _).2 ⟨rfl, cv', s', h2.bare, hK3.trans h3, h4⟩⟩); (exact absurd ((evPost_bad ho _ _ _ _ _ _).1 h).1 (by simp)); have hF : RowKit.Hid False := Lib.hid (absurd ((evPost_bad ho _ _ _ _ _ _).1 h).1 (by simp)); obtain ⟨u0, u1, rfl⟩ : ∃ u0 u1, v = .agg #[.int .i64 u0, .pointer u1] := hF.out.elim; obtain ⟨t0, t1, t2, t3⟩ := two_of hz))
    exact hF.out.elim
end Go.Proofs.YtdgdcfdhfmbacaaGreatDoor

/- The program's closures: a call. -/
namespace Go.Proofs.YtdgdcfdhfmbacaaGreatDoor
open Go.RowKit Go.Shelf
open Ff
set_option linter.unusedVariables false
variable {X : Nat → Prop}
attribute [local irreducible] Calls

theorem Tryz.infoInt : (Tryz.prog.info? 3).map (fun i => (i.zero, i.size, i.bytes)) = some (some (.int .i64 0), 1, 8) := by kernel_rfl
theorem step_append_int {ops : Array Oper} {o : Oper} {a : Act} {K : Act → World → Prop} {Q : Exit → Act → World → Prop} {E : Prop} {W : World} {r n : Nat} {cv u : Value} {xs : List Value} (hgd : o.guard = none) (s x : Operand)
    (ho : o.op = .call { callee := .builtin .append, args := #[s, x], argTypes := #[24, 24] })
    (hs : a.eval s = cv) (hrow : W.ownsRow (r + 1) 3 1 cv n xs) (ad : Addr) (hx : a.eval x = .slice (some ad) 1 1) (hc : ∀ j v, [u][j]? = some v → W.cell? (ad.add j) = some v) (hu : u.oneCell' = true) (hB : r + 1 ≤ W.heap.size) (hk : n ≤ 100000)
    (hK : ∀ cv' w', w'.ownsRow (r + 1) 3 1 cv' (n + 1) (xs ++ [u]) → Kep r cv W cv' w' → w'.heap[r]? = W.heap[r]? → K (a.put o.dst cv') w') : if Region.wanted o (yielded ops a.tmps) = true then Oper.wp Tryz.prog o a W K Q else E := by
  obtain ⟨i0, hi0, hz0, hz1, hz2⟩ := info_parts Tryz.infoInt
  refine step_append_lies W hgd s x 24 ho (r + 1) 3 i0 _ 1 8 Tryz.underlying24 hi0 hz0 hz1 hz2 rfl (by decide) cv n xs hs hrow ad 1 1 [u] hx rfl hc (by intro v hv; simp only [List.mem_singleton] at hv; subst hv; exact hu) (by decide) (by unfold maxLen; omega) (by omega) hB W.heap.size rfl ?_
  intro g cap w' hown hgr hor hlt
  exact hK _ w' hown (kep_grown hgr (hor.elim (fun e => .inl (by rw [e]; rfl)) (fun e => .inr (by rw [← e]; rfl)))) (hgr.block r (by omega) (fun e => row_not hrow e.symm))
theorem seven_of {w : World} {b : Nat} {z0 z1 z2 z3 z4 z5 z6 : Value} {t : TypeId} (h : w.heap[b]? = some (.cells #[z0, z1, z2, z3, z4, z5, z6] t (0, 0))) : w.cell? ⟨b, 0, none⟩ = some z0 ∧ w.cell? ⟨b, 1, none⟩ = some z1 ∧ w.cell? ⟨b, 2, none⟩ = some z2 ∧ w.cell? ⟨b, 3, none⟩ = some z3 ∧ w.cell? ⟨b, 4, none⟩ = some z4 ∧ w.cell? ⟨b, 5, none⟩ = some z5 ∧ w.cell? ⟨b, 6, none⟩ = some z6 ∧ ∀ k, w.frozen? ⟨b, k, none⟩ = false := by
  refine ⟨?_, ?_, ?_, ?_, ?_, ?_, ?_, fun k => ?_⟩ <;> simp [World.cell?, World.frozen?, h]
/-- The index of a function that is called is noted. -/
theorem RunAt.called {r j : Nat} {cv cv' : Value} {w4 w5 : World} {s : St} {o : Obj} (hR4 : RunAt X r cv w4 { s with calls := s.calls + 1, depth := s.depth + 1, deepest := max s.deepest (s.depth + 1) }) (hrow5 : w5.ownsRow (r + 1) 3 1 cv' (s.called.length + 1) (intsV s.called ++ [.int .i64 (j : Int)]))
    (hK5 : Kep r cv (w4.alloc o).drew cv' w5) (hr5 : w5.heap[r]? = w4.heap[r]?) : RunAt X r cv' (w5.setCell ⟨r, 6, none⟩ cv') (s.enter j) ∧ Kep r cv w4 cv' (w5.setCell ⟨r, 6, none⟩ cv') := by
  have hK : Kep r cv w4 cv' w5 := (Kep.below (((Below.refl _ w4).alloc (Nat.le_refl _) o).drew)).trans hK5
  refine ⟨⟨?_, row_set_r (by simpa [St.enter, intsV] using hrow5) 6 cv', fun g hg => ?_⟩, kep_set hK 6 cv'⟩
  · rw [heap_setCell_same _ _ _ _ _ _ (hr5.trans hR4.cells)]
    simp [runC, St.enter]
  · have h1 := hR4.priv g hg
    have h2 := hK.size
    simp; omega
/-- A panic's post that does not hang on the temporaries. -/
def PanAny (P : Program) (fn : Func) (R : Ending → World → Prop) (K : Act → World → Prop) : Exit → Act → World → Prop
  | .panic c, a, w => ∀ tmps, Leaves P fn tmps R a.defers (.panicking c) w
  | e, a, w => Exit.then K (bodyPostD P fn R) e a w
theorem wp_region_any_tmps {P : Program} {fn : Func} {R : Ending → World → Prop} {K : Act → World → Prop} {id : Nat} {ops : Array Oper} {b : Bool} {a : Act} {w : World} (h : (Code.region id ops b).wp P (PanAny P fn R K) a w) : (Code.region id ops b).wp P (Exit.then K (bodyPostD P fn R)) a w :=
  wp_mono h fun e a w hq => by cases e <;> first | exact hq | exact hq a.tmps
theorem agg2 {a0 a1 b0 b1 : Value} (h : Value.agg #[a0, a1] = .agg #[b0, b1]) : a0 = b0 ∧ a1 = b1 := by
  simp only [Value.agg.injEq, Array.mk.injEq, List.cons.injEq, and_true] at h; exact h
/-- Three blocks: two values in boxes, and the result's. -/
def cW (w : World) (x0 x1 y0 y1 : Value) : World := ((w.alloc (.cells #[x0, x1] 124)).alloc (.cells #[y0, y1] 124)).alloc (.cells #[.int .i64 0, .pointer none] 124)
theorem cW_facts (w : World) (x0 x1 y0 y1 : Value) : ((cW w x0 x1 y0 y1).heap.size = w.heap.size + 3 ∧ Below w.heap.size w (cW w x0 x1 y0 y1)) ∧ (cW w x0 x1 y0 y1).cell? ⟨w.heap.size, 0, none⟩ = some x0 ∧ (cW w x0 x1 y0 y1).cell? ⟨w.heap.size, 1, none⟩ = some x1 ∧ (cW w x0 x1 y0 y1).cell? ⟨w.heap.size + 1, 0, none⟩ = some y0 ∧ (cW w x0 x1 y0 y1).cell? ⟨w.heap.size + 1, 1, none⟩ = some y1 ∧ ∃ z0 z1, (cW w x0 x1 y0 y1).heap[w.heap.size + 1 + 1]? = some (.cells #[z0, z1] 124 (0, 0)) := by
  refine ⟨⟨by simp [cW], (((Below.refl _ w).alloc (Nat.le_refl _) _).alloc (by simp) _).alloc (by simp; omega) _⟩, by simp [cW, go_sem], by simp [cW, go_sem], by simp [cW, go_sem], by simp [cW, go_sem], .int .i64 0, .pointer none, ?_⟩
  have := World.alloc_heap_new ((w.alloc (.cells #[x0, x1] 124)).alloc (.cells #[y0, y1] 124)) (.cells #[.int .i64 0, .pointer none] 124)
  simpa [cW] using this
set_option maxRecDepth 100000 in
set_option maxHeartbeats 4000000 in
theorem call_num (r : Nat) (cv : Value) (s : St) (k : Nat) (y : Value) (vy : Vl) (w : World) (hR : RunAt X r cv w s) (hy : RepV r (Safe X r cv w) w vy y) :
    Calls Tryz.prog 85 #[ptr r, .agg #[.int .i64 (k : Int), .pointer none], y] w (EvPost X r cv w s .fault) := by
  obtain ⟨a0, a1, rfl, ⟨m, rfl⟩, ⟨q, rfl⟩⟩ := hy.form
  go_enter_defers Tryz.func85, Tryz.ntmps85
  go_wp2_with fail

  have hb := (cW_facts w (.int .i64 (k : Int)) (.pointer none) (.int .i64 m) (.pointer q)).1.2
  exact ⟨rfl, cv, s, hR.below hb, Kep.below hb, rfl⟩
theorem bad_leave {r b : Nat} {cv cv1 : Value} {w w6 w7 : World} {s s1 : St} {o o2 : Ou} {c : List PanicEntry} (h2 : o2 = o.next fun z s => .ok z s.leave) (ho : o.bad) (h : EvPost (AndX X b) r cv1 w6 s1 o (.panicked c) w7) (hK : Kep r cv w cv1 w6) (hd : s1.depth = s.depth + 1) (hd2 : s.depth ≤ 50) (tmps : Array Value) :
    Leaves Tryz.prog Tryz.f85 tmps (EvPost X r cv w s o2) [{ target := .fn (.func 102) #[], args := #[ptr r] }] (.panicking c) w7 := by
  obtain ⟨hc, cv7, s7, hR7, hK7, hd7⟩ := (evPost_bad ho _ _ _ _ _ _).1 h
  injection hc with hc
  subst hc
  refine leaves_cons (f := 102) (args := #[ptr r]) (by simp) (by simp [go_sem]) ?_
  refine (leaveCall_c r cv7 s7 _ hR7.bare (by omega) (by omega) _).mono ?_
  rintro e u' w9 ⟨rfl, rfl, hR9, hK9⟩
  have key : EvPost X r cv w s o2 (.panicked (panC o)) w9 := by
    rw [h2, Ou.next_bad ho]
    exact (evPost_bad ho _ _ _ _ _ _).2 ⟨rfl, cv7, _, hR9, (hK.trans hK7).trans hK9, by simp only [St.leave]; omega⟩
  rcases panC_cases ho with hp | hp <;> rw [hp] at key ⊢ <;> exact key
set_option maxRecDepth 100000 in
set_option maxHeartbeats 8000000 in
theorem call_clo (n : Nat) (ih : EvC n) (r : Nat) (cv : Value) (s : St) (j : Nat) (g : Tm) (e : En) (vy : Vl) (x y : Value) (w : World) (hn : 1501 ≤ s.steps + n) (hB : StB s) (hcs : s.calls < s.steps) (hox : VlOk (.clo j g e)) (hoy : VlOk vy) (hR : RunAt X r cv w s)
    (hx : RepV r (Safe X r cv w) w (.clo j g e) x) (hy : RepV r (Safe X r cv w) w vy y) :
    Calls Tryz.prog 85 #[ptr r, x, y] w (EvPost X r cv w s (callV (ev n) (.clo j g e) vy s)) := by
  obtain ⟨a0, a1, rfl, ⟨m, rfl⟩, ⟨q, rfl⟩⟩ := hy.form
  obtain ⟨h1, h2, h3, h4, h5, h6, h7⟩ := hB
  have hB := Lib.hid hx
  have hr0 := (Array.getElem?_eq_some_iff.1 hR.cells).1
  cases hx with
  | clo _ _ _ b br bp be bx pl0 ee e0 hb c0 c1 hbr cr hbp cp hp hbe ce hbx cx hee he =>
    have hbl := hb.1
    go_enter_defers Tryz.func85, Tryz.ntmps85
    go_wp2_with fail
    obtain ⟨⟨zs, zb⟩, z0, z1, z2, z3, z4, z5, zz⟩ := cW_facts w (.int .i64 0) (ptr b) (.int .i64 m) (.pointer q)
    change Calls _ _ _ (cW w (.int .i64 0) (ptr b) (.int .i64 m) (.pointer q)) _
    generalize cW w (.int .i64 0) (ptr b) (.int .i64 m) (.pointer q) = W3 at zs zb z0 z1 z2 z3 zz ⊢
    have C := enterCall_c r cv s W3 (hR.below zb) (by omega) (by omega)
    by_cases hd : 50 ≤ s.depth
    · refine C.mono ?_
      rintro e' w' (⟨_, rfl, rfl⟩ | ⟨h, _⟩)
      · show EvPost X r cv w s (callV (ev n) (.clo j g e) vy s) (.panicked longC) _
        rw [show callV (ev n) (.clo j g e) vy s = .long from if_pos hd]
        exact ⟨rfl, cv, s, hR.below zb, Kep.below zb, rfl⟩
      · omega
    · refine C.mono ?_
      rintro e' w4 (⟨h, _⟩ | ⟨_, rfl, hR4, hK4⟩)
      · omega
      clear C
      have hs4 := hK4.size
      obtain ⟨_, _, _, _, _, _, r6, rf⟩ := hR4.at
      have hS1 : Safe X r cv W3 w.heap.size := hR.new (Nat.le_refl _) (by omega)
      have d1 := hK4.cell hS1 z1
      have d2 := hK4.cell ((Kep.below zb).safe hb).2 ((zb.cell (p := ⟨b, 0, none⟩) hbl).trans c0)
      have hr4 : w4.heap[r]? = some (.cells (runC { s with calls := s.calls + 1, depth := s.depth + 1, deepest := max s.deepest (s.depth + 1) } cv) 68 (0, 0)) := hR4.cells
      have hal : ∀ o, (w4.alloc o).drew.heap[r]? = w4.heap[r]? := fun o => ((Below.refl _ w4).alloc (Nat.le_refl _) o).block r (by omega)
      have r6' : (w4.alloc (.cells #[.int .i64 (j : Int)] 3)).cell? ⟨r, 6, none⟩ = some cv := (World.cell?_of_block (a := ⟨r, 6, none⟩) (hal _)).trans r6
      have hrow : (w4.alloc (.cells #[.int .i64 (j : Int)] 3)).drew.ownsRow (r + 1) 3 1 cv s.called.length (intsV s.called) :=
        World.ownsRow.kept (row := none) hR4.drew.row (World.grownBy_alloc w4.drew _ none) (by rcases ho : Value.ownBlock cv with _ | j; exact .inl rfl; exact .inr (by simp))
      have hlen : s.called.length ≤ 100000 := by omega
      have H7 := Lib.hid h7
      clear h7
      go_wp2_with fail
      refine wp_region_noPanic ?_
      go_region_law ((refine step_append_int (by rfl) _ _ (by rfl) (by rfl) hrow ⟨w4.heap.size, 0, none⟩ (by rfl) (one_new w4 _ _) (by rfl) (by simp; omega) hlen ?_; intro cv' w5 hrow5 hK5 hr5; obtain ⟨ka, kc, rfl⟩ := kidsV hrow5; obtain ⟨_, _, _, _, _, _, t6, tf⟩ := seven_of (hr5.trans ((hal _).trans hr4))))
      all_goals
        obtain ⟨hR6, hK6⟩ := RunAt.called hR4 hrow5 hK5 (hr5.trans (hal _))
        have hKw := ((Kep.below (r := r) (cv := cv) zb).trans hK4).trans hK6
        have hsz := hK6.size
        clear hrow5 hK5 hr5 t6 tf
        refine NoPanic.normal ?_
        generalize (w5.setCell ⟨r, 6, none⟩ (.slice ka (s.called.length + 1) kc)) = W6 at hR6 hK6 hKw hsz ⊢
        have H : ∀ g, Safe X r cv w g → W6.drew.heap[g]? = w.heap[g]? ∧ Safe (AndX X (w.heap.size + 1 + 1)) r (.slice ka (s.called.length + 1) kc) W6.drew g := hKw.hide (b := w.heap.size + 1 + 1) (by omega)
        have hf : isFun g = true := by cases hox; assumption
        have hbo : ∀ i, w.heap.size ≤ i → Value.ownBlock cv ≠ some i := fun i hi e => by have := (World.ownsRow.lt hR.row _ e).2; omega
        have hS : ∀ i, i < 3 → Safe X r cv W3 (w.heap.size + i) := fun i hi => hR.new (by omega) (by omega)
        have hK36 := hK4.trans hK6
        have D := clobody_c (X := AndX X (w.heap.size + 1 + 1)) n ih g j e vy (s.enter j) r (.slice ka (s.called.length + 1) kc) (.agg #[.int .i64 m, .pointer q]) W6.drew b br bp be bx pl0 ee e0 hn
          ⟨h1, by simp only [St.enter]; omega, h3, h4, by simp only [St.enter]; omega, by simp only [St.enter]; omega, by simp only [St.enter, List.length_append, List.length_cons, List.length_nil]; have := H7.out; omega⟩ hf (clo_body hox hoy) (hR6.drew.hide (by show _ < W6.heap.size; omega)) (hB.out.keep H) (H br hbr).2 (cell_keep H hbr cr) (H bp hbp).2 (cell_keep H hbp cp) (hp.keep H) (H be hbe).2 (cell_keep H hbe ce) (H bx hbx).2 (cell_keep H hbx cx) (hee.keep H) (he.keep H) (hy.keep H)
        have hW := ev_ok n _ _ _ (s.enter j) (clo_body hox hoy)
        have y1 : W6.cell? ⟨w.heap.size, 1, none⟩ = some (ptr b) := hK36.cell (hS 0 (by omega)) z1
        have y2 : W6.cell? ⟨w.heap.size + 1, 0, none⟩ = some (.int .i64 m) := hK36.cell (hS 1 (by omega)) z2
        have y3 : W6.cell? ⟨w.heap.size + 1, 1, none⟩ = some (.pointer q) := hK36.cell (hS 1 (by omega)) z3
        have y4 : W6.cell? ⟨b, 1, none⟩ = some (.func (.func 100) #[] #[ptr br, ptr bp, ptr be, ptr bx]) := hKw.cell hb c1
        have y5 : W6.heap[w.heap.size + 1 + 1]? = some (.cells #[z4, z5] 124 (0, 0)) := (hK36.safe (hS 2 (by omega))).1.trans zz
        have hcv : callV (ev n) (.clo j g e) vy s = (ev n (bodyOf g) (j + 1) (bodyEn g j e vy) (s.enter j)).next fun z s => .ok z s.leave := if_neg hd
        generalize ev n (bodyOf g) (j + 1) (bodyEn g j e vy) (s.enter j) = o at D hW hcv
        have HC := Lib.hid hcv
        have D2 : Calls Tryz.prog 100 #[.agg #[.int .i64 m, .pointer q], ptr br, ptr bp, ptr be, ptr bx] W6.drew fun e' w' => EvPost (AndX X (w.heap.size + 1 + 1)) r (.slice ka (s.called.length + 1) kc) W6.drew (s.enter j) o e' w' ∧ (∃ z0 z1, w'.heap[w.heap.size + 1 + 1]? = some (.cells #[z0, z1] 124 (0, 0))) ∧ w'.cell? ⟨w.heap.size, 1, none⟩ = some (ptr b) ∧ w'.cell? ⟨w.heap.size + 1, 0, none⟩ = some (.int .i64 m) ∧ w'.cell? ⟨w.heap.size + 1, 1, none⟩ = some (.pointer q) ∧ w'.cell? ⟨b, 1, none⟩ = some (.func (.func 100) #[] #[ptr br, ptr bp, ptr be, ptr bx]) := D.mono (by
          intro e' w' h
          obtain ⟨cv7, hk⟩ := evPost_kep h
          have s0 := (hK36.safe (hS 0 (by omega))).2
          have s1 := (hK36.safe (hS 1 (by omega))).2
          have s2 := (hK36.safe (hS 2 (by omega))).2
          exact ⟨h, ⟨z4, z5, (hk.safe (X := X) s2).1.trans y5⟩, hk.cell (X := X) s0 y1, hk.cell (X := X) s1 y2, hk.cell (X := X) s1 y3, hk.cell (X := X) (hKw.safe hb).2 y4⟩)
        have e1 : b ≠ w.heap.size + 1 + 1 := by omega
        have e2 : w.heap.size ≠ w.heap.size + 1 + 1 := by omega
        have e3 : w.heap.size + 1 ≠ w.heap.size + 1 + 1 := by omega
        clear D hcv hrow hr4 hal r6 rf r6' z0 z1 z2 z3 zz d1 d2 c0 c1 cr cp ce cx hee he hp hS
        rcases Ou.cases o with ⟨v, s3, rfl⟩ | ho
        · have hd3 : s3.depth = s.depth + 1 := hW.2.depth
          clear hW
          go_wp2_with fail
          refine wp_region_noPanic ?_
          go_region_held (fun w' => w'.cell? ⟨w.heap.size, 1, none⟩ = some (ptr b) ∧ w'.cell? ⟨w.heap.size + 1, 0, none⟩ = some (.int .i64 m) ∧ w'.cell? ⟨w.heap.size + 1, 1, none⟩ = some (.pointer q) ∧ w'.cell? ⟨b, 1, none⟩ = some (.func (.func 100) #[] #[ptr br, ptr bp, ptr be, ptr bx]))
            (first | (simp only [set_far _ _ _ _ _ _ e1, set_far _ _ _ _ _ _ e2, set_far _ _ _ _ _ _ e3]; refine ⟨?_, ?_, ?_, ?_⟩ <;> assumption) | (refine ⟨?_, ?_, ?_, ?_⟩ <;> assumption) | go_keep)
            (first | (refine D2.mono ?_; rintro e' w7 ⟨⟨x, cv7, rfl, hv, hR7, hK7⟩, ⟨q0, q1, hz⟩, k0, k1, k2, k3⟩; obtain ⟨u0, u1, rfl, ⟨mu, rfl⟩, ⟨qu, rfl⟩⟩ := hv.form; obtain ⟨t0, t1, t2, t3⟩ := two_of hz))
          have hKd := kep_drew hKw
          have hsz7 := hK7.size
          have hsz6 : W6.drew.heap.size = W6.heap.size := rfl
          have hbo7 : Value.ownBlock cv7 ≠ some (w.heap.size + 1 + 1) := fun e => by
            rcases hK7.own _ e with h | h
            · rcases hK36.own _ h with h | h
              · exact hbo _ (by omega) h
              · omega
            · omega
          obtain ⟨hv8, hR8, hK8⟩ := ev_out0 hR (b := w.heap.size + 1 + 1) (by omega) hv hR7 (hKd.trans hK7) (by omega) hbo7
          obtain ⟨j0, j1⟩ := set_two (u0 := .int .i64 mu) (u1 := .pointer qu) t0 t1
          refine NoPanic.normal ?_
          go_wp2_with fail
          refine leaves_cons (f := 102) (args := #[ptr r]) (by simp) (by simp [go_sem]) ?_
          refine (leaveCall_c r cv7 s3 _ hR8 (by omega) (by omega) _).mono ?_
          rintro e u' w9 ⟨rfl, rfl, hR9, hK9⟩
          have hsf : Safe X r cv7 ((w7.setCell ⟨w.heap.size + 1 + 1, 0, none⟩ (.int .i64 mu)).setCell ⟨w.heap.size + 1 + 1, 1, none⟩ (.pointer qu)) (w.heap.size + 1 + 1) := ⟨by simp; omega, by omega, hbo7, fun e => by have := hR.priv _ e; omega⟩
          refine ⟨.agg #[.int .i64 mu, .pointer qu], by simp [results, Tryz.results85, go_sem, hK9.cell hsf j0, hK9.cell hsf j1], ?_⟩
          rw [HC.out]
          exact ⟨_, cv7, rfl, hK9.rep hv8, hR9, hK8.trans hK9⟩
        · clear hW
          go_wp2_with fail
          refine wp_region_any_tmps ?_
          go_region_held (fun w' => w'.cell? ⟨w.heap.size, 1, none⟩ = some (ptr b) ∧ w'.cell? ⟨w.heap.size + 1, 0, none⟩ = some (.int .i64 m) ∧ w'.cell? ⟨w.heap.size + 1, 1, none⟩ = some (.pointer q) ∧ w'.cell? ⟨b, 1, none⟩ = some (.func (.func 100) #[] #[ptr br, ptr bp, ptr be, ptr bx]))
            (first | (simp only [set_far _ _ _ _ _ _ e1, set_far _ _ _ _ _ _ e2, set_far _ _ _ _ _ _ e3]; refine ⟨?_, ?_, ?_, ?_⟩ <;> assumption) | (refine ⟨?_, ?_, ?_, ?_⟩ <;> assumption) | go_keep)
            (first | (refine D2.mono ?_; rintro e' w7 ⟨h, ⟨q0, q1, hz⟩, k0, k1, k2, k3⟩; rcases e' with v | c | _; rotate_left; (exact fun tmps => bad_leave HC.out ho h (kep_drew hKw) rfl h6 tmps); (exact absurd ((evPost_bad ho _ _ _ _ _ _).1 h).1 (by simp)); have hF : RowKit.Hid False := Lib.hid (absurd ((evPost_bad ho _ _ _ _ _ _).1 h).1 (by simp)); obtain ⟨u0, u1, rfl⟩ : ∃ u0 u1, v = .agg #[.int .i64 u0, .pointer u1] := hF.out.elim; obtain ⟨t0, t1, t2, t3⟩ := two_of hz))
          exact hF.out.elim
end Go.Proofs.YtdgdcfdhfmbacaaGreatDoor

/- The program's runner: what chooses. -/
namespace Go.Proofs.YtdgdcfdhfmbacaaGreatDoor
open Go.RowKit Go.Shelf
open Ff
set_option linter.unusedVariables false
variable {X : Nat → Prop}
attribute [local irreducible] Calls

theorem before_len0 (t : Tm) : (before t 0).length = 1 := by simp [before]
/-- The places of two kids. -/
theorem kids2 {S : Nat → Prop} {w : World} {t f a : Tm} {i : Nat} {v : Value} (h : PlaceR S w t i v) (hk : t.kids = [f, a]) : ∃ b g cap p0 p1, v = ptr b ∧ S b ∧ S g ∧ w.cell? ⟨b, 0, none⟩ = some (enc t) ∧ w.cell? ⟨b, 3, none⟩ = some (.slice (some ⟨g, 0, none⟩) 2 cap) ∧ w.cell? ⟨g, 0, none⟩ = some (ptr p0) ∧ w.cell? ⟨g, 1, none⟩ = some (ptr p1) ∧ PlaceR S w f (i + 1) (ptr p0) ∧ PlaceR S w a (i + 1 + (parts f).length) (ptr p1) := by
  cases h with
  | mk _ _ b g cap kv pk hb c0 c1 c3 c4 hkv hc hk2 =>
    obtain ⟨rfl, hg⟩ := hkv (by rw [hk]; simp)
    have q0 := hk2 0 f (by rw [hk]; rfl)
    have q1 := hk2 1 a (by rw [hk]; rfl)
    have r0 := hc 0 f (by rw [hk]; rfl)
    have r1 := hc 1 a (by rw [hk]; rfl)
    obtain ⟨p0, e0⟩ := q0.form
    obtain ⟨p1, e1⟩ := q1.form
    rw [before_len0] at q0
    rw [before_succ t 0 f (by rw [hk]; rfl), List.length_append, before_len0] at q1
    rw [e0] at q0 r0
    rw [e1] at q1 r1
    refine ⟨b, g, cap, p0, p1, rfl, hb, hg, c0, by rw [c3, hk]; rfl, r0, r1, q0, ?_⟩
    rw [show i + 1 + (parts f).length = i + (1 + (parts f).length) by omega]
    exact q1
theorem kids3 {S : Nat → Prop} {w : World} {t x y z : Tm} {i : Nat} {v : Value} (h : PlaceR S w t i v) (hk : t.kids = [x, y, z]) : ∃ b g cap p0 p1 p2, v = ptr b ∧ S b ∧ S g ∧ w.cell? ⟨b, 0, none⟩ = some (enc t) ∧ w.cell? ⟨b, 3, none⟩ = some (.slice (some ⟨g, 0, none⟩) 3 cap) ∧ w.cell? ⟨g, 0, none⟩ = some (ptr p0) ∧ w.cell? ⟨g, 1, none⟩ = some (ptr p1) ∧ w.cell? ⟨g, 2, none⟩ = some (ptr p2) ∧ PlaceR S w x (i + 1) (ptr p0) ∧ PlaceR S w y (i + 1 + (parts x).length) (ptr p1) ∧ PlaceR S w z (i + 1 + (parts x).length + (parts y).length) (ptr p2) := by
  cases h with
  | mk _ _ b g cap kv pk hb c0 c1 c3 c4 hkv hc hk2 =>
    obtain ⟨rfl, hg⟩ := hkv (by rw [hk]; simp)
    have q0 := hk2 0 x (by rw [hk]; rfl)
    have q1 := hk2 1 y (by rw [hk]; rfl)
    have q2 := hk2 2 z (by rw [hk]; rfl)
    have r0 := hc 0 x (by rw [hk]; rfl)
    have r1 := hc 1 y (by rw [hk]; rfl)
    have r2 := hc 2 z (by rw [hk]; rfl)
    obtain ⟨p0, e0⟩ := q0.form
    obtain ⟨p1, e1⟩ := q1.form
    obtain ⟨p2, e2⟩ := q2.form
    rw [before_len0] at q0
    rw [before_succ t 0 x (by rw [hk]; rfl), List.length_append, before_len0] at q1
    rw [before_succ t 1 y (by rw [hk]; rfl), List.length_append, before_succ t 0 x (by rw [hk]; rfl), List.length_append, before_len0] at q2
    rw [e0] at q0 r0
    rw [e1] at q1 r1
    rw [e2] at q2 r2
    refine ⟨b, g, cap, p0, p1, p2, rfl, hb, hg, c0, by rw [c3, hk]; rfl, r0, r1, r2, q0, ?_, ?_⟩
    · rw [show i + 1 + (parts x).length = i + (1 + (parts x).length) by omega]
      exact q1
    · rw [show i + 1 + (parts x).length + (parts y).length = i + (1 + (parts x).length + (parts y).length) by omega]
      exact q2
/-- The result's block, first. -/
theorem res_block (w : World) : ∃ z0 z1, (w.alloc (.cells #[.int .i64 0, .pointer none] 124)).heap[w.heap.size]? = some (.cells #[z0, z1] 124 (0, 0)) := ⟨_, _, World.alloc_heap_new w _⟩
theorem StB.of_le {s s' : St} (h : StB s) (g : Goes s s') : StB s' := h.goes g
/-- What a sub-evaluation leaves, within a frame that has a block of its own. -/
theorem sub_bad {r b : Nat} {cv cv1 : Value} {w w2 w3 : World} {s s1 : St} {o : Ou} {fn : Func} {e : Ending} {a : Act} (ho : o.bad) (h : EvPost (AndX X b) r cv1 w2 s1 o e w3) (K : Kep r cv w cv1 w2) (hd : s1.depth = s.depth) (ha : a.defers = []) {Q : Exit → Act → World → Prop} {R : Ending → World → Prop}
    (hQ : ∀ c, Q (.panic c) a w3 = (a.defers = [] ∧ R (.panicked c) w3)) (hR : R = EvPost X r cv w s o) : ∃ c, e = .panicked c ∧ Q (.panic c) a w3 := by
  have h2 := (evPost_bad ho _ _ _ _ _ _).1 h
  refine ⟨_, h2.1, ?_⟩
  rw [hQ, hR]
  refine ⟨ha, (evPost_bad ho _ _ _ _ _ _).2 ?_⟩
  rw [← h2.1]
  exact pan_out K hd h2
set_option maxRecDepth 100000 in
set_option maxHeartbeats 4000000 in
theorem choose_c (n : Nat) (ih : EvC n) (x y z : Tm) (i : Nat) (e : En) (s : St) (r : Nat) (cv pv ep : Value) (w : World) (hn : 1501 ≤ s.steps + n) (hB : StB s) (hok : TmOk (.sel x y z) i e) (hR : RunAt X r cv w s) (hP : PlaceR (Safe X r cv w) w (.sel x y z) i pv) (hE : RepE r (Safe X r cv w) w e ep) :
    Calls Tryz.prog 88 #[ptr r, pv, ep] w (EvPost X r cv w s (evB (ev n) (.sel x y z) i e s)) := by
  obtain ⟨b, g, cap, p0, p1, p2, rfl, hb, hg, c0, c3, d0, d1, d2, hp0, hp1, hp2⟩ := kids3 hP rfl
  obtain ⟨hx, hy, hz⟩ := hok.sel
  have hr0 := (Array.getElem?_eq_some_iff.1 hR.cells).1
  have hbl := hb.1
  have hgl := hg.1
  have hW := ev_ok n _ _ _ s hx
  have zb := (Below.refl w.heap.size w).alloc (Nat.le_refl _) (.cells #[.int .i64 0, .pointer none] 124)
  have zz := res_block w
  have zs : (w.alloc (.cells #[.int .i64 0, .pointer none] 124)).heap.size = w.heap.size + 1 := by simp
  go_enter Tryz.func88, Tryz.ntmps88
  have a3 := (zb.cell (p := ⟨b, 3, none⟩) hbl).trans c3
  have b0 := (zb.cell (p := ⟨g, 0, none⟩) hgl).trans d0
  have b1 := (zb.cell (p := ⟨g, 1, none⟩) hgl).trans d1
  have b2 := (zb.cell (p := ⟨g, 2, none⟩) hgl).trans d2
  generalize hW1 : w.alloc (.cells #[.int .i64 0, .pointer none] 124) = W1 at zb zz zs a3 b0 b1 b2
  obtain ⟨z0, z1, zz⟩ := zz
  have K1 := Kep.below (r := r) (cv := cv) zb
  have H1 := K1.hide (X := X) (b := w.heap.size) (Nat.le_refl _)
  have C := ih (AndX X w.heap.size) x (i + 1) e s r cv (ptr p0) ep W1 hn hB hx ((hR.below zb).hide (by omega)) (hp0.keep H1) (hE.keep H1)
  have HO : ∃ o, ev n x (i + 1) e s = o := ⟨_, rfl⟩
  obtain ⟨o, ho⟩ := HO
  have hevB : evB (ev n) (.sel x y z) i e s = o.next fun u s => match u with
    | .num k => if k = 0 then ev n y (i + 1 + (parts x).length) e s else ev n z (i + 1 + (parts x).length + (parts y).length) e s
    | .clo _ _ _ => .fault := by rw [← ho]; rfl
  rw [ho] at C hW
  have HE := Lib.hid hevB
  clear hevB ho
  have hfin : ∀ (o3 : Ou) (s2 : St) (cv2 : Value) (w3 w4 : World) (e' : Ending), Kep r cv W1 cv2 w3 → EvPost (AndX X w.heap.size) r cv2 w3 s2 o3 e' w4 → Kep r cv w cv2 w3 ∧ ∃ y0 y1, w4.heap[w.heap.size]? = some (.cells #[y0, y1] 124 (0, 0)) := fun o3 s2 cv2 w3 w4 e' hK h => by
    obtain ⟨cv', hk⟩ := evPost_kep h
    have q0 : Safe X r cv W1 w.heap.size := hR.new (Nat.le_refl _) (by omega)
    exact ⟨K1.trans hK, z0, z1, ((hK.trans hk).safe q0).1.trans zz⟩
  have hown : ∀ (cv2 : Value) (w4 : World), Kep r cv W1 cv2 w4 → Value.ownBlock cv2 ≠ some w.heap.size := fun cv2 w4 hK e => by
    rcases hK.own _ e with h | h
    · have := (World.ownsRow.lt hR.row _ h).2; omega
    · omega
  go_wp2_with fail
  rcases Ou.cases o with ⟨v, s1, rfl⟩ | hbad
  · obtain ⟨hokv, hG⟩ := hW
    have hB1 := hB.goes hG
    refine C.mono ?_
    rintro e' w2 ⟨xv, cv1, rfl, hv, hR2, hK2⟩
    clear C
    have hs2 := hK2.size
    have sb : Safe X r cv W1 b := (K1.safe hb).2
    have sg : Safe X r cv W1 g := (K1.safe hg).2
    have H2 := (K1.trans hK2).hide (X := X) (b := w.heap.size) (Nat.le_refl _)
    have aa3 := hK2.cell sb a3
    have bb1 := hK2.cell sg b1
    have bb2 := hK2.cell sg b2
    have M := mustNumber_c r _ v xv w2 hv
    cases v with
    | clo j f e1 =>
      go_wp2_with fail
      refine M.mono ?_
      rintro e' w3 ⟨he, hb3⟩
      rw [show e' = .panicked faultC from he]
      refine ⟨rfl, ?_⟩
      rw [HE.out]
      exact ⟨rfl, cv1, s1, hR2.bare.below hb3, (K1.trans hK2).trans (Kep.below hb3), hG.depth⟩
    | num k =>
      go_wp2_with fail
      refine M.mono ?_
      rintro e' w3 ⟨he, hb3⟩
      rw [show e' = .returned (.int .i64 (k : Int)) from he]
      clear he M
      have hK3 := hK2.trans (Kep.below (r := r) (cv := cv1) hb3)
      have hs3 := hb3.size
      have H3 := (K1.trans hK3).hide (X := X) (b := w.heap.size) (Nat.le_refl _)
      have ab3 := hK3.cell sb a3
      have ab1 := hK3.cell sg b1
      have ab2 := hK3.cell sg b2
      clear aa3 bb1 bb2
      have fin : ∀ (t : Tm) (j : Nat) (pt : Nat), TmOk t j e → PlaceR (Safe X r cv w) w t j (ptr pt) → Calls Tryz.prog 69 #[ptr r, ptr pt, ep] w3 (EvPost (AndX X w.heap.size) r cv1 w3 s1 (ev n t j e s1)) := fun t j pt h1 h2 =>
        ih _ _ _ _ _ _ _ _ _ _ (by have := hG.steps; omega) hB1 h1 (hR2.below hb3) (h2.keep H3) (hE.keep H3)
      by_cases hk : k = 0
      · have hk2 : ((k : Int) == 0) = true := by simp [hk]
        have C := fin y _ p1 hy hp1
        have HE2 : evB (ev n) (.sel x y z) i e s = ev n y (i + 1 + (parts x).length) e s1 := HE.out.trans (if_pos hk)
        have HE := Lib.hid HE2
        clear HE2
        generalize ev n y (i + 1 + (parts x).length) e s1 = o2 at C HE
        clear fin hk
        go_wp2_with fail
        refine C.mono ?_
        intro e' w4 h
        obtain ⟨kk, y0, y1, hzz⟩ := hfin _ _ _ _ _ _ hK3 h
        obtain ⟨t0, t1, t2, t3⟩ := two_of hzz
        rcases Ou.cases o2 with ⟨v2, s3, rfl⟩ | hbad2
        · obtain ⟨x4, cv4, rfl, hv4, hR4, hK4⟩ := h
          obtain ⟨u0, u1, rfl, ⟨mu, rfl⟩, ⟨qu, rfl⟩⟩ := hv4.form
          have hs4 := hK4.size
          go_wp2_with fail
          refine bodyPost_ret (v := .agg #[.int .i64 mu, .pointer qu]) (by simp [results, Tryz.results88, go_sem, t0, t1]) rfl ?_
          rw [HE.out]
          exact ev_out hR (Nat.le_refl _) hv4 hR4 (kk.trans hK4) (by omega) (hown _ _ (hK3.trans hK4))
        · obtain ⟨hc, hp⟩ := (evPost_bad hbad2 _ _ _ _ _ _).1 h
          rw [hc]
          refine ⟨rfl, ?_⟩
          rw [HE.out]
          exact (evPost_bad hbad2 _ _ _ _ _ _).2 (pan_out kk hG.depth ⟨rfl, hp⟩)
      · have hk2 : ((k : Int) == 0) = false := by simp [hk]
        have C := fin z _ p2 hz hp2
        have HE2 : evB (ev n) (.sel x y z) i e s = ev n z (i + 1 + (parts x).length + (parts y).length) e s1 := HE.out.trans (if_neg hk)
        have HE := Lib.hid HE2
        clear HE2
        generalize ev n z (i + 1 + (parts x).length + (parts y).length) e s1 = o2 at C HE
        clear fin hk
        go_wp2_with fail
        refine C.mono ?_
        intro e' w4 h
        obtain ⟨kk, y0, y1, hzz⟩ := hfin _ _ _ _ _ _ hK3 h
        obtain ⟨t0, t1, t2, t3⟩ := two_of hzz
        rcases Ou.cases o2 with ⟨v2, s3, rfl⟩ | hbad2
        · obtain ⟨x4, cv4, rfl, hv4, hR4, hK4⟩ := h
          obtain ⟨u0, u1, rfl, ⟨mu, rfl⟩, ⟨qu, rfl⟩⟩ := hv4.form
          have hs4 := hK4.size
          go_wp2_with fail
          refine bodyPost_ret (v := .agg #[.int .i64 mu, .pointer qu]) (by simp [results, Tryz.results88, go_sem, t0, t1]) rfl ?_
          rw [HE.out]
          exact ev_out hR (Nat.le_refl _) hv4 hR4 (kk.trans hK4) (by omega) (hown _ _ (hK3.trans hK4))
        · obtain ⟨hc, hp⟩ := (evPost_bad hbad2 _ _ _ _ _ _).1 h
          rw [hc]
          refine ⟨rfl, ?_⟩
          rw [HE.out]
          exact (evPost_bad hbad2 _ _ _ _ _ _).2 (pan_out kk hG.depth ⟨rfl, hp⟩)
  · refine C.mono ?_
    intro e' w2 h
    obtain ⟨hc, hp⟩ := (evPost_bad hbad _ _ _ _ _ _).1 h
    rw [hc]
    refine ⟨rfl, ?_⟩
    rw [HE.out, Ou.next_bad hbad]
    exact (evPost_bad hbad _ _ _ _ _ _).2 (pan_out K1 rfl ⟨rfl, hp⟩)
end Go.Proofs.YtdgdcfdhfmbacaaGreatDoor
