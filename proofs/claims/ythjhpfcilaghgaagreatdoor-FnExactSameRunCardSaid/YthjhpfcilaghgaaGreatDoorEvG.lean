import Derived.Test.YthjhpfcilaghgaaGreatDoorEvF
/- The program's closures are called: their bodies. -/
namespace Go.Proofs.YthjhpfcilaghgaaGreatDoor
open Go.RowKit Go.Shelf
open Ff
set_option linter.unusedVariables false
variable {X : Nat → Prop}
attribute [local irreducible] Calls

/-! A block that is one's own: what is evaluated in the meantime does not speak of it. -/
theorem RunAt.hide {r : Nat} {cv : Rw} {w : World} {s : St} (h : RunAt X r cv w s) {b : Nat} (hb : b < w.heap.size) : RunAt (AndX X b) r cv w s := ⟨h.cells, h.row, h.rowD, h.len, h.sep, fun g hg => hg.elim (h.priv g) (fun e => by omega)⟩
theorem RunAt.bare {r : Nat} {cv : Rw} {w : World} {s : St} {b : Nat} (h : RunAt (AndX X b) r cv w s) : RunAt X r cv w s := ⟨h.cells, h.row, h.rowD, h.len, h.sep, fun g hg => h.priv g (.inl hg)⟩
theorem Kep.hide {r : Nat} {c0 c1 : Rw} {w0 w1 : World} (h : Kep r c0 w0 c1 w1) {b : Nat} (hb : w0.heap.size ≤ b) (g : Nat) (hs : Safe X r c0 w0 g) : w1.heap[g]? = w0.heap[g]? ∧ Safe (AndX X b) r c1 w1 g :=
  have k := h.safe hs
  ⟨k.1, k.2.1, k.2.2.1, k.2.2.2.1, fun e => e.elim k.2.2.2.2 (fun e => by have := hs.1; omega)⟩
theorem set_hidden {r : Nat} {c1 : Rw} {w1 : World} {b k : Nat} {u : Value} (g : Nat) (hs : Safe (AndX X b) r c1 w1 g) : (w1.setCell ⟨b, k, none⟩ u).heap[g]? = w1.heap[g]? ∧ Safe (AndX X b) r c1 (w1.setCell ⟨b, k, none⟩ u) g :=
  ⟨Below.heap_setCell _ _ _ _ (fun e => hs.2.2.2 (.inr e)), by simpa using hs.1, hs.2.1, hs.2.2.1, hs.2.2.2⟩
theorem safe_bare {r : Nat} {c1 : Rw} {w1 : World} {b : Nat} (g : Nat) (hs : Safe (AndX X b) r c1 w1 g) : w1.heap[g]? = w1.heap[g]? ∧ Safe X r c1 w1 g := ⟨rfl, hs.1, hs.2.1, hs.2.2.1, fun e => hs.2.2.2 (.inl e)⟩
theorem set_far (W : World) (b k : Nat) (v : Value) (c j : Nat) (h : c ≠ b) : (W.setCell ⟨b, k, none⟩ v).cell? ⟨c, j, none⟩ = W.cell? ⟨c, j, none⟩ := World.cell?_setCell_other W _ _ v (fun e => h (by injection e with e; exact e.symm))
/-- What a run that panics leaves. -/
def PanP (X : Nat → Prop) (r : Nat) (cv : Rw) (w : World) (s : St) (c : List PanicEntry) (e : Ending) (w' : World) : Prop := e = .panicked c ∧ ∃ cv' s', RunAt X r cv' w' s' ∧ Kep r cv w cv' w' ∧ s'.depth = s.depth
def panC : Ou → List PanicEntry
  | .ok _ _ => []
  | .fault => faultC
  | .long => longC
def Ou.bad : Ou → Prop
  | .ok _ _ => False
  | _ => True
theorem Ou.cases (o : Ou) : (∃ v s, o = .ok v s) ∨ o.bad := by cases o; exact .inl ⟨_, _, rfl⟩; exact .inr trivial; exact .inr trivial
theorem evPost_bad {o : Ou} (h : o.bad) (r : Nat) (cv : Rw) (w : World) (s : St) (e : Ending) (w' : World) : EvPost X r cv w s o e w' ↔ PanP X r cv w s (panC o) e w' := by cases o; exact h.elim; exact Iff.rfl; exact Iff.rfl
theorem panC_cases {o : Ou} (h : o.bad) : panC o = faultC ∨ panC o = longC := by cases o; exact h.elim; exact .inl rfl; exact .inr rfl
theorem Ou.next_bad {o : Ou} (h : o.bad) (k : Vl → St → Ou) : o.next k = o := by cases o; exact h.elim; rfl; rfl
/-- The end of what evaluates: the value lies in the result's own block. -/
theorem ev_out0 {r b : Nat} {cv cv' : Rw} {a0 a1 : Value} {w w3 : World} {s0 s' : St} {v : Vl} (hR : RunAt X r cv w s0) (hb : w.heap.size ≤ b) (hv : RepV r (Safe (AndX X b) r cv' w3) w3 v (.agg #[a0, a1])) (hR3 : RunAt (AndX X b) r cv' w3 s') (K3 : Kep r cv w cv' w3) (hbl : b < w3.heap.size) (hbo : ¬ cv'.own b) :
    RepV r (Safe X r cv' ((w3.setCell ⟨b, 0, none⟩ a0).setCell ⟨b, 1, none⟩ a1)) ((w3.setCell ⟨b, 0, none⟩ a0).setCell ⟨b, 1, none⟩ a1) v (.agg #[a0, a1]) ∧ RunAt X r cv' ((w3.setCell ⟨b, 0, none⟩ a0).setCell ⟨b, 1, none⟩ a1) s' ∧ Kep r cv w cv' ((w3.setCell ⟨b, 0, none⟩ a0).setCell ⟨b, 1, none⟩ a1) := by
  have hr := hR.lt
  have st : ∀ (W : World) (k : Nat) (u : Value), RunAt X r cv' W s' → RunAt X r cv' (W.setCell ⟨b, k, none⟩ u) s' := fun W k u h => h.setFar (by omega) hbo k u
  exact ⟨((hv.keep set_hidden).keep set_hidden).keep safe_bare, st _ _ _ (st _ _ _ hR3.bare), (K3.setNew hb _ _).setNew hb _ _⟩
theorem ev_out {r b : Nat} {cv cv' : Rw} {a0 a1 : Value} {w w3 : World} {s s0 s' : St} {v : Vl} (hR : RunAt X r cv w s0) (hb : w.heap.size ≤ b) (hv : RepV r (Safe (AndX X b) r cv' w3) w3 v (.agg #[a0, a1])) (hR3 : RunAt (AndX X b) r cv' w3 s') (K3 : Kep r cv w cv' w3) (hbl : b < w3.heap.size) (hbo : ¬ cv'.own b) :
    EvPost X r cv w s (.ok v s') (.returned (.agg #[a0, a1])) ((w3.setCell ⟨b, 0, none⟩ a0).setCell ⟨b, 1, none⟩ a1) := ⟨_, cv', rfl, ev_out0 hR hb hv hR3 K3 hbl hbo⟩
theorem pan_out {r b : Nat} {cv cv1 : Rw} {w w2 w3 : World} {s s1 : St} {c : List PanicEntry} {e : Ending} (K : Kep r cv w cv1 w2) (hd : s1.depth = s.depth) (h : PanP (AndX X b) r cv1 w2 s1 c e w3) : PanP X r cv w s c e w3 := by
  obtain ⟨h1, cv', s', h2, h3, h4⟩ := h
  exact ⟨h1, cv', s', h2.bare, K.trans h3, h4.trans hd⟩
theorem evPost_kep {r : Nat} {cv : Rw} {w w' : World} {s : St} {o : Ou} {e : Ending} (h : EvPost X r cv w s o e w') : ∃ cv', Kep r cv w cv' w' := by
  cases o with
  | ok v s' => obtain ⟨x, cv', _, _, _, h⟩ := h; exact ⟨cv', h⟩
  | fault => obtain ⟨_, cv', _, _, h, _⟩ := h; exact ⟨cv', h⟩
  | long => obtain ⟨_, cv', _, _, h, _⟩ := h; exact ⟨cv', h⟩
/-- What evaluates, where no more than n steps are left. -/
def EvC (n : Nat) : Prop := ∀ (X : Nat → Prop) (t : Tm) (i : Nat) (e : En) (s : St) (r : Nat) (cv : Rw) (pv ep : Value) (w : World), 1501 ≤ s.steps + n → StB s → TmOk t i e → RunAt X r cv w s → PlaceR (Safe X r cv w) w t i pv → RepE r (Safe X r cv w) w e ep →
  Calls Tryz.prog 57 #[ptr r, pv, ep] w (EvPost X r cv w s (ev n t i e s))
/-- The names as they are within a closure's body. -/
theorem body_env {r b : Nat} {S : Nat → Prop} {w : World} {g : Tm} {j : Nat} {e : En} {y : Vl} {a0 a1 ee e0 : Value} {bs : Nat} (hg : isFun g = true) (hv : RepV r S w (.clo j g e) (.agg #[.int .i64 0, .iface 179 (ptr b)])) (hee : CloEnv S w g b ee e0) (he : RepE r S w e e0) (hy : RepV r S w y (.agg #[a0, a1]))
    (hb : S bs) (c0 : w.cell? ⟨bs, 0, none⟩ = some (.int .u8 ((paramOf g).toNat : Int))) (c1 : w.cell? ⟨bs, 1, none⟩ = some a0) (c2 : w.cell? ⟨bs, 2, none⟩ = some a1) (c3 : w.cell? ⟨bs, 3, none⟩ = some ee) (ho : ptrN ee ≤ bs) : RepE r S w (bodyEn g j e y) (ptr bs) := by
  cases g with
  | fn c t => cases hee; exact .cons _ _ _ _ _ _ _ hb c0 c1 c2 c3 ho hy he
  | fix f c t =>
    obtain ⟨bs', rfl, h2, h3, h4, h5, h6, h7⟩ := hee
    exact .cons _ _ _ _ _ _ _ hb c0 c1 c2 c3 ho hy (.cons _ _ _ _ _ _ _ h2 h3 h4 h5 h6 h7 hv he)
  | _ => cases hg
theorem cloEnv_form {r b : Nat} {S : Nat → Prop} {w : World} {g : Tm} {e : En} {ee e0 : Value} (hee : CloEnv S w g b ee e0) (he : RepE r S w e e0) : (∃ p, ee = .pointer p) ∧ ∀ B, (∀ g, S g → g < B) → ptrN ee ≤ B := by
  cases g with
  | fix f c t => obtain ⟨bs, rfl, h2, _⟩ := hee; exact ⟨⟨_, rfl⟩, fun B h => h bs h2⟩
  | _ => cases hee; exact ⟨he.form, fun B h => he.top h⟩
/-- The first kid's place. -/
theorem kid_place {S : Nat → Prop} {w : World} {t s : Tm} {i k : Nat} {v : Value} (h : PlaceR S w t i v) (hs : t.kids[k]? = some s) : ∃ b g cap pk, v = ptr b ∧ S b ∧ S g ∧ w.cell? ⟨b, 3, none⟩ = some (.slice (some ⟨g, 0, none⟩) t.kids.length cap) ∧ w.cell? ⟨g, k, none⟩ = some pk ∧ PlaceR S w s (i + (before t k).length) pk := by
  cases h with
  | mk _ _ b g cap kv pk hb c0 c1 c3 c4 hkv hc hk =>
    obtain ⟨rfl, hg⟩ := hkv (fun e => by rw [e] at hs; simp at hs)
    exact ⟨b, g, cap, pk k, rfl, hb, hg, c3, hc k s hs, hk k s hs⟩
theorem place_idx {S : Nat → Prop} {w : World} {t : Tm} {i b : Nat} (h : PlaceR S w t i (ptr b)) : w.cell? ⟨b, 1, none⟩ = some (.int .i64 (i : Int)) := by
  cases h; assumption
theorem PlaceR.form {S : Nat → Prop} {w : World} {t : Tm} {i : Nat} {v : Value} (h : PlaceR S w t i v) : ∃ b, v = ptr b := by cases h; exact ⟨_, rfl⟩
theorem fun_kid {g : Tm} (h : isFun g = true) : g.kids[0]? = some (bodyOf g) ∧ g.kids.length = 1 ∧ (before g 0).length = 1 := by cases g <;> first | exact ⟨rfl, rfl, rfl⟩ | cases h
/-- The result's block, first. -/
theorem res_block (w : World) : ∃ z0 z1, (w.alloc (.cells #[.int .i64 0, .nilIface] 105)).heap[w.heap.size]? = some (.cells #[z0, z1] 105 (0, 0)) := ⟨_, _, World.alloc_heap_new w _⟩
end Go.Proofs.YthjhpfcilaghgaaGreatDoor
