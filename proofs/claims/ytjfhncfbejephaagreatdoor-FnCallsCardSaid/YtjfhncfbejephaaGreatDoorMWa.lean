import Derived.Test.YtjfhncfbejephaaGreatDoorMSp
import Derived.Test.YtjfhncfbejephaaGreatDoorMRd
import Derived.RegionTactic
import Derived.ChangeAlike
import Derived.BigRegion
/- The model's reader of a text: what stands behind the first byte of a term: the frame. -/
namespace Go.Proofs.YtjfhncfbejephaaGreatDoor
open Go.RowKit
open Ff
set_option linter.unusedVariables false

/-- The two blocks of the function: the result's, zero; the local one's, which holds x0 .. x3. -/
structure Fr (h : Nat) (x0 x1 x2 x3 : Value) (W : World) : Prop where
  p0 : W.cell? ⟨h, 0, none⟩ = some (.int .u8 0)
  p1 : W.cell? ⟨h, 1, none⟩ = some (.int .i64 0)
  p2 : W.cell? ⟨h, 2, none⟩ = some (.string ⟨#[]⟩)
  p3 : W.cell? ⟨h, 3, none⟩ = some (.slice none 0 0)
  q0 : W.frozen? ⟨h, 0, none⟩ = false
  q1 : W.frozen? ⟨h, 1, none⟩ = false
  q2 : W.frozen? ⟨h, 2, none⟩ = false
  q3 : W.frozen? ⟨h, 3, none⟩ = false
  y0 : W.cell? ⟨h + 1 + 1, 0, none⟩ = some x0
  y1 : W.cell? ⟨h + 1 + 1, 1, none⟩ = some x1
  y2 : W.cell? ⟨h + 1 + 1, 2, none⟩ = some x2
  y3 : W.cell? ⟨h + 1 + 1, 3, none⟩ = some x3
  z0 : W.frozen? ⟨h + 1 + 1, 0, none⟩ = false
  z1 : W.frozen? ⟨h + 1 + 1, 1, none⟩ = false
  z2 : W.frozen? ⟨h + 1 + 1, 2, none⟩ = false
  z3 : W.frozen? ⟨h + 1 + 1, 3, none⟩ = false
  sz : h + 1 + 1 < W.heap.size
/-- The world in which the switch begins. -/
def W0 (w : World) (c : Int) : World := ((w.alloc (.cells #[.int .u8 0, .int .i64 0, .string ⟨#[]⟩, .slice none 0 0] 78)).alloc (.cells #[] 78)).alloc (.cells #[.int .u8 c, .int .i64 0, .string ⟨#[]⟩, .slice (some ⟨w.heap.size + 1, 0, none⟩) 0 0] 78)

theorem W0_fr (w : World) (c : Int) : Fr w.heap.size (.int .u8 c) (.int .i64 0) (.string ⟨#[]⟩) (.slice (some ⟨w.heap.size + 1, 0, none⟩) 0 0) (W0 w c) := by
  constructor <;> first | (simp [W0, go_sem]; done) | (simp [W0, go_sem]; omega)
theorem Fr.keep {h b : Nat} {x0 x1 x2 x3 : Value} {W W' : World} (f : Fr h x0 x1 x2 x3 W) (hg : W.grownBy W' (some b)) (hb : b < h) : Fr h x0 x1 x2 x3 W' := by
  have s := f.sz
  have s1 := hg.size
  have e1 : W'.heap[h]? = W.heap[h]? := hg.block h (by omega) (by simp; omega)
  have e2 : W'.heap[h + 1 + 1]? = W.heap[h + 1 + 1]? := hg.block _ (by omega) (by simp; omega)
  have c1 : ∀ j, W'.cell? ⟨h, j, none⟩ = W.cell? ⟨h, j, none⟩ := fun j => World.cell?_of_block (a := ⟨h, j, none⟩) e1
  have c2 : ∀ j, W'.cell? ⟨h + 1 + 1, j, none⟩ = W.cell? ⟨h + 1 + 1, j, none⟩ := fun j => World.cell?_of_block (a := ⟨h + 1 + 1, j, none⟩) e2
  have f1 : ∀ j, W'.frozen? ⟨h, j, none⟩ = W.frozen? ⟨h, j, none⟩ := fun j => World.frozen?_of_block (a := ⟨h, j, none⟩) e1
  have f2 : ∀ j, W'.frozen? ⟨h + 1 + 1, j, none⟩ = W.frozen? ⟨h + 1 + 1, j, none⟩ := fun j => World.frozen?_of_block (a := ⟨h + 1 + 1, j, none⟩) e2
  exact ⟨(c1 _).trans f.p0, (c1 _).trans f.p1, (c1 _).trans f.p2, (c1 _).trans f.p3, (f1 _).trans f.q0, (f1 _).trans f.q1, (f1 _).trans f.q2, (f1 _).trans f.q3, (c2 _).trans f.y0, (c2 _).trans f.y1, (c2 _).trans f.y2, (c2 _).trans f.y3, (f2 _).trans f.z0, (f2 _).trans f.z1, (f2 _).trans f.z2, (f2 _).trans f.z3, by omega⟩
theorem Fr.set2 {h : Nat} {x0 x1 x2 x3 : Value} {W : World} (f : Fr h x0 x1 x2 x3 W) (y : Value) : Fr h x0 x1 y x3 (W.setCell ⟨h + 1 + 1, 2, none⟩ y) := by
  constructor <;> first | (rw [World.frozen?_setCell]; first | exact f.q0 | exact f.q1 | exact f.q2 | exact f.q3 | exact f.z0 | exact f.z1 | exact f.z2 | exact f.z3) | exact World.cell?_setCell_same _ _ _ f.y2 | (rw [World.cell?_setCell_other _ _ _ _ (by simp)]; first | exact f.p0 | exact f.p1 | exact f.p2 | exact f.p3 | exact f.y0 | exact f.y1 | exact f.y3) | (have := f.sz; simpa [World.setCell] using this)
theorem Fr.setRd {h b : Nat} {x0 x1 x2 x3 : Value} {W : World} (f : Fr h x0 x1 x2 x3 W) (hb : b < h) (j : Nat) (y : Value) : Fr h x0 x1 x2 x3 (W.setCell ⟨b, j, none⟩ y) := f.keep (grownBy_setCell W b j y) hb
theorem Good.alloc {b : Nat} {T r : Text} {d : Int} {w : World} (h : Good b T r d w) (o : Obj) : Good b T r d (w.alloc o) := by
  obtain ⟨a, ha, hd, hs⟩ := h
  exact ⟨a, ha, hd, hs.alloc _⟩
theorem Bad.alloc {b : Nat} {T : Text} {w : World} (h : Bad b T w) (o : Obj) : Bad b T (w.alloc o) := by
  obtain ⟨a, d, ha, hs⟩ := h
  exact ⟨a, d, ha, hs.alloc _⟩
theorem SR.setFar {b : Nat} {T : Text} {a : Int} {bad : Bool} {d : Int} {w : World} (h : SR b T a bad d w) {p : Addr} (hp : b ≠ p.block) (u : Value) : SR b T a bad d (w.setCell p u) := by
  have e : (w.setCell p u).heap[b]? = w.heap[b]? := Below.heap_setCell _ _ _ _ hp
  have c : ∀ j, (w.setCell p u).cell? ⟨b, j, none⟩ = w.cell? ⟨b, j, none⟩ := fun j => World.cell?_of_block (a := ⟨b, j, none⟩) e
  have f : ∀ j, (w.setCell p u).frozen? ⟨b, j, none⟩ = w.frozen? ⟨b, j, none⟩ := fun j => World.frozen?_of_block (a := ⟨b, j, none⟩) e
  exact ⟨(c _).trans h.c0, (c _).trans h.c1, (c _).trans h.c2, (c _).trans h.c3, (c _).trans h.c4, (c _).trans h.c5, (f _).trans h.f1, (f _).trans h.f2, (f _).trans h.f3⟩
theorem Good.setFar {b : Nat} {T r : Text} {d : Int} {w : World} (h : Good b T r d w) {p : Addr} (hp : b ≠ p.block) (u : Value) : Good b T r d (w.setCell p u) := by
  obtain ⟨a, ha, hd, hs⟩ := h
  exact ⟨a, ha, hd, hs.setFar hp u⟩
theorem Bad.setFar {b : Nat} {T : Text} {w : World} (h : Bad b T w) {p : Addr} (hp : b ≠ p.block) (u : Value) : Bad b T (w.setCell p u) := by
  obtain ⟨a, d, ha, hs⟩ := h
  exact ⟨a, d, ha, hs.setFar hp u⟩
theorem grown_setNew {w W : World} {b : Nat} (h : w.grownBy W (some b)) {p : Addr} (hp : w.heap.size ≤ p.block) (u : Value) : w.grownBy (W.setCell p u) (some b) :=
  ⟨h.os, h.tape, h.output, by simpa [World.setCell] using h.size, fun k hk hn => (Below.heap_setCell _ _ _ _ (by omega)).trans (h.block k hk hn)⟩
theorem W0_grown (w : World) (c : Int) (b : Nat) : w.grownBy (W0 w c) (some b) := grownBy_alloc (grownBy_alloc (grownBy_alloc (World.grownBy.refl _ _) _) _) _
theorem W0_size (w : World) (c : Int) : (W0 w c).heap.size = w.heap.size + 1 + 1 + 1 := by simp [W0]
/-- A term without kids. -/
theorem rep_leaf {w W : World} (t : Tm) (ht : t.kids = []) (hs : w.heap.size + 1 < W.heap.size) : Rep (New w W) W t (tmHead t (w.heap.size + 1) 0) :=
  .mk t _ _ (fun _ => undef) ⟨by omega, hs⟩ (fun k hk => by rw [ht] at hk; simp at hk) (fun i s hi => by rw [ht] at hi; simp at hi) (by rw [ht]; exact Nat.le_refl _)
/-- A term whose kids have been read. -/
theorem rep_kids {w wk W wf : World} {n g cap : Nat} {ts : List Tm} {xs : List Value} (hown : W.ownsRow wk.heap.size 78 4 (.slice (some ⟨g, 0, none⟩) n cap) n xs) (hlen : ts.length = n) (hn : 0 < n)
    (hrep : ∀ i t, ts[i]? = some t → Rep (fun g' => New wk W g' ∧ some g' ≠ Value.ownBlock (.slice (some ⟨g, 0, none⟩) n cap)) W t (four (fun j => (xs[j]?).getD undef) i))
    (hw : w.heap.size ≤ wk.heap.size) (hs : W.heap.size ≤ wf.heap.size) (hf : ∀ g', wk.heap.size ≤ g' → g' < W.heap.size → wf.heap[g']? = W.heap[g']?) (t : Tm) (ht : t.kids = ts) : Rep (New w wf) wf t (tmHead t g cap) := by
  obtain ⟨g0, e0, h1, h2⟩ := own_ne_nil hown (by simp)
  obtain rfl : g = g0 := by simpa [Value.ownBlock] using e0
  refine .mk t g cap (fun j => (xs[j]?).getD undef) ⟨by omega, by omega⟩ (fun k hk => ?_) (fun i s hi => ?_) (by rw [ht, hlen]; exact own_cap hown)
  · rw [ht, hlen] at hk
    rw [World.cell?_of_block (a := ⟨g, k, none⟩) (hf g h1 h2), hown.cellAt k (by omega)]
    have hl : k < xs.length := by rw [hown.1]; omega
    simp [List.getElem?_eq_getElem hl]
  · rw [ht] at hi
    exact (hrep i s hi).keep (fun g' hg' => hf g' hg'.1.1 hg'.1.2) (fun g' hg' => ⟨by have := hg'.1.1; omega, by have := hg'.1.2; omega⟩)
theorem kids_shape {m b : Nat} {T : Text} {s : Option Text} {w W : World} {k : Nat} {v : Value} (h : KidsAt m b T s w k v W) : ∃ g cap, v = .slice (some ⟨g, 0, none⟩) k cap := by
  obtain ⟨xs, hown, hv, _⟩ := h
  obtain ⟨_, ⟨h1, _⟩ | ⟨g, cap, cur, h1, _⟩⟩ := hown
  · exact absurd h1 hv
  · exact ⟨g, cap, h1⟩

theorem SR.same {b : Nat} {T : Text} {a : Int} {bad : Bool} {d : Int} {w w' : World} (h : SR b T a bad d w) (e : w'.heap[b]? = w.heap[b]?) : SR b T a bad d w' := by
  have c : ∀ j, w'.cell? ⟨b, j, none⟩ = w.cell? ⟨b, j, none⟩ := fun j => World.cell?_of_block (a := ⟨b, j, none⟩) e
  have f : ∀ j, w'.frozen? ⟨b, j, none⟩ = w.frozen? ⟨b, j, none⟩ := fun j => World.frozen?_of_block (a := ⟨b, j, none⟩) e
  exact ⟨(c _).trans h.c0, (c _).trans h.c1, (c _).trans h.c2, (c _).trans h.c3, (c _).trans h.c4, (c _).trans h.c5, (f _).trans h.f1, (f _).trans h.f2, (f _).trans h.f3⟩
/-- The world behind the function's last stores. -/
def Wf (h : Nat) (W : World) (x0 x1 x2 x3 : Value) : World := (((W.setCell ⟨h, 0, none⟩ x0).setCell ⟨h, 1, none⟩ x1).setCell ⟨h, 2, none⟩ x2).setCell ⟨h, 3, none⟩ x3
theorem Wf_heap (h : Nat) (W : World) (x0 x1 x2 x3 : Value) (k : Nat) (hk : k ≠ h) : (Wf h W x0 x1 x2 x3).heap[k]? = W.heap[k]? := by
  unfold Wf
  rw [Below.heap_setCell _ _ _ _ hk, Below.heap_setCell _ _ _ _ hk, Below.heap_setCell _ _ _ _ hk, Below.heap_setCell _ _ _ _ hk]
theorem Wf_size (h : Nat) (W : World) (x0 x1 x2 x3 : Value) : (Wf h W x0 x1 x2 x3).heap.size = W.heap.size := by simp [Wf, World.setCell]
theorem Wf_grown {w W : World} {b : Nat} (hg : w.grownBy W (some b)) (x0 x1 x2 x3 : Value) : w.grownBy (Wf w.heap.size W x0 x1 x2 x3) (some b) :=
  grown_setNew (grown_setNew (grown_setNew (grown_setNew hg (Nat.le_refl _) _) (Nat.le_refl _) _) (Nat.le_refl _) _) (Nat.le_refl _) _
/-- What a term comes to when its kids have been read last. -/
theorem kids_fin {m b n g cap : Nat} {T : Text} {so : Option Text} {w wk W wf : World} (hK : KidsAt m b T so wk n (.slice (some ⟨g, 0, none⟩) n cap) W) (hn : 0 < n) (hwk : w.heap.size ≤ wk.heap.size) (hs : W.heap.size ≤ wf.heap.size) (hgr : w.grownBy wf (some b))
    (hf : ∀ g', wk.heap.size ≤ g' → g' < W.heap.size → wf.heap[g']? = W.heap[g']?) (hb : wf.heap[b]? = W.heap[b]?) (mk : List Tm → Tm) (v : Value)
    (hv : ∀ ts r, kidsN m n so = some (ts, r) → ts.length = n → v = tmHead (mk ts) g cap ∧ (mk ts).kids = ts) (hj : Junk v) (o : Option (Tm × Text)) (ho : o = (kidsN m n so).map fun x => (mk x.1, x.2)) : TermPostS b T (24 - (m : Int)) w o (.returned v) wf := by
  obtain ⟨xs, hown, _, ⟨ts, r, hk, ⟨a, ha, hd, hsr⟩, hlen, hrep⟩ | ⟨hk, a, d, ha, hsr⟩⟩ := hK
  · rw [ho, hk]
    refine ⟨v, rfl, hgr, ⟨a, ha, hd, hsr.same hb⟩, ?_⟩
    obtain ⟨e1, e2⟩ := hv ts r hk hlen
    rw [e1]
    exact rep_kids hown hlen hn hrep hwk hs hf _ e2
  · rw [ho, hk]
    exact ⟨v, rfl, hgr, ⟨a, d, ha, hsr.same hb⟩, hj⟩
/-- What the names have left. -/
theorem names_link {b : Nat} {T s : Text} {deep : Int} {k : Nat} {out : Text} {w : World} (h : NamesAt b T s deep k out w) : namesN k s = none ∨ ∃ r, namesN k s = some (out, r) := by
  obtain ⟨_, a, bad, dd, _, _, ⟨_, _, h⟩ | ⟨_, h⟩⟩ := h
  · exact .inr ⟨_, h⟩
  · exact .inl h
theorem names_start {b : Nat} {T s : Text} {deep : Int} {k : Nat} {out : Text} {w : World} (h : NamesAt b T s deep k out w) : Start b T deep w ((namesN k s).map (·.2)) := by
  obtain ⟨_, a, bad, dd, ha, hs, ⟨rfl, rfl, h⟩ | ⟨rfl, h⟩⟩ := h
  · rw [h]; exact ⟨a, ha, rfl, hs⟩
  · rw [h]; exact ⟨a, dd, ha, hs⟩
theorem Start.setFar {b : Nat} {T : Text} {d : Int} {w : World} {so : Option Text} (h : Start b T d w so) {p : Addr} (hp : b ≠ p.block) (u : Value) : Start b T d (w.setCell p u) so := by
  match so, h with
  | some s, h => exact Good.setFar h hp u
  | none, h => exact Bad.setFar h hp u
theorem Fr.drew {h : Nat} {x0 x1 x2 x3 : Value} {W : World} (f : Fr h x0 x1 x2 x3 W) : Fr h x0 x1 x2 x3 W.drew := ⟨f.p0, f.p1, f.p2, f.p3, f.q0, f.q1, f.q2, f.q3, f.y0, f.y1, f.y2, f.y3, f.z0, f.z1, f.z2, f.z3, f.sz⟩
theorem SR.drew {b : Nat} {T : Text} {a : Int} {bad : Bool} {d : Int} {w : World} (h : SR b T a bad d w) : SR b T a bad d w.drew := ⟨h.c0, h.c1, h.c2, h.c3, h.c4, h.c5, h.f1, h.f2, h.f3⟩
theorem grown_drew {w w' : World} {row : Option Nat} (h : w.grownBy w' row) : w.grownBy w'.drew row := ⟨h.os, h.tape, h.output, h.size, h.block⟩
theorem pFix_names (p : Text → Option (Tm × Text)) (r : Text) : pFix p r = (namesN 2 r).bind fun x => match x.1 with | [f, c] => if f = c then none else (p x.2).bind fun b => some (Tm.fix f c b.1, b.2) | _ => none := by
  rcases h1 : name1 r with _ | ⟨f, r1⟩
  · simp [pFix, namesN, h1]
  · rcases h2 : name1 r1 with _ | ⟨c, r2⟩
    · simp [pFix, namesN, h1, h2]
    · simp [pFix, namesN, h1, h2]
/-- A term that binds one name. -/
def mkFn (n : Nat) (f : UInt8 → List Tm → Tm) (out : Text) (ts : List Tm) : Tm := match out with | [c] => f c ts | _ => .num n
theorem out1 {out : Text} (h : out.length = 1) : ∃ c, out = [c] := by match out, h with | [c], _ => exact ⟨c, rfl⟩
theorem out2 {out : Text} (h : out.length = 2) : ∃ c d, out = [c, d] := by match out, h with | [c, d], _ => exact ⟨c, d, rfl⟩
/-- A list of so many. -/
def mk1 (f : Tm → Tm) : List Tm → Tm | [a] => f a | _ => .num 0
def mk2 (f : Tm → Tm → Tm) : List Tm → Tm | [a, b] => f a b | _ => .num 0
def mk3 (f : Tm → Tm → Tm → Tm) : List Tm → Tm | [a, b, c] => f a b c | _ => .num 0
theorem of1 {l : List Tm} (h : l.length = 1) : ∃ a, l = [a] := by match l, h with | [a], _ => exact ⟨a, rfl⟩
theorem of2 {l : List Tm} (h : l.length = 2) : ∃ a b, l = [a, b] := by match l, h with | [a, b], _ => exact ⟨a, b, rfl⟩
theorem of3 {l : List Tm} (h : l.length = 3) : ∃ a b c, l = [a, b, c] := by match l, h with | [a, b, c], _ => exact ⟨a, b, c, rfl⟩
theorem kidsN1 (m : Nat) (s : Text) (f : Tm → Tm) : ((kidsN m 1 (some s)).map fun x => (mk1 f x.1, x.2)) = (parse m s).bind fun a => some (f a.1, a.2) := by
  simp only [kidsN, Option.map_some, Option.bind_some]
  rcases parse m s with _ | ⟨a, r⟩ <;> simp [mk1]
theorem kidsN2 (m : Nat) (s : Text) (f : Tm → Tm → Tm) : ((kidsN m 2 (some s)).map fun x => (mk2 f x.1, x.2)) = (parse m s).bind fun a => (parse m a.2).bind fun b => some (f a.1 b.1, b.2) := by
  simp only [kidsN, Option.map_some, Option.bind_some]
  rcases parse m s with _ | ⟨a, r⟩
  · simp
  · simp only [Option.bind_some, List.nil_append]
    rcases parse m r with _ | ⟨b, r2⟩ <;> simp [mk2]
theorem kidsN3 (m : Nat) (s : Text) (f : Tm → Tm → Tm → Tm) : ((kidsN m 3 (some s)).map fun x => (mk3 f x.1, x.2)) = (parse m s).bind fun a => (parse m a.2).bind fun b => (parse m b.2).bind fun c => some (f a.1 b.1 c.1, c.2) := by
  simp only [kidsN, Option.map_some, Option.bind_some]
  rcases parse m s with _ | ⟨a, r⟩
  · simp
  · simp only [Option.bind_some, List.nil_append]
    rcases parse m r with _ | ⟨b, r2⟩
    · simp
    · simp only [Option.bind_some]
      rcases parse m r2 with _ | ⟨c, r3⟩ <;> simp [mk3]
theorem kidsN_none (m n : Nat) : kidsN m n none = none := by
  induction n with
  | zero => rfl
  | succ n ih => simp [kidsN, ih]

set_option maxRecDepth 100000 in
set_option maxHeartbeats 2000000 in
theorem within_dig (m : Nat) (b : Nat) (T r : Text) (c : UInt8) (w : World) (h : Good b T r (24 - (m : Int)) w) (hD : isDig c = true) :
    Calls Tryz.prog 99 #[.pointer (some ⟨b, 0, none⟩), .int .u8 (c.toNat : Int)] w (TermPostS b T (24 - (m : Int)) w (some (Tm.num (c.toNat - 48), r))) := by
  have hb := byte_lt c
  have hb0 : 0 ≤ (c.toNat : Int) := by omega
  obtain ⟨b1, b2⟩ := dig_bd hD
  have hd : (decide (48 ≤ (c.toNat : Int)) && decide ((c.toNat : Int) ≤ 57)) = true := by simp [b1, b2]
  go_enter Tryz.func99, Tryz.ntmps99
  go_wp2_with fail
  refine (l1In_c _ _ _ _).mono ?_
  rintro e w1 ⟨rfl, rfl⟩
  rw [hd]
  go_wp2_with fail
  have e : ((c.toNat : Int) - 48) = ((c.toNat - 48 : Nat) : Int) := by omega
  rw [e]
  refine bodyPost_ret (v := tmHead (Tm.num (c.toNat - 48)) (w.heap.size + 1) 0) (by simp [results, Tryz.results99, go_sem, tmHead, kindOf, numOf, namesOf, Tm.kids]) rfl ⟨_, rfl, grownBy_alloc (grownBy_alloc (grownBy_alloc (World.grownBy.refl _ _) _) _) _, ((h.alloc _).alloc _).alloc _, rep_leaf _ rfl (by simp)⟩
end Go.Proofs.YtjfhncfbejephaaGreatDoor

/- The model's reader of a text: what stands behind the first byte of a term: where kids alone are read. -/
namespace Go.Proofs.YtjfhncfbejephaaGreatDoor
open Go.RowKit
open Ff
set_option linter.unusedVariables false

set_option maxRecDepth 100000 in
set_option maxHeartbeats 4000000 in
theorem within_43 (m : Nat) (ih : TermS m) (ib : TermBad) (b : Nat) (T r : Text) (w : World) (h : Good b T r (24 - (m : Int)) w) (hl : T.length ≤ 4000) :
    Calls Tryz.prog 99 #[.pointer (some ⟨b, 0, none⟩), .int .u8 43] w (TermPostS b T (24 - (m : Int)) w (pOp (parse m) 43 r)) := by
  have hbw : b < w.heap.size := Start.lt (s := some r) h
  have GG : Good b T r (24 - (m : Int)) (W0 w 43) := ((h.alloc _).alloc _).alloc _
  have G0 : Start b T (24 - (m : Int)) (W0 w 43) (some r) := GG
  have k4 : (W0 w 43).cell? ⟨b, 4, none⟩ = some (.bool false) := by obtain ⟨_, _, _, hs⟩ := GG; exact hs.c4
  have k5 : (W0 w 43).cell? ⟨b, 5, none⟩ = some (.bool false) := by obtain ⟨_, _, _, hs⟩ := GG; exact hs.c5
  unfold W0 at k4 k5
  go_enter Tryz.func99, Tryz.ntmps99
  go_wp2_with (first | (go_at_call 101; refine (l1In_c _ _ _ _).mono ?_; rintro e w' ⟨rfl, rfl⟩) | (go_at_call 102; refine (l1Letter_i _ (by omega) (by omega) _).mono ?_; rintro e w' ⟨rfl, rfl⟩))
  refine (skids_c m 2 (by omega) ih ib b T (some r) _ G0 hl).mono ?_
  rintro e w1 ⟨v, rfl, hK, hg1⟩
  obtain ⟨g, cap, rfl⟩ := kids_shape hK
  obtain ⟨p0, p1, p2, p3, q0, q1, q2, q3, y0, y1, y2, y3, z0, z1, z2, z3, sz⟩ := (W0_fr w 43).keep hg1 hbw
  clear k4 k5
  go_wp2_with fail
  have E : pOp (parse m) 43 r = (kidsN m 2 (some r)).map fun x => (mk2 (Tm.op 43) x.1, x.2) := by rw [kidsN2]; rfl
  refine bodyPost_ret (v := .agg #[.int .u8 43, .int .i64 0, .string ⟨#[]⟩, .slice (some ⟨g, 0, none⟩) 2 cap]) (by simp [results, Tryz.results99, go_sem, p0, p1, p2, p3]) rfl ?_
  exact kids_fin hK (by omega) (by rw [W0_size]; omega) (by rw [Wf_size]; simp [World.setCell]) (Wf_grown (grown_setNew (grownBy_trans (W0_grown w 43 b) hg1) (by simp; omega) _) _ _ _ _)
    (fun g' h1 h2 => by rw [W0_size] at h1; exact (Wf_heap _ _ _ _ _ _ _ (by omega)).trans (Below.heap_setCell _ _ _ _ (by simp; omega))) ((Wf_heap _ _ _ _ _ _ _ (by omega)).trans (Below.heap_setCell _ _ _ _ (by simp; omega))) _ _ (fun ts r h h2 => by obtain ⟨x, y, rfl⟩ := of2 h2; exact ⟨rfl, rfl⟩) ⟨_, _, _, _, _, _, rfl⟩ _ E

set_option maxRecDepth 100000 in
set_option maxHeartbeats 4000000 in
theorem within_45 (m : Nat) (ih : TermS m) (ib : TermBad) (b : Nat) (T r : Text) (w : World) (h : Good b T r (24 - (m : Int)) w) (hl : T.length ≤ 4000) :
    Calls Tryz.prog 99 #[.pointer (some ⟨b, 0, none⟩), .int .u8 45] w (TermPostS b T (24 - (m : Int)) w (pOp (parse m) 45 r)) := by
  have hbw : b < w.heap.size := Start.lt (s := some r) h
  have GG : Good b T r (24 - (m : Int)) (W0 w 45) := ((h.alloc _).alloc _).alloc _
  have G0 : Start b T (24 - (m : Int)) (W0 w 45) (some r) := GG
  have k4 : (W0 w 45).cell? ⟨b, 4, none⟩ = some (.bool false) := by obtain ⟨_, _, _, hs⟩ := GG; exact hs.c4
  have k5 : (W0 w 45).cell? ⟨b, 5, none⟩ = some (.bool false) := by obtain ⟨_, _, _, hs⟩ := GG; exact hs.c5
  unfold W0 at k4 k5
  go_enter Tryz.func99, Tryz.ntmps99
  go_wp2_with (first | (go_at_call 101; refine (l1In_c _ _ _ _).mono ?_; rintro e w' ⟨rfl, rfl⟩) | (go_at_call 102; refine (l1Letter_i _ (by omega) (by omega) _).mono ?_; rintro e w' ⟨rfl, rfl⟩))
  refine (skids_c m 2 (by omega) ih ib b T (some r) _ G0 hl).mono ?_
  rintro e w1 ⟨v, rfl, hK, hg1⟩
  obtain ⟨g, cap, rfl⟩ := kids_shape hK
  obtain ⟨p0, p1, p2, p3, q0, q1, q2, q3, y0, y1, y2, y3, z0, z1, z2, z3, sz⟩ := (W0_fr w 45).keep hg1 hbw
  clear k4 k5
  go_wp2_with fail
  have E : pOp (parse m) 45 r = (kidsN m 2 (some r)).map fun x => (mk2 (Tm.op 45) x.1, x.2) := by rw [kidsN2]; rfl
  refine bodyPost_ret (v := .agg #[.int .u8 45, .int .i64 0, .string ⟨#[]⟩, .slice (some ⟨g, 0, none⟩) 2 cap]) (by simp [results, Tryz.results99, go_sem, p0, p1, p2, p3]) rfl ?_
  exact kids_fin hK (by omega) (by rw [W0_size]; omega) (by rw [Wf_size]; simp [World.setCell]) (Wf_grown (grown_setNew (grownBy_trans (W0_grown w 45 b) hg1) (by simp; omega) _) _ _ _ _)
    (fun g' h1 h2 => by rw [W0_size] at h1; exact (Wf_heap _ _ _ _ _ _ _ (by omega)).trans (Below.heap_setCell _ _ _ _ (by simp; omega))) ((Wf_heap _ _ _ _ _ _ _ (by omega)).trans (Below.heap_setCell _ _ _ _ (by simp; omega))) _ _ (fun ts r h h2 => by obtain ⟨x, y, rfl⟩ := of2 h2; exact ⟨rfl, rfl⟩) ⟨_, _, _, _, _, _, rfl⟩ _ E

set_option maxRecDepth 100000 in
set_option maxHeartbeats 4000000 in
theorem within_42 (m : Nat) (ih : TermS m) (ib : TermBad) (b : Nat) (T r : Text) (w : World) (h : Good b T r (24 - (m : Int)) w) (hl : T.length ≤ 4000) :
    Calls Tryz.prog 99 #[.pointer (some ⟨b, 0, none⟩), .int .u8 42] w (TermPostS b T (24 - (m : Int)) w (pOp (parse m) 42 r)) := by
  have hbw : b < w.heap.size := Start.lt (s := some r) h
  have GG : Good b T r (24 - (m : Int)) (W0 w 42) := ((h.alloc _).alloc _).alloc _
  have G0 : Start b T (24 - (m : Int)) (W0 w 42) (some r) := GG
  have k4 : (W0 w 42).cell? ⟨b, 4, none⟩ = some (.bool false) := by obtain ⟨_, _, _, hs⟩ := GG; exact hs.c4
  have k5 : (W0 w 42).cell? ⟨b, 5, none⟩ = some (.bool false) := by obtain ⟨_, _, _, hs⟩ := GG; exact hs.c5
  unfold W0 at k4 k5
  go_enter Tryz.func99, Tryz.ntmps99
  go_wp2_with (first | (go_at_call 101; refine (l1In_c _ _ _ _).mono ?_; rintro e w' ⟨rfl, rfl⟩) | (go_at_call 102; refine (l1Letter_i _ (by omega) (by omega) _).mono ?_; rintro e w' ⟨rfl, rfl⟩))
  refine (skids_c m 2 (by omega) ih ib b T (some r) _ G0 hl).mono ?_
  rintro e w1 ⟨v, rfl, hK, hg1⟩
  obtain ⟨g, cap, rfl⟩ := kids_shape hK
  obtain ⟨p0, p1, p2, p3, q0, q1, q2, q3, y0, y1, y2, y3, z0, z1, z2, z3, sz⟩ := (W0_fr w 42).keep hg1 hbw
  clear k4 k5
  go_wp2_with fail
  have E : pOp (parse m) 42 r = (kidsN m 2 (some r)).map fun x => (mk2 (Tm.op 42) x.1, x.2) := by rw [kidsN2]; rfl
  refine bodyPost_ret (v := .agg #[.int .u8 42, .int .i64 0, .string ⟨#[]⟩, .slice (some ⟨g, 0, none⟩) 2 cap]) (by simp [results, Tryz.results99, go_sem, p0, p1, p2, p3]) rfl ?_
  exact kids_fin hK (by omega) (by rw [W0_size]; omega) (by rw [Wf_size]; simp [World.setCell]) (Wf_grown (grown_setNew (grownBy_trans (W0_grown w 42 b) hg1) (by simp; omega) _) _ _ _ _)
    (fun g' h1 h2 => by rw [W0_size] at h1; exact (Wf_heap _ _ _ _ _ _ _ (by omega)).trans (Below.heap_setCell _ _ _ _ (by simp; omega))) ((Wf_heap _ _ _ _ _ _ _ (by omega)).trans (Below.heap_setCell _ _ _ _ (by simp; omega))) _ _ (fun ts r h h2 => by obtain ⟨x, y, rfl⟩ := of2 h2; exact ⟨rfl, rfl⟩) ⟨_, _, _, _, _, _, rfl⟩ _ E

set_option maxRecDepth 100000 in
set_option maxHeartbeats 4000000 in
theorem within_63 (m : Nat) (ih : TermS m) (ib : TermBad) (b : Nat) (T r : Text) (w : World) (h : Good b T r (24 - (m : Int)) w) (hl : T.length ≤ 4000) :
    Calls Tryz.prog 99 #[.pointer (some ⟨b, 0, none⟩), .int .u8 63] w (TermPostS b T (24 - (m : Int)) w (pSel (parse m) r)) := by
  have hbw : b < w.heap.size := Start.lt (s := some r) h
  have GG : Good b T r (24 - (m : Int)) (W0 w 63) := ((h.alloc _).alloc _).alloc _
  have G0 : Start b T (24 - (m : Int)) (W0 w 63) (some r) := GG
  have k4 : (W0 w 63).cell? ⟨b, 4, none⟩ = some (.bool false) := by obtain ⟨_, _, _, hs⟩ := GG; exact hs.c4
  have k5 : (W0 w 63).cell? ⟨b, 5, none⟩ = some (.bool false) := by obtain ⟨_, _, _, hs⟩ := GG; exact hs.c5
  unfold W0 at k4 k5
  go_enter Tryz.func99, Tryz.ntmps99
  go_wp2_with (first | (go_at_call 101; refine (l1In_c _ _ _ _).mono ?_; rintro e w' ⟨rfl, rfl⟩) | (go_at_call 102; refine (l1Letter_i _ (by omega) (by omega) _).mono ?_; rintro e w' ⟨rfl, rfl⟩))
  refine (skids_c m 3 (by omega) ih ib b T (some r) _ G0 hl).mono ?_
  rintro e w1 ⟨v, rfl, hK, hg1⟩
  obtain ⟨g, cap, rfl⟩ := kids_shape hK
  obtain ⟨p0, p1, p2, p3, q0, q1, q2, q3, y0, y1, y2, y3, z0, z1, z2, z3, sz⟩ := (W0_fr w 63).keep hg1 hbw
  clear k4 k5
  go_wp2_with fail
  have E : pSel (parse m) r = (kidsN m 3 (some r)).map fun x => (mk3 (Tm.sel) x.1, x.2) := by rw [kidsN3]; rfl
  refine bodyPost_ret (v := .agg #[.int .u8 63, .int .i64 0, .string ⟨#[]⟩, .slice (some ⟨g, 0, none⟩) 3 cap]) (by simp [results, Tryz.results99, go_sem, p0, p1, p2, p3]) rfl ?_
  exact kids_fin hK (by omega) (by rw [W0_size]; omega) (by rw [Wf_size]; simp [World.setCell]) (Wf_grown (grown_setNew (grownBy_trans (W0_grown w 63 b) hg1) (by simp; omega) _) _ _ _ _)
    (fun g' h1 h2 => by rw [W0_size] at h1; exact (Wf_heap _ _ _ _ _ _ _ (by omega)).trans (Below.heap_setCell _ _ _ _ (by simp; omega))) ((Wf_heap _ _ _ _ _ _ _ (by omega)).trans (Below.heap_setCell _ _ _ _ (by simp; omega))) _ _ (fun ts r h h2 => by obtain ⟨x, y, z, rfl⟩ := of3 h2; exact ⟨rfl, rfl⟩) ⟨_, _, _, _, _, _, rfl⟩ _ E

end Go.Proofs.YtjfhncfbejephaaGreatDoor

/- The model's reader of a text: what stands behind the first byte of a term: where a name and kids are read. -/
namespace Go.Proofs.YtjfhncfbejephaaGreatDoor
open Go.RowKit
open Ff
set_option linter.unusedVariables false

set_option maxRecDepth 100000 in
set_option maxHeartbeats 4000000 in
theorem within_92 (m : Nat) (ih : TermS m) (ib : TermBad) (b : Nat) (T r : Text) (w : World) (h : Good b T r (24 - (m : Int)) w) (hl : T.length ≤ 4000) :
    Calls Tryz.prog 99 #[.pointer (some ⟨b, 0, none⟩), .int .u8 92] w (TermPostS b T (24 - (m : Int)) w (pFn (parse m) r)) := by
  have hbw : b < w.heap.size := Start.lt (s := some r) h
  have GG : Good b T r (24 - (m : Int)) (W0 w 92) := ((h.alloc _).alloc _).alloc _
  have G0 : Start b T (24 - (m : Int)) (W0 w 92) (some r) := GG
  have k4 : (W0 w 92).cell? ⟨b, 4, none⟩ = some (.bool false) := by obtain ⟨_, _, _, hs⟩ := GG; exact hs.c4
  have k5 : (W0 w 92).cell? ⟨b, 5, none⟩ = some (.bool false) := by obtain ⟨_, _, _, hs⟩ := GG; exact hs.c5
  unfold W0 at k4 k5
  go_enter Tryz.func99, Tryz.ntmps99
  go_wp2_with (first | (go_at_call 101; refine (l1In_c _ _ _ _).mono ?_; rintro e w' ⟨rfl, rfl⟩) | (go_at_call 102; refine (l1Letter_i _ (by omega) (by omega) _).mono ?_; rintro e w' ⟨rfl, rfl⟩))
  refine (snames_c 1 (by omega) b T r _ _ GG hl).mono ?_
  rintro e w1 ⟨out, rfl, hN, hg1⟩
  have F1 := (W0_fr w 92).keep hg1 hbw
  have S1 := (names_start hN).setFar (p := ⟨w.heap.size + 1 + 1, 2, none⟩) (by simp; omega) (.string ⟨out.toArray⟩)
  have z1s : (w1.setCell ⟨w.heap.size + 1 + 1, 2, none⟩ (.string ⟨out.toArray⟩)).heap.size = w1.heap.size := by simp [World.setCell]
  have hsz1 := hg1.size
  rw [W0_size] at hsz1
  have HZ := Lib.hid z1s
  clear z1s k4 k5
  obtain ⟨p0, p1, p2, p3, q0, q1, q2, q3, y0, y1, y2, y3, z0, z1, z2, z3, sz⟩ := id F1
  go_wp2_with fail
  clear p0 p1 p2 p3 q0 q1 q2 q3 y0 y1 y2 y3 z0 z1 z2 z3 sz
  refine (skids_c m 1 (by omega) ih ib b T _ _ S1 hl).mono ?_
  rintro e w2 ⟨v, rfl, hK, hg2⟩
  obtain ⟨g, cap, rfl⟩ := kids_shape hK
  obtain ⟨p0, p1, p2, p3, q0, q1, q2, q3, y0, y1, y2, y3, z0, z1, z2, z3, sz⟩ := (F1.set2 (.string ⟨out.toArray⟩)).keep hg2 hbw
  go_wp2_with fail
  have hNL := names_link hN
  have E : pFn (parse m) r = (kidsN m 1 ((namesN 1 r).map (·.2))).map fun x => (mkFn 0 (fun c => mk1 (Tm.fn c)) out x.1, x.2) := by
    rcases hn : name1 r with _ | ⟨c, r1⟩
    · simp [pFn, namesN, hn, kidsN_none]
    · have ho : out = [c] := by
        rcases hNL with h9 | ⟨rest, h9⟩
        · simp [namesN, hn] at h9
        · simp [namesN, hn] at h9; exact h9.1.symm
      subst ho
      have e1 : (namesN 1 r).map (·.2) = some r1 := by simp [namesN, hn]
      rw [e1]
      show _ = (kidsN m 1 (some r1)).map fun x => (mk1 (Tm.fn c) x.1, x.2)
      rw [kidsN1]
      simp only [pFn, hn, Option.bind_some]
  refine bodyPost_ret (v := .agg #[.int .u8 92, .int .i64 0, .string ⟨out.toArray⟩, .slice (some ⟨g, 0, none⟩) 1 cap]) (by simp [results, Tryz.results99, go_sem, p0, p1, p2, p3]) rfl ?_
  exact kids_fin hK (by omega) (by rw [HZ.out]; omega) (by rw [Wf_size]; simp [World.setCell]) (Wf_grown (grown_setNew (grownBy_trans (grown_setNew (grownBy_trans (W0_grown w 92 b) hg1) (by simp; omega) _) hg2) (by simp; omega) _) _ _ _ _)
    (fun g' h1 h2 => by rw [HZ.out] at h1; exact (Wf_heap _ _ _ _ _ _ _ (by omega)).trans (Below.heap_setCell _ _ _ _ (by simp; omega))) ((Wf_heap _ _ _ _ _ _ _ (by omega)).trans (Below.heap_setCell _ _ _ _ (by simp; omega))) _ _ (fun ts r' h9 h2 => by
      obtain ⟨x, rfl⟩ := of1 h2
      obtain ⟨c, rfl⟩ := out1 hN.1
      exact ⟨rfl, rfl⟩) ⟨_, _, _, _, _, _, rfl⟩ _ E

set_option maxRecDepth 100000 in
set_option maxHeartbeats 4000000 in
theorem within_61 (m : Nat) (ih : TermS m) (ib : TermBad) (b : Nat) (T r : Text) (w : World) (h : Good b T r (24 - (m : Int)) w) (hl : T.length ≤ 4000) :
    Calls Tryz.prog 99 #[.pointer (some ⟨b, 0, none⟩), .int .u8 61] w (TermPostS b T (24 - (m : Int)) w (pBind (parse m) r)) := by
  have hbw : b < w.heap.size := Start.lt (s := some r) h
  have GG : Good b T r (24 - (m : Int)) (W0 w 61) := ((h.alloc _).alloc _).alloc _
  have G0 : Start b T (24 - (m : Int)) (W0 w 61) (some r) := GG
  have k4 : (W0 w 61).cell? ⟨b, 4, none⟩ = some (.bool false) := by obtain ⟨_, _, _, hs⟩ := GG; exact hs.c4
  have k5 : (W0 w 61).cell? ⟨b, 5, none⟩ = some (.bool false) := by obtain ⟨_, _, _, hs⟩ := GG; exact hs.c5
  unfold W0 at k4 k5
  go_enter Tryz.func99, Tryz.ntmps99
  go_wp2_with (first | (go_at_call 101; refine (l1In_c _ _ _ _).mono ?_; rintro e w' ⟨rfl, rfl⟩) | (go_at_call 102; refine (l1Letter_i _ (by omega) (by omega) _).mono ?_; rintro e w' ⟨rfl, rfl⟩))
  refine (snames_c 1 (by omega) b T r _ _ GG hl).mono ?_
  rintro e w1 ⟨out, rfl, hN, hg1⟩
  have F1 := (W0_fr w 61).keep hg1 hbw
  have S1 := (names_start hN).setFar (p := ⟨w.heap.size + 1 + 1, 2, none⟩) (by simp; omega) (.string ⟨out.toArray⟩)
  have z1s : (w1.setCell ⟨w.heap.size + 1 + 1, 2, none⟩ (.string ⟨out.toArray⟩)).heap.size = w1.heap.size := by simp [World.setCell]
  have hsz1 := hg1.size
  rw [W0_size] at hsz1
  have HZ := Lib.hid z1s
  clear z1s k4 k5
  obtain ⟨p0, p1, p2, p3, q0, q1, q2, q3, y0, y1, y2, y3, z0, z1, z2, z3, sz⟩ := id F1
  go_wp2_with fail
  clear p0 p1 p2 p3 q0 q1 q2 q3 y0 y1 y2 y3 z0 z1 z2 z3 sz
  refine (skids_c m 2 (by omega) ih ib b T _ _ S1 hl).mono ?_
  rintro e w2 ⟨v, rfl, hK, hg2⟩
  obtain ⟨g, cap, rfl⟩ := kids_shape hK
  obtain ⟨p0, p1, p2, p3, q0, q1, q2, q3, y0, y1, y2, y3, z0, z1, z2, z3, sz⟩ := (F1.set2 (.string ⟨out.toArray⟩)).keep hg2 hbw
  go_wp2_with fail
  have hNL := names_link hN
  have E : pBind (parse m) r = (kidsN m 2 ((namesN 1 r).map (·.2))).map fun x => (mkFn 0 (fun c => mk2 (Tm.bind c)) out x.1, x.2) := by
    rcases hn : name1 r with _ | ⟨c, r1⟩
    · simp [pBind, namesN, hn, kidsN_none]
    · have ho : out = [c] := by
        rcases hNL with h9 | ⟨rest, h9⟩
        · simp [namesN, hn] at h9
        · simp [namesN, hn] at h9; exact h9.1.symm
      subst ho
      have e1 : (namesN 1 r).map (·.2) = some r1 := by simp [namesN, hn]
      rw [e1]
      show _ = (kidsN m 2 (some r1)).map fun x => (mk2 (Tm.bind c) x.1, x.2)
      rw [kidsN2]
      simp only [pBind, hn, Option.bind_some]
  refine bodyPost_ret (v := .agg #[.int .u8 61, .int .i64 0, .string ⟨out.toArray⟩, .slice (some ⟨g, 0, none⟩) 2 cap]) (by simp [results, Tryz.results99, go_sem, p0, p1, p2, p3]) rfl ?_
  exact kids_fin hK (by omega) (by rw [HZ.out]; omega) (by rw [Wf_size]; simp [World.setCell]) (Wf_grown (grown_setNew (grownBy_trans (grown_setNew (grownBy_trans (W0_grown w 61 b) hg1) (by simp; omega) _) hg2) (by simp; omega) _) _ _ _ _)
    (fun g' h1 h2 => by rw [HZ.out] at h1; exact (Wf_heap _ _ _ _ _ _ _ (by omega)).trans (Below.heap_setCell _ _ _ _ (by simp; omega))) ((Wf_heap _ _ _ _ _ _ _ (by omega)).trans (Below.heap_setCell _ _ _ _ (by simp; omega))) _ _ (fun ts r' h9 h2 => by
      obtain ⟨x, y, rfl⟩ := of2 h2
      obtain ⟨c, rfl⟩ := out1 hN.1
      exact ⟨rfl, rfl⟩) ⟨_, _, _, _, _, _, rfl⟩ _ E

end Go.Proofs.YtjfhncfbejephaaGreatDoor

/- The model's reader of a text: what stands behind the first byte of a term: two names, and a call. -/
namespace Go.Proofs.YtjfhncfbejephaaGreatDoor
open Go.RowKit
open Ff
set_option linter.unusedVariables false

theorem ba0 (c d : UInt8) (h : 0 < (⟨#[c, d]⟩ : ByteArray).size) : (⟨#[c, d]⟩ : ByteArray)[0] = c := rfl
theorem ba1 (c d : UInt8) (h : 1 < (⟨#[c, d]⟩ : ByteArray).size) : (⟨#[c, d]⟩ : ByteArray)[1] = d := rfl
attribute [local go_sem] ba0 ba1
set_option maxRecDepth 100000 in
set_option maxHeartbeats 4000000 in
theorem within_64 (m : Nat) (ih : TermS m) (ib : TermBad) (b : Nat) (T r : Text) (w : World) (h : Good b T r (24 - (m : Int)) w) (hl : T.length ≤ 4000) :
    Calls Tryz.prog 99 #[.pointer (some ⟨b, 0, none⟩), .int .u8 64] w (TermPostS b T (24 - (m : Int)) w (pFix (parse m) r)) := by
  have hbw : b < w.heap.size := Start.lt (s := some r) h
  have GG : Good b T r (24 - (m : Int)) (W0 w 64) := ((h.alloc _).alloc _).alloc _
  have G0 : Start b T (24 - (m : Int)) (W0 w 64) (some r) := GG
  have k4 : (W0 w 64).cell? ⟨b, 4, none⟩ = some (.bool false) := by obtain ⟨_, _, _, hs⟩ := GG; exact hs.c4
  have k5 : (W0 w 64).cell? ⟨b, 5, none⟩ = some (.bool false) := by obtain ⟨_, _, _, hs⟩ := GG; exact hs.c5
  unfold W0 at k4 k5
  go_enter Tryz.func99, Tryz.ntmps99
  go_wp2_with (first | (go_at_call 101; refine (l1In_c _ _ _ _).mono ?_; rintro e w' ⟨rfl, rfl⟩) | (go_at_call 102; refine (l1Letter_i _ (by omega) (by omega) _).mono ?_; rintro e w' ⟨rfl, rfl⟩))
  refine (snames_c 2 (by omega) b T r _ _ GG hl).mono ?_
  rintro e w1 ⟨out, rfl, hN, hg1⟩
  obtain ⟨c, d, rfl⟩ := out2 hN.1
  have F1 := (W0_fr w 64).keep hg1 hbw
  have S1 := (names_start hN).setFar (p := ⟨w.heap.size + 1 + 1, 2, none⟩) (by simp; omega) (.string ⟨[c, d].toArray⟩)
  have F2 := F1.set2 (.string ⟨[c, d].toArray⟩)
  have hsz1 := hg1.size
  rw [W0_size] at hsz1
  have hNL := names_link hN
  clear k4 k5
  obtain ⟨p0, p1, p2, p3, q0, q1, q2, q3, y0, y1, y2, y3, z0, z1, z2, z3, sz⟩ := id F1
  go_wp2_with fail
  clear p0 p1 p2 p3 q0 q1 q2 q3 y0 y1 y2 y3 z0 z1 z2 z3 sz
  obtain ⟨p0, p1, p2, p3, q0, q1, q2, q3, y0, y1, y2, y3, z0, z1, z2, z3, sz⟩ := id F2
  rcases hs : namesN 2 r with _ | ⟨o2, r2⟩
  · rw [hs] at S1
    obtain ⟨a9, d9, ha9, hsr9⟩ := id S1
    obtain ⟨c0, c1, c2, c3, c4, c5, f1, f2, f3⟩ := id hsr9
    have HS := Lib.hid hs
    clear hs
    have S2 : Start b T (24 - (m : Int)) (((w1.setCell ⟨w.heap.size + 1 + 1, 2, none⟩ (.string ⟨[c, d].toArray⟩)).setCell ⟨b, 2, none⟩ (.bool true)).drew) (none) := ⟨a9, d9, ha9, (hsr9.setBad true).drew⟩
    go_region
    go_wp2_with fail
    clear p0 p1 p2 p3 q0 q1 q2 q3 y0 y1 y2 y3 z0 z1 z2 z3 sz c0 c1 c2 c3 c4 c5 f1 f2 f3
    have HZ := Lib.hid (show (((w1.setCell ⟨w.heap.size + 1 + 1, 2, none⟩ (.string ⟨[c, d].toArray⟩)).setCell ⟨b, 2, none⟩ (.bool true)).drew).heap.size = w1.heap.size by simp [World.setCell])
    refine (skids_c m 1 (by omega) ih ib b T _ _ S2 hl).mono ?_
    rintro e w2 ⟨v, rfl, hK, hg2⟩
    obtain ⟨g, cap, rfl⟩ := kids_shape hK
    obtain ⟨p0, p1, p2, p3, q0, q1, q2, q3, y0, y1, y2, y3, z0, z1, z2, z3, sz⟩ := ((F2.setRd hbw 2 (.bool true)).drew).keep hg2 hbw
    go_wp2_with fail
    have E : pFix (parse m) r = (kidsN m 1 (none)).map fun x => (mk1 (Tm.fix c d) x.1, x.2) := by
      rw [pFix_names, HS.out, kidsN_none]; rfl
    refine bodyPost_ret (v := .agg #[.int .u8 64, .int .i64 0, .string ⟨[c, d].toArray⟩, .slice (some ⟨g, 0, none⟩) 1 cap]) (by simp [results, Tryz.results99, go_sem, p0, p1, p2, p3]) rfl ?_
    exact kids_fin hK (by omega) (by rw [HZ.out]; omega) (by rw [Wf_size]; simp [World.setCell]) (Wf_grown (grown_setNew (grownBy_trans (grown_drew (grownBy_set (grown_setNew (grownBy_trans (W0_grown w 64 b) hg1) (by simp; omega) _) _ _)) hg2) (by simp; omega) _) _ _ _ _)
      (fun g' h1 h2 => by rw [HZ.out] at h1; exact (Wf_heap _ _ _ _ _ _ _ (by omega)).trans (Below.heap_setCell _ _ _ _ (by simp; omega))) ((Wf_heap _ _ _ _ _ _ _ (by omega)).trans (Below.heap_setCell _ _ _ _ (by simp; omega))) _ _ (fun ts r' h9 h2 => by
        obtain ⟨x, rfl⟩ := of1 h2
        exact ⟨rfl, rfl⟩) ⟨_, _, _, _, _, _, rfl⟩ _ E
  · rw [hs] at S1
    obtain ⟨a9, ha9, hd9, hsr9⟩ := id S1
    obtain ⟨c0, c1, c2, c3, c4, c5, f1, f2, f3⟩ := id hsr9
    have ho : o2 = [c, d] := by
      rcases hNL with h9 | ⟨rest, h9⟩
      · rw [hs] at h9; simp at h9
      · rw [hs] at h9; simp at h9; exact h9.1
    subst ho
    have HS := Lib.hid hs
    have HD := Lib.hid hd9
    clear hs hd9 hNL
    by_cases hcd : c = d
    · subst hcd
      have S2 : Start b T (24 - (m : Int)) (((w1.setCell ⟨w.heap.size + 1 + 1, 2, none⟩ (.string ⟨[c, c].toArray⟩)).setCell ⟨b, 2, none⟩ (.bool true)).drew) (none) := ⟨a9, _, ha9, (hsr9.setBad true).drew⟩
      go_region
      go_wp2_with fail
      clear p0 p1 p2 p3 q0 q1 q2 q3 y0 y1 y2 y3 z0 z1 z2 z3 sz c0 c1 c2 c3 c4 c5 f1 f2 f3
      have HZ := Lib.hid (show (((w1.setCell ⟨w.heap.size + 1 + 1, 2, none⟩ (.string ⟨[c, c].toArray⟩)).setCell ⟨b, 2, none⟩ (.bool true)).drew).heap.size = w1.heap.size by simp [World.setCell])
      refine (skids_c m 1 (by omega) ih ib b T _ _ S2 hl).mono ?_
      rintro e w2 ⟨v, rfl, hK, hg2⟩
      obtain ⟨g, cap, rfl⟩ := kids_shape hK
      obtain ⟨p0, p1, p2, p3, q0, q1, q2, q3, y0, y1, y2, y3, z0, z1, z2, z3, sz⟩ := ((F2.setRd hbw 2 (.bool true)).drew).keep hg2 hbw
      go_wp2_with fail
      have E : pFix (parse m) r = (kidsN m 1 (none)).map fun x => (mk1 (Tm.fix c c) x.1, x.2) := by
        rw [pFix_names, HS.out, kidsN_none]; simp
      refine bodyPost_ret (v := .agg #[.int .u8 64, .int .i64 0, .string ⟨[c, c].toArray⟩, .slice (some ⟨g, 0, none⟩) 1 cap]) (by simp [results, Tryz.results99, go_sem, p0, p1, p2, p3]) rfl ?_
      exact kids_fin hK (by omega) (by rw [HZ.out]; omega) (by rw [Wf_size]; simp [World.setCell]) (Wf_grown (grown_setNew (grownBy_trans (grown_drew (grownBy_set (grown_setNew (grownBy_trans (W0_grown w 64 b) hg1) (by simp; omega) _) _ _)) hg2) (by simp; omega) _) _ _ _ _)
        (fun g' h1 h2 => by rw [HZ.out] at h1; exact (Wf_heap _ _ _ _ _ _ _ (by omega)).trans (Below.heap_setCell _ _ _ _ (by simp; omega))) ((Wf_heap _ _ _ _ _ _ _ (by omega)).trans (Below.heap_setCell _ _ _ _ (by simp; omega))) _ _ (fun ts r' h9 h2 => by
          obtain ⟨x, rfl⟩ := of1 h2
          exact ⟨rfl, rfl⟩) ⟨_, _, _, _, _, _, rfl⟩ _ E
    · have hq : ((c.toNat : Int) == (d.toNat : Int)) = false := by
        rw [beq_eq_false_iff_ne]; intro h9; exact hcd (UInt8.toNat_inj.1 (by omega))
      have HCD := Lib.hid hcd
      clear hcd
      have S2 : Start b T (24 - (m : Int)) (((w1.setCell ⟨w.heap.size + 1 + 1, 2, none⟩ (.string ⟨[c, d].toArray⟩)).setCell ⟨b, 2, none⟩ (.bool false)).drew) (some r2) := ⟨a9, ha9, HD.out, (hsr9.setBad false).drew⟩
      go_region
      go_wp2_with fail
      clear p0 p1 p2 p3 q0 q1 q2 q3 y0 y1 y2 y3 z0 z1 z2 z3 sz c0 c1 c2 c3 c4 c5 f1 f2 f3
      have HZ := Lib.hid (show (((w1.setCell ⟨w.heap.size + 1 + 1, 2, none⟩ (.string ⟨[c, d].toArray⟩)).setCell ⟨b, 2, none⟩ (.bool false)).drew).heap.size = w1.heap.size by simp [World.setCell])
      refine (skids_c m 1 (by omega) ih ib b T _ _ S2 hl).mono ?_
      rintro e w2 ⟨v, rfl, hK, hg2⟩
      obtain ⟨g, cap, rfl⟩ := kids_shape hK
      obtain ⟨p0, p1, p2, p3, q0, q1, q2, q3, y0, y1, y2, y3, z0, z1, z2, z3, sz⟩ := ((F2.setRd hbw 2 (.bool false)).drew).keep hg2 hbw
      go_wp2_with fail
      have E : pFix (parse m) r = (kidsN m 1 (some r2)).map fun x => (mk1 (Tm.fix c d) x.1, x.2) := by
        rw [pFix_names, HS.out, kidsN1]; simp [HCD.out]
      refine bodyPost_ret (v := .agg #[.int .u8 64, .int .i64 0, .string ⟨[c, d].toArray⟩, .slice (some ⟨g, 0, none⟩) 1 cap]) (by simp [results, Tryz.results99, go_sem, p0, p1, p2, p3]) rfl ?_
      exact kids_fin hK (by omega) (by rw [HZ.out]; omega) (by rw [Wf_size]; simp [World.setCell]) (Wf_grown (grown_setNew (grownBy_trans (grown_drew (grownBy_set (grown_setNew (grownBy_trans (W0_grown w 64 b) hg1) (by simp; omega) _) _ _)) hg2) (by simp; omega) _) _ _ _ _)
        (fun g' h1 h2 => by rw [HZ.out] at h1; exact (Wf_heap _ _ _ _ _ _ _ (by omega)).trans (Below.heap_setCell _ _ _ _ (by simp; omega))) ((Wf_heap _ _ _ _ _ _ _ (by omega)).trans (Below.heap_setCell _ _ _ _ (by simp; omega))) _ _ (fun ts r' h9 h2 => by
          obtain ⟨x, rfl⟩ := of1 h2
          exact ⟨rfl, rfl⟩) ⟨_, _, _, _, _, _, rfl⟩ _ E
end Go.Proofs.YtjfhncfbejephaaGreatDoor
