import Derived.Test.YtjfhncfbejephaaGreatDoorMVb
import Derived.Test.YtjfhncfbejephaaGreatDoorSvS
import Derived.Test.YtjfhncfbejephaaGreatDoorSvM
/- The specification's eval: too many steps. Written by genS.py. -/
namespace Go.Proofs.YtjfhncfbejephaaGreatDoor
open Go.RowKit Go.Shelf
open Ff
set_option linter.unusedVariables false
variable {X : Nat → Prop}
attribute [local irreducible] Calls

theorem RunS.ends {rb : Nat} {cv av : Value} {w : World} {s : St} (h : RunS X rb cv av w s 0) (n : Int) : DeadS X rb ((w.setCell ⟨rb, 1, none⟩ (.int .i64 n)).setCell ⟨rb, 0, none⟩ (.int .i64 2)) 2 := by
  have h0 := h.at.1
  have h1 := h.at.2.1
  have h6 := h.at.2.2.2.2.2.2.1
  exact ⟨set_at 0 ((set_off _ _ _ _ _ (by decide)).trans h0), ⟨n, (set_off _ _ _ _ _ (by decide)).trans (set_at 1 h1)⟩, ⟨_, (set_off _ _ _ _ _ (by decide)).trans ((set_off _ _ _ _ _ (by decide)).trans h6)⟩, fun k => by rw [World.frozen?_setCell, World.frozen?_setCell]; exact h.fz k, by decide⟩
set_option maxRecDepth 100000 in
set_option maxHeartbeats 4000000 in
theorem sev_long (s : St) (rb : Nat) (en : Int) (k m : Int) (ss : ByteArray) (a : Option Addr) (l c : Nat) (a2 : Option Addr) (l2 c2 : Nat) (cv av : Value) (w : World) (hs : s.steps = 1500) (hR : RunS X rb cv av w s 0) :
    Calls Tryz.prog 47 #[ptr rb, t4 k m ss a l c, .slice a2 l2 c2] w (DeadP X rb cv av w 2) := by
  have hl := hR.lt
  go_enter Tryz.func47, Tryz.ntmps47
  obtain ⟨ws, wb, x0, x1, x2, x3, z0, z1, z2, z3, z4, z5, z6, z7, zz⟩ := sW_facts w k m ss a l c
  have hR1 := hR.below wb
  obtain ⟨y0, y1, _⟩ := hR1.at
  have fz := hR1.fz
  rw [hs] at y1
  generalize hW : sW w k m ss a l c = W at ws wb x0 x1 x2 x3 zz hR1 y0 y1 fz
  unfold sW at hW
  have K1 := ((KepS.below (rb := rb) (cv := cv) (av := av) wb).set 1 (.int .i64 1501)).set 0 (.int .i64 2)
  have D1 := hR1.ends 1501
  have y01 := (set_off W rb 1 0 (.int .i64 1501) (by decide)).trans y0
  have f01 : (W.setCell ⟨rb, 1, none⟩ (.int .i64 1501)).frozen? ⟨rb, 0, none⟩ = false := by rw [World.frozen?_setCell]; exact fz 0
  have hz1 : ((W.setCell ⟨rb, 1, none⟩ (.int .i64 1501)).setCell ⟨rb, 0, none⟩ (.int .i64 2)).heap[w.heap.size + 1]? = some (.cells #[z0, z1, z2, z3, z4, z5, z6, z7] 114 (0, 0)) := by rw [Below.heap_setCell _ _ _ _ (by show w.heap.size + 1 ≠ rb; omega), Below.heap_setCell _ _ _ _ (by show w.heap.size + 1 ≠ rb; omega)]; exact zz
  go_wp2_with fail
  refine (stop_live rb 2 _ y01 f01).mono ?_
  rintro e' w2 ⟨rfl, hw2⟩
  have hb2 := (Below.refl _ ((W.setCell ⟨rb, 1, none⟩ (.int .i64 1501)).setCell ⟨rb, 0, none⟩ (.int .i64 2))).alloc (Nat.le_refl _) (.cells #[.bool false, .int .i64 0, .int .u8 0, .int .i64 0, .string ⟨#[]⟩, .slice none 0 0, .int .i64 0, .slice none 0 0] 114)
  have D2 := D1.below hb2
  have K2 := K1.trans (KepS.below (rb := rb) (cv := cv) (av := av) hb2)
  have hz2 := (hb2.block (w.heap.size + 1) (by simp; omega)).trans hz1
  rw [← hw2] at D2 K2 hz2
  clear hw2 hb2 hz1 y01 f01 D1 K1
  go_wp2_with fail
  refine (goes_c rb 2 _ D2.c0).mono ?_
  rintro e' w3 ⟨rfl, rfl⟩
  obtain ⟨t0, t1, t2, t3, t4, t5, t6, t7, tff⟩ := eight_of hz2
  go_wp2_with fail
  have h8 := eight_of (set8_at hz2 (.bool false) (.int .i64 0) (.int .u8 0) (.int .i64 0) (.string ⟨#[]⟩) (.slice none 0 0) (.int .i64 0) (.slice none 0 0))
  obtain ⟨y0, y1, y2, y3, y4, y5, y6, y7, _⟩ := h8
  unfold set8 at y0 y1 y2 y3 y4 y5 y6 y7
  refine bodyPost_ret (v := zero8) (by simp [results, Tryz.results47, go_sem, y0, y1, y2, y3, y4, y5, y6, y7]) rfl ?_
  exact ⟨rfl, D2.set8 (by omega) _ _ _ _ _ _ _ _, cv, av, K2.set8 (by omega) _ _ _ _ _ _ _ _⟩
end Go.Proofs.YtjfhncfbejephaaGreatDoor

/- The specification's eval: whole. Written by genS.py. -/
namespace Go.Proofs.YtjfhncfbejephaaGreatDoor
open Go.RowKit Go.Shelf
open Ff
set_option linter.unusedVariables false
variable {X : Nat → Prop}
attribute [local irreducible] Calls

theorem scall_c (n : Nat) (ih : SEvC n) : SCallC n := by
  intro X vx vy s rb cv av part fv yv w hn hB hcs hox hoy hR hx hy
  cases vx with
  | num k =>
    cases hx with
    | num _ => exact scall_num rb cv av s k part yv vy w hR hy
  | clo j g e =>
    have hf : isFun g = true := by cases hox; assumption
    cases g with
    | fn c b => exact scall_fn n ih c b j e vy s rb cv av part fv yv w hn hB hcs hox hoy hR hx hy
    | fix f c b => exact scall_fix n ih f c b j e vy s rb cv av part fv yv w hn hB hcs hox hoy hR hx hy
    | _ => simp [isFun] at hf
theorem sev_c (n : Nat) : SEvC n := by
  induction n with
  | zero => intro X t i e s rb cv av tv vv w hn hB; have := hB.steps; omega
  | succ n ih =>
    intro X t i e s rb cv av tv vv w hn hB hok hR hP hE
    by_cases hs : 1500 ≤ s.steps
    · have he : ev (n + 1) t i e s = .long := by show (if 1500 ≤ s.steps then _ else _) = _; rw [if_pos hs]
      rw [he]
      obtain ⟨kk, mm, ss, aa, ll, cc, rfl⟩ := hP.any.junk
      obtain ⟨ae, ce, rfl⟩ := hE.form
      exact sev_long s rb 2 kk mm ss aa ll cc (some ae) _ ce cv av w (by have := hB.steps; omega) hR
    · have he : ev (n + 1) t i e s = evB (ev n) t i e s.step := by show (if 1500 ≤ s.steps then _ else _) = _; rw [if_neg hs]
      rw [he]
      have hn2 : 1501 ≤ s.step.steps + n := by simp only [St.step]; omega
      have hs2 : s.steps < 1500 := by omega
      cases t with
      | num k => exact sev_num n ih k i e s rb cv av tv vv w hn2 hs2 hB hok hR hP hE
      | var c =>
        obtain ⟨v, hv, _⟩ := find_ok hok.env (hok.free c (by simp [sfree]))
        exact sev_var n ih c i e s rb cv av tv vv w hn2 hs2 hB hok hR hP hE v hv
      | fn c b => exact sev_fn n ih c b i e s rb cv av tv vv w hn2 hs2 hB hok hR hP hE
      | fix f c b => exact sev_fix n ih f c b i e s rb cv av tv vv w hn2 hs2 hB hok hR hP hE
      | app f a => exact sev_app n ih (scall_c n ih) f a i e s rb cv av tv vv w hn2 hs2 hB hok hR hP hE
      | bind c v b => exact sev_bind n ih c v b i e s rb cv av tv vv w hn2 hs2 hB hok hR hP hE
      | op o l r => exact sev_op n ih o l r i e s rb cv av tv vv w hn2 hs2 hB hok hR hP hE
      | sel a b c => exact sev_sel n ih a b c i e s rb cv av tv vv w hn2 hs2 hB hok hR hP hE
end Go.Proofs.YtjfhncfbejephaaGreatDoor
