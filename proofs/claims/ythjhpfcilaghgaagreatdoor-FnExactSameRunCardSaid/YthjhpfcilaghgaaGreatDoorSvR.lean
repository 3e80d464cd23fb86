import Derived.Test.YthjhpfcilaghgaaGreatDoorMCt
import Derived.Test.YthjhpfcilaghgaaGreatDoorMFr
import Derived.Deep.RegionHeld3
/- Closed terms: the specification's l3Closed, the program's readClosed. -/
namespace Go.Proofs.YthjhpfcilaghgaaGreatDoor
open Go.RowKit
open Ff
set_option linter.unusedVariables false
attribute [local irreducible] Calls

/-- A closed term of a text. -/
def closedS (s : Text) : Option Tm := (readS s).bind fun t => if sfree t = [] then some t else none
theorem closedS_some {s : Text} {t : Tm} (h : closedS s = some t) : readS s = some t ∧ sfree t = [] := by
  unfold closedS at h
  rcases hr : readS s with _ | u
  · simp [hr] at h
  · simp only [hr, Option.bind_some] at h
    split at h
    · injection h with h; subst h; exact ⟨rfl, by assumption⟩
    · cases h
theorem set4_far (W : World) (g b : Nat) (hne : g ≠ b) {u0 u1 u2 u3 v : Value} {k : Nat} (h : W.cell? ⟨g, k, none⟩ = some v) : ((((W.setCell ⟨b, 0, none⟩ u0).setCell ⟨b, 1, none⟩ u1).setCell ⟨b, 2, none⟩ u2).setCell ⟨b, 3, none⟩ u3).cell? ⟨g, k, none⟩ = some v := by
  have q : ∀ (W : World) (j : Nat) (u : Value), (W.setCell ⟨b, j, none⟩ u).cell? ⟨g, k, none⟩ = W.cell? ⟨g, k, none⟩ := fun W j u => World.cell?_setCell_other W _ _ u (fun e => hne (by injection e with e; exact e.symm))
  rw [q, q, q, q]; exact h
theorem fourz_of {w : World} {b : Nat} {z0 z1 z2 z3 : Value} {t : TypeId} (h : w.heap[b]? = some (.cells #[z0, z1, z2, z3] t (0, 0))) : w.cell? ⟨b, 0, none⟩ = some z0 ∧ w.cell? ⟨b, 1, none⟩ = some z1 ∧ w.cell? ⟨b, 2, none⟩ = some z2 ∧ w.cell? ⟨b, 3, none⟩ = some z3 ∧ w.frozen? ⟨b, 0, none⟩ = false ∧ w.frozen? ⟨b, 1, none⟩ = false ∧ w.frozen? ⟨b, 2, none⟩ = false ∧ w.frozen? ⟨b, 3, none⟩ = false := by
  refine ⟨?_, ?_, ?_, ?_, ?_, ?_, ?_, ?_⟩ <;> simp [World.cell?, World.frozen?, h]
def ClosedPost (w : World) (o : Option Tm) (e : Ending) (w' : World) : Prop := Below w.heap.size w w' ∧ ∃ v, Junk v ∧ e = .returned (.tuple #[v, .bool o.isSome]) ∧ ∀ t, o = some t → Rep (New w w') w' t v
set_option maxRecDepth 100000 in
set_option maxHeartbeats 2000000 in
theorem sclosed_c (s : Text) (w : World) (hl : s.length ≤ 9223372036854775807) :
    Calls Tryz.prog 27 #[.string ⟨s.toArray⟩] w (ClosedPost w (closedS s)) := by
  have C := sread_c s (w.alloc (.cells #[.int .u8 0, .int .i64 0, .string ⟨#[]⟩, .slice none 0 0] 45)) hl
  have hb0 := (Below.refl w.heap.size w).alloc (Nat.le_refl _) (.cells #[.int .u8 0, .int .i64 0, .string ⟨#[]⟩, .slice none 0 0] 45)
  have hs0 : (w.alloc (.cells #[.int .u8 0, .int .i64 0, .string ⟨#[]⟩, .slice none 0 0] 45)).heap.size = w.heap.size + 1 := by simp
  have hz0 : (w.alloc (.cells #[.int .u8 0, .int .i64 0, .string ⟨#[]⟩, .slice none 0 0] 45)).heap[w.heap.size]? = some (.cells #[.int .u8 0, .int .i64 0, .string ⟨#[]⟩, .slice none 0 0] 45 (0, 0)) := World.alloc_heap_new w _
  go_enter Tryz.func27, Tryz.ntmps27
  go_wp2_with fail
  generalize w.alloc (.cells #[.int .u8 0, .int .i64 0, .string ⟨#[]⟩, .slice none 0 0] 45) = W at C hb0 hs0 hz0 ⊢
  refine C.mono ?_
  clear C
  rcases hr : readS s with _ | t
  · rintro e w1 ⟨rfl, hb1⟩
    have hc : closedS s = none := by unfold closedS; rw [hr]; rfl
    have HC := Lib.hid hc
    clear hr hc
    unfold zeroTm
    have hs1 := hb1.size
    have hb2 := (Below.refl _ w1).alloc (Nat.le_refl _) (.cells #[.int .u8 0, .int .i64 0, .string ⟨#[]⟩, .slice none 0 0] 45)
    obtain ⟨t0, t1, t2, t3, f0, f1, f2, f3⟩ := fourz_of ((hb2.block w.heap.size (by omega)).trans ((hb1.block w.heap.size (by omega)).trans hz0))
    obtain ⟨k0, k1, k2, k3, _⟩ := fourz_of (World.alloc_heap_new w1 (.cells #[.int .u8 0, .int .i64 0, .string ⟨#[]⟩, .slice none 0 0] 45))
    go_wp2_with fail
    generalize w1.alloc (.cells #[.int .u8 0, .int .i64 0, .string ⟨#[]⟩, .slice none 0 0] 45) = w2 at hb2 t0 t1 t2 t3 f0 f1 f2 f3 k0 k1 k2 k3 ⊢
    have hbw : Below w.heap.size w w2 := (hb0.trans (hb1.mono (by omega))).trans (hb2.mono (by omega))
    have hbd := hbw.drew
    go_region_with (fail)
    all_goals try go_wp2_with fail
    all_goals refine bodyPost_ret (v := .tuple #[.agg #[.int .u8 0, .int .i64 0, .string ⟨#[]⟩, .slice none 0 0], .bool false]) (by simp [results, Tryz.results27, go_sem, t0, t1, t2, t3]) rfl ?_
    all_goals refine ⟨?_, _, ⟨_, _, _, _, _, _, rfl⟩, by rw [HC.out]; rfl, fun t h => by rw [HC.out] at h; cases h⟩
    all_goals first
      | exact ((((hbw.setCell (p := ⟨w.heap.size, 0, none⟩) (Nat.le_refl _) _).setCell (p := ⟨w.heap.size, 1, none⟩) (Nat.le_refl _) _).setCell (p := ⟨w.heap.size, 2, none⟩) (Nat.le_refl _) _).setCell (p := ⟨w.heap.size, 3, none⟩) (Nat.le_refl _) _)
      | exact ((((hbd.setCell (p := ⟨w.heap.size, 0, none⟩) (Nat.le_refl _) _).setCell (p := ⟨w.heap.size, 1, none⟩) (Nat.le_refl _) _).setCell (p := ⟨w.heap.size, 2, none⟩) (Nat.le_refl _) _).setCell (p := ⟨w.heap.size, 3, none⟩) (Nat.le_refl _) _)
  · rintro e w1 ⟨v, rfl, hb1, hrep⟩
    have hd := readS_depth hr
    have hgd := readS_good hr
    have hc : closedS s = if sfree t = [] then some t else none := by unfold closedS; rw [hr]; rfl
    have HR := Lib.hid hc
    clear hr hc
    obtain ⟨x, y, st, aa, l, cc, rfl⟩ := hrep.junk
    have hs1 := hb1.size
    have hb2 := (Below.refl _ w1).alloc (Nat.le_refl _) (.cells #[.int .u8 x, .int .i64 y, .string st, .slice aa l cc] 45)
    obtain ⟨t0, t1, t2, t3, f0, f1, f2, f3⟩ := fourz_of ((hb2.block w.heap.size (by omega)).trans ((hb1.block w.heap.size (by omega)).trans hz0))
    have hx2 := World.alloc_heap_new w1 (.cells #[.int .u8 x, .int .i64 y, .string st, .slice aa l cc] 45)
    have hz1 := (hb1.block w.heap.size (by omega)).trans hz0
    obtain ⟨k0, k1, k2, k3, _⟩ := fourz_of hx2
    have D : ∀ W', Below w1.heap.size w1 W' → Calls Tryz.prog 32 #[.agg #[.int .u8 x, .int .i64 y, .string st, .slice aa l cc]] W' fun e w2 => e = .returned (.string ⟨(sfree t).toArray⟩) ∧ Below W'.heap.size W' w2 := fun W' hW' =>
      free_c 4000 t w1.heap.size _ W' (by omega) (by omega) (hrep.keep (fun g' hg' => hW'.block g' hg'.2) (fun g' hg' => hg'.2)) hW'.size hgd
    have HD := Lib.hid D
    have HP := Lib.hid hrep
    clear hrep D
    go_wp2_with fail
    generalize w1.alloc (.cells #[.int .u8 x, .int .i64 y, .string st, .slice aa l cc] 45) = w2 at hb2 hx2 t0 t1 t2 t3 f0 f1 f2 f3 k0 k1 k2 k3 ⊢
    have hb2d := hb2.drew
    have hne : w1.heap.size ≠ w.heap.size := by omega
    have hl2 : w1.heap.size < w2.heap.size := (Array.getElem?_eq_some_iff.1 hx2).1
    have c0d : w2.drew.cell? ⟨w1.heap.size, 0, none⟩ = some (.int .u8 x) := k0
    have c1d : w2.drew.cell? ⟨w1.heap.size, 1, none⟩ = some (.int .i64 y) := k1
    have c2d : w2.drew.cell? ⟨w1.heap.size, 2, none⟩ = some (.string st) := k2
    have c3d : w2.drew.cell? ⟨w1.heap.size, 3, none⟩ = some (.slice aa l cc) := k3
    go_region_held3 (fun w' => w'.cell? ⟨w1.heap.size, 0, none⟩ = some (.int .u8 x) ∧ w'.cell? ⟨w1.heap.size, 1, none⟩ = some (.int .i64 y) ∧ w'.cell? ⟨w1.heap.size, 2, none⟩ = some (.string st) ∧ w'.cell? ⟨w1.heap.size, 3, none⟩ = some (.slice aa l cc))
      (first | (refine ⟨?_, ?_, ?_, ?_⟩ <;> with_reducible assumption) | (refine ⟨?_, ?_, ?_, ?_⟩ <;> (apply set4_far _ _ _ hne; with_reducible assumption)))
      (first | (go_at_call 32; refine (HD.out _ hb2.drew).mono ?_; rintro e w3 ⟨rfl, hb3⟩; have hb13 := hb2d.trans (hb3.mono hb2d.size); have j0 := (hb3.cell (p := ⟨w1.heap.size, 0, none⟩) (by simpa using hl2)).trans c0d; have j1 := (hb3.cell (p := ⟨w1.heap.size, 1, none⟩) (by simpa using hl2)).trans c1d; have j2 := (hb3.cell (p := ⟨w1.heap.size, 2, none⟩) (by simpa using hl2)).trans c2d; have j3 := (hb3.cell (p := ⟨w1.heap.size, 3, none⟩) (by simpa using hl2)).trans c3d; obtain ⟨t0, t1, t2, t3, f0, f1, f2, f3⟩ := fourz_of ((hb13.block w.heap.size (by omega)).trans hz1)))
    all_goals try go_wp2_with fail
    all_goals have hbw : Below w.heap.size w w3 := (hb0.trans (hb1.mono (by omega))).trans (hb13.mono (by omega))
    all_goals have hrep := HP.out
    all_goals have E : (closedS s).isSome = ((⟨(sfree t).toArray⟩ : ByteArray) == ⟨#[]⟩) := by rw [HR.out, str_nil]; by_cases h0 : sfree t = [] <;> simp [h0]
    all_goals refine bodyPost_ret (v := .tuple #[.agg #[.int .u8 x, .int .i64 y, .string st, .slice aa l cc], .bool (closedS s).isSome]) (by rw [E]; simp [results, Tryz.results27, go_sem, t0, t1, t2, t3]; cases sfree t <;> rfl) rfl ?_
    all_goals refine ⟨?_, _, ⟨_, _, _, _, _, _, rfl⟩, rfl, fun t' h => ?_⟩
    all_goals first
      | exact ((((hbw.setCell (p := ⟨w.heap.size, 0, none⟩) (Nat.le_refl _) _).setCell (p := ⟨w.heap.size, 1, none⟩) (Nat.le_refl _) _).setCell (p := ⟨w.heap.size, 2, none⟩) (Nat.le_refl _) _).setCell (p := ⟨w.heap.size, 3, none⟩) (Nat.le_refl _) _)
      | skip
    all_goals
      have h2 := HR.out.symm.trans h
      split at h2
      · injection h2 with h2
        subst h2
        refine hrep.keep (fun g' hg' => ?_) (fun g' hg' => ⟨by have := hg'.1; omega, by have := hg'.2; have := hb13.size; simp; omega⟩)
        have hg1 : w.heap.size < g' := by have := hg'.1; omega
        rw [Below.heap_setCell _ _ _ _ (by show g' ≠ w.heap.size; omega), Below.heap_setCell _ _ _ _ (by show g' ≠ w.heap.size; omega), Below.heap_setCell _ _ _ _ (by show g' ≠ w.heap.size; omega), Below.heap_setCell _ _ _ _ (by show g' ≠ w.heap.size; omega)]
        exact hb13.block g' hg'.2
      · cases h2
end Go.Proofs.YthjhpfcilaghgaaGreatDoor
