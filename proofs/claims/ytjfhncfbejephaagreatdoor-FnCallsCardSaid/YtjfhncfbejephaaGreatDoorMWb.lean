import Derived.Test.YtjfhncfbejephaaGreatDoorMWa
/- The model's reader of a text: what stands behind the first byte of a term: a call. -/
namespace Go.Proofs.YtjfhncfbejephaaGreatDoor
open Go.RowKit
open Ff
set_option linter.unusedVariables false

theorem Fr.set3 {h : Nat} {x0 x1 x2 x3 : Value} {W : World} (f : Fr h x0 x1 x2 x3 W) (y : Value) : Fr h x0 x1 x2 y (W.setCell ⟨h + 1 + 1, 3, none⟩ y) := by
  constructor <;> first | (rw [World.frozen?_setCell]; first | exact f.q0 | exact f.q1 | exact f.q2 | exact f.q3 | exact f.z0 | exact f.z1 | exact f.z2 | exact f.z3) | exact World.cell?_setCell_same _ _ _ f.y3 | (rw [World.cell?_setCell_other _ _ _ _ (by simp)]; first | exact f.p0 | exact f.p1 | exact f.p2 | exact f.p3 | exact f.y0 | exact f.y1 | exact f.y2) | (have := f.sz; simpa [World.setCell] using this)
theorem pApp_kids (m : Nat) (r : Text) : pApp (parse m) r = (kidsN m 2 (some r)).bind fun x => (next1 x.2).bind fun z => if z.1.toNat = 41 then some (mk2 Tm.app x.1, z.2) else none := by
  simp only [pApp, kidsN, Option.map_some, Option.bind_some]
  rcases parse m r with _ | ⟨a, r1⟩
  · simp
  · simp only [Option.bind_some, List.nil_append]
    rcases parse m r1 with _ | ⟨b, r2⟩ <;> simp [mk2]
set_option maxRecDepth 100000 in
set_option maxHeartbeats 4000000 in
theorem within_40 (m : Nat) (ih : TermS m) (ib : TermBad) (b : Nat) (T r : Text) (w : World) (h : Good b T r (24 - (m : Int)) w) (hl : T.length ≤ 4000) :
    Calls Tryz.prog 99 #[.pointer (some ⟨b, 0, none⟩), .int .u8 40] w (TermPostS b T (24 - (m : Int)) w (pApp (parse m) r)) := by
  have hbw : b < w.heap.size := Start.lt (s := some r) h
  have GG : Good b T r (24 - (m : Int)) (W0 w 40) := ((h.alloc _).alloc _).alloc _
  have G0 : Start b T (24 - (m : Int)) (W0 w 40) (some r) := GG
  have k4 : (W0 w 40).cell? ⟨b, 4, none⟩ = some (.bool false) := by obtain ⟨_, _, _, hs⟩ := GG; exact hs.c4
  have k5 : (W0 w 40).cell? ⟨b, 5, none⟩ = some (.bool false) := by obtain ⟨_, _, _, hs⟩ := GG; exact hs.c5
  unfold W0 at k4 k5
  go_enter Tryz.func99, Tryz.ntmps99
  go_wp2_with (first | (go_at_call 101; refine (l1In_c _ _ _ _).mono ?_; rintro e w' ⟨rfl, rfl⟩) | (go_at_call 102; refine (l1Letter_i _ (by omega) (by omega) _).mono ?_; rintro e w' ⟨rfl, rfl⟩))
  refine (skids_c m 2 (by omega) ih ib b T (some r) _ G0 hl).mono ?_
  rintro e w1 ⟨v, rfl, hK, hg1⟩
  obtain ⟨g, cap, rfl⟩ := kids_shape hK
  have F1 := (W0_fr w 40).keep hg1 hbw
  have F2 := F1.set3 (.slice (some ⟨g, 0, none⟩) 2 cap)
  have hsz1 := hg1.size
  rw [W0_size] at hsz1
  have hgw : w.grownBy (w1.setCell ⟨w.heap.size + 1 + 1, 3, none⟩ (.slice (some ⟨g, 0, none⟩) 2 cap)) (some b) := grown_setNew (grownBy_trans (W0_grown w 40 b) hg1) (by simp; omega) _
  clear k4 k5
  obtain ⟨xs, hown, _, ⟨ts, r2, hk, ⟨a, ha, hd, hsr⟩, hlen, hrep⟩ | ⟨hk, a, d, ha, hsr⟩⟩ := hK
  · have hs2 := hsr.setFar (p := ⟨w.heap.size + 1 + 1, 3, none⟩) (by simp; omega) (.slice (some ⟨g, 0, none⟩) 2 cap)
    have HK := Lib.hid hk
    have HL := Lib.hid hlen
    have HD := Lib.hid hd
    clear hk hlen hd
    obtain ⟨c0, c1, c2, c3, c4, c5, f1, f2, f3⟩ := id hs2
    obtain ⟨p0, p1, p2, p3, q0, q1, q2, q3, y0, y1, y2, y3, z0, z1, z2, z3, sz⟩ := id F1
    have C := snext_c b T a false _ _ hs2 ha hl
    have e2 := c2
    rw [World.cell?_setCell_other _ _ _ _ (by simp)] at e2
    go_wp2_with fail
    refine C.mono ?_
    rintro e w2 ⟨z, a', bad', rfl, hsp, ha', hwhy⟩
    clear c0 c1 c2 c3 c4 c5 f1 f2 f3 p0 p1 p2 p3 q0 q1 q2 q3 y0 y1 y2 y3 z0 z1 z2 z3 sz e2 C
    obtain ⟨p0, p1, p2, p3, q0, q1, q2, q3, y0, y1, y2, y3, z0, z1, z2, z3, sz⟩ := F2.keep hsp.rest hbw
    obtain ⟨c0, c1, c2, c3, c4, c5, f1, f2, f3⟩ := id hsp.sr
    have hsz2 := hsp.rest.size
    have z1s : (w1.setCell ⟨w.heap.size + 1 + 1, 3, none⟩ (.slice (some ⟨g, 0, none⟩) 2 cap)).heap.size = w1.heap.size := by simp [World.setCell]
    rw [z1s] at hsz2
    clear z1s
    have hgf : w.grownBy w2 (some b) := grownBy_trans hgw hsp.rest
    rcases hwhy with ⟨hc, rfl, rfl⟩ | ⟨rfl, rfl, rfl, rfl⟩
    · by_cases hz : z.toNat = 41
      · have hq : ((z.toNat : Int) != 41) = false := by rw [hz]; rfl
        have HZ := Lib.hid hz
        have HC := Lib.hid hc
        clear hz hc
        go_wp2_with fail
        refine bodyPost_ret (v := .agg #[.int .u8 40, .int .i64 0, .string ⟨#[]⟩, .slice (some ⟨g, 0, none⟩) 2 cap]) (by simp [results, Tryz.results99, go_sem, p0, p1, p2, p3]) rfl ?_
        have E : pApp (parse m) r = some (mk2 Tm.app ts, T.drop (a + 1)) := by
          rw [pApp_kids, HK.out]
          simp only [Option.bind_some]
          rw [← HD.out, drop_head HC.out]
          simp [next1, HZ.out]
        rw [E]
        refine ⟨_, rfl, Wf_grown (grownBy_set hgf _ _) _ _ _ _, ⟨a + 1, ha', rfl, (hsp.sr.setBad false).same (Wf_heap _ _ _ _ _ _ _ (by omega))⟩, ?_⟩
        obtain ⟨s1, s2, rfl⟩ := of2 HL.out
        exact rep_kids hown HL.out (by omega) hrep (by rw [W0_size]; omega) (by simp [World.setCell]; omega) (fun g' h1 h2 => by
          rw [W0_size] at h1
          exact (Wf_heap _ _ _ _ _ _ _ (by omega)).trans ((Below.heap_setCell _ _ _ _ (by simp; omega)).trans ((hsp.rest.block g' (by simp [World.setCell]; omega) (by simp; omega)).trans (Below.heap_setCell _ _ _ _ (by simp; omega))))) (mk2 Tm.app [s1, s2]) rfl
      · have hq : ((z.toNat : Int) != 41) = true := by rw [bne_iff_ne]; omega
        have HZ := Lib.hid hz
        have HC := Lib.hid hc
        clear hz hc
        go_wp2_with fail
        refine bodyPost_ret (v := .agg #[.int .u8 40, .int .i64 0, .string ⟨#[]⟩, .slice (some ⟨g, 0, none⟩) 2 cap]) (by simp [results, Tryz.results99, go_sem, p0, p1, p2, p3]) rfl ?_
        have E : pApp (parse m) r = none := by
          rw [pApp_kids, HK.out]
          simp only [Option.bind_some]
          rw [← HD.out, drop_head HC.out]
          simp [next1, HZ.out]
        rw [E]
        exact ⟨_, rfl, Wf_grown (grownBy_set hgf _ _) _ _ _ _, ⟨a + 1, _, ha', (hsp.sr.setBad true).same (Wf_heap _ _ _ _ _ _ _ (by omega))⟩, ⟨_, _, _, _, _, _, rfl⟩⟩
    · have hq : ((((0 : UInt8).toNat : Nat) : Int) != 41) = true := rfl
      go_wp2_with fail
      refine bodyPost_ret (v := .agg #[.int .u8 40, .int .i64 0, .string ⟨#[]⟩, .slice (some ⟨g, 0, none⟩) 2 cap]) (by simp [results, Tryz.results99, go_sem, p0, p1, p2, p3]) rfl ?_
      have E : pApp (parse m) r = none := by
        rw [pApp_kids, HK.out]
        simp only [Option.bind_some]
        rw [← HD.out]
        simp [next1]
      rw [E]
      exact ⟨_, rfl, Wf_grown (grownBy_set hgf _ _) _ _ _ _, ⟨_, _, ha', (hsp.sr.setBad true).same (Wf_heap _ _ _ _ _ _ _ (by omega))⟩, ⟨_, _, _, _, _, _, rfl⟩⟩
  · have hs2 := hsr.setFar (p := ⟨w.heap.size + 1 + 1, 3, none⟩) (by simp; omega) (.slice (some ⟨g, 0, none⟩) 2 cap)
    have HK := Lib.hid hk
    clear hk
    obtain ⟨c0, c1, c2, c3, c4, c5, f1, f2, f3⟩ := id hsr
    obtain ⟨p0, p1, p2, p3, q0, q1, q2, q3, y0, y1, y2, y3, z0, z1, z2, z3, sz⟩ := id F1
    have nb : ¬ b = w.heap.size + 1 + 1 := by omega
    go_wp2_with fail
    refine bodyPost_ret (v := .agg #[.int .u8 40, .int .i64 0, .string ⟨#[]⟩, .slice (some ⟨g, 0, none⟩) 2 cap]) (by simp [results, Tryz.results99, go_sem, p0, p1, p2, p3]) rfl ?_
    rw [pApp_kids, HK.out]
    exact ⟨_, rfl, Wf_grown (grownBy_set hgw _ _) _ _ _ _, ⟨a, d, ha, (hs2.setBad true).same (Wf_heap _ _ _ _ _ _ _ (by omega))⟩, ⟨_, _, _, _, _, _, rfl⟩⟩
end Go.Proofs.YtjfhncfbejephaaGreatDoor

/- The model's reader of a text: what stands behind the first byte of a term: a long number, a name, and what is none. -/
namespace Go.Proofs.YtjfhncfbejephaaGreatDoor
open Go.RowKit
open Ff
set_option linter.unusedVariables false

theorem long_bad {T : Text} {a a1 a2 : Nat} {x y : UInt8} {bad1 : Bool} (h1 : (T[a]? = some x ∧ a1 = a + 1 ∧ bad1 = false) ∨ (a = T.length ∧ x = 0 ∧ a1 = a ∧ bad1 = true)) (h2 : (T[a1]? = some y ∧ a2 = a1 + 1 ∧ true = bad1) ∨ (a1 = T.length ∧ y = 0 ∧ a2 = a1 ∧ true = true)) : pLong (T.drop a) = none := by
  rcases h1 with ⟨hx, rfl, rfl⟩ | ⟨rfl, _, _, _⟩
  · rcases h2 with ⟨_, _, h⟩ | ⟨he, _, _, _⟩
    · cases h
    · rw [drop_head hx, he]; simp [pLong, next1]
  · simp [pLong, next1]
theorem long_good {T : Text} {a a1 a2 : Nat} {x y : UInt8} {bad1 : Bool} (h1 : (T[a]? = some x ∧ a1 = a + 1 ∧ bad1 = false) ∨ (a = T.length ∧ x = 0 ∧ a1 = a ∧ bad1 = true)) (h2 : (T[a1]? = some y ∧ a2 = a1 + 1 ∧ false = bad1) ∨ (a1 = T.length ∧ y = 0 ∧ a2 = a1 ∧ false = true)) :
    True ∧ pLong (T.drop a) = (if isDig x = true ∧ isDig y = true ∧ x.toNat ≠ 48 then some (Tm.num (10 * (x.toNat - 48) + (y.toNat - 48)), T.drop a2) else none) ∧ bad1 = false := by
  rcases h2 with ⟨hy, rfl, h⟩ | ⟨_, _, _, h⟩
  · rcases h1 with ⟨hx, rfl, rfl⟩ | ⟨_, _, _, hb⟩
    · refine ⟨trivial, ?_, rfl⟩
      rw [drop_head hx, drop_head hy]
      simp only [pLong, next1, Option.bind_some]
    · rw [hb] at h; cases h
  · cases h
theorem long_first {x : UInt8} (h : isDig x = true) (h2 : x.toNat ≠ 48) : (decide (49 ≤ (x.toNat : Int)) && decide ((x.toNat : Int) ≤ 57)) = true := by
  obtain ⟨h3, h4⟩ := dig_bd h
  rw [Bool.and_eq_true]
  constructor <;> apply decide_eq_true <;> omega
theorem long_first2 {x : UInt8} (h : (decide (49 ≤ (x.toNat : Int)) && decide ((x.toNat : Int) ≤ 57)) = true) : isDig x = true ∧ 49 ≤ (x.toNat : Int) ∧ (x.toNat : Int) ≤ 57 ∧ x.toNat ≠ 48 := by
  rw [Bool.and_eq_true] at h
  have h1 := of_decide_eq_true h.1
  have h2 := of_decide_eq_true h.2
  refine ⟨?_, h1, h2, by omega⟩
  simp only [isDig, Bool.and_eq_true, decide_eq_true_eq]
  omega
set_option maxRecDepth 100000 in
set_option maxHeartbeats 4000000 in
theorem within_35 (m : Nat) (b : Nat) (T r : Text) (w : World) (h : Good b T r (24 - (m : Int)) w) (hl : T.length ≤ 4000) :
    Calls Tryz.prog 99 #[.pointer (some ⟨b, 0, none⟩), .int .u8 35] w (TermPostS b T (24 - (m : Int)) w (pLong r)) := by
  have hbw : b < w.heap.size := Start.lt (s := some r) h
  have GG : Good b T r (24 - (m : Int)) (W0 w 35) := ((h.alloc _).alloc _).alloc _
  have G0 : Start b T (24 - (m : Int)) (W0 w 35) (some r) := GG
  have k4 : (W0 w 35).cell? ⟨b, 4, none⟩ = some (.bool false) := by obtain ⟨_, _, _, hs⟩ := GG; exact hs.c4
  have k5 : (W0 w 35).cell? ⟨b, 5, none⟩ = some (.bool false) := by obtain ⟨_, _, _, hs⟩ := GG; exact hs.c5
  unfold W0 at k4 k5
  go_enter Tryz.func99, Tryz.ntmps99
  go_wp2_with (first | (go_at_call 101; refine (l1In_c _ _ _ _).mono ?_; rintro e w' ⟨rfl, rfl⟩) | (go_at_call 102; refine (l1Letter_i _ (by omega) (by omega) _).mono ?_; rintro e w' ⟨rfl, rfl⟩))
  obtain ⟨a, ha, hd, hsr⟩ := GG
  have HD := Lib.hid hd
  clear hd
  refine (snext_c b T a false _ _ hsr ha hl).mono ?_
  rintro e w1 ⟨x, a1, bad1, rfl, h1, ha1, y1⟩
  have Y1 := Lib.hid y1
  clear y1
  go_wp2_with fail
  refine (snext_c b T a1 bad1 _ _ h1.sr ha1 hl).mono ?_
  rintro e w2 ⟨y, a2, bad2, rfl, h2, ha2, y2⟩
  have Y2 := Lib.hid y2
  clear y2 k4 k5
  have F2 := ((W0_fr w 35).keep h1.rest hbw).keep h2.rest hbw
  have hx := byte_lt x
  have hx0 : 0 ≤ (x.toNat : Int) := by omega
  have hy := byte_lt y
  have hy0 : 0 ≤ (y.toNat : Int) := by omega
  obtain ⟨p0, p1, p2, p3, q0, q1, q2, q3, y0, y1, y2, y3, z0, z1, z2, z3, sz⟩ := id F2
  obtain ⟨c0, c1, c2, c3, c4, c5, f1, f2, f3⟩ := id h2.sr
  have nb : ¬ b = w.heap.size + 1 + 1 := by omega
  cases bad2 with
  | true =>
    have E : pLong r = none := by rw [← HD.out]; exact long_bad Y1.out Y2.out
    go_wp2_with fail
    refine bodyPost_ret (v := .agg #[.int .u8 110, .int .i64 (10 * (((x.toNat : Int) - 48) % 256) + ((y.toNat : Int) - 48) % 256), .string ⟨#[]⟩, .slice (some ⟨w.heap.size + 1, 0, none⟩) 0 0]) (by simp [results, Tryz.results99, go_sem, p0, p1, p2, p3]) rfl ?_
    rw [E]
    exact ⟨_, rfl, Wf_grown (grown_setNew (grown_setNew (grownBy_set (grownBy_trans (grownBy_trans (W0_grown w 35 b) h1.rest) h2.rest) _ _) (by simp; omega) _) (by simp; omega) _) _ _ _ _, ⟨a2, _, ha2, (((h2.sr.setBad true).setFar (by simp; omega) _).setFar (by simp; omega) _).same (Wf_heap _ _ _ _ _ _ _ (by omega))⟩, ⟨_, _, _, _, _, _, rfl⟩⟩
  | false =>
    obtain ⟨el, er, e2⟩ := long_good Y1.out Y2.out
    rw [HD.out] at er
    have ER := Lib.hid er
    clear el er
    go_wp2_with fail
    refine (l1In_c _ _ _ _).mono ?_
    rintro e w3 ⟨rfl, rfl⟩
    cases H1 : (decide (49 ≤ (x.toNat : Int)) && decide ((x.toNat : Int) ≤ 57)) with
    | false =>
      have E : pLong r = none := by rw [ER.out]; exact if_neg (fun h => by have := long_first h.1 h.2.2; rw [H1] at this; cases this)
      replace H1 := Lib.hid H1
      go_wp2_with fail
      refine bodyPost_ret (v := .agg #[.int .u8 110, .int .i64 (10 * (((x.toNat : Int) - 48) % 256) + ((y.toNat : Int) - 48) % 256), .string ⟨#[]⟩, .slice (some ⟨w.heap.size + 1, 0, none⟩) 0 0]) (by simp [results, Tryz.results99, go_sem, p0, p1, p2, p3]) rfl ?_
      rw [E]
      exact ⟨_, rfl, Wf_grown (grown_setNew (grown_setNew (grownBy_set (grownBy_trans (grownBy_trans (W0_grown w 35 b) h1.rest) h2.rest) _ _) (by simp; omega) _) (by simp; omega) _) _ _ _ _, ⟨a2, _, ha2, (((h2.sr.setBad true).setFar (by simp; omega) _).setFar (by simp; omega) _).same (Wf_heap _ _ _ _ _ _ _ (by omega))⟩, ⟨_, _, _, _, _, _, rfl⟩⟩
    | true =>
      obtain ⟨hD1, b1, b2, hn48⟩ := long_first2 H1
      have HN := Lib.hid hn48
      replace H1 := Lib.hid H1
      clear hn48
      go_wp2_with fail
      refine (l1In_c _ _ _ _).mono ?_
      rintro e w3 ⟨rfl, rfl⟩
      rw [← dig_eq]
      cases H2 : isDig y with
      | false =>
        have E : pLong r = none := by rw [ER.out]; exact if_neg (fun h => by rw [H2] at h; exact absurd h.2.1 (by simp))
        replace H2 := Lib.hid H2
        go_wp2_with fail
        refine bodyPost_ret (v := .agg #[.int .u8 110, .int .i64 (10 * ((x.toNat : Int) - 48) + ((y.toNat : Int) - 48) % 256), .string ⟨#[]⟩, .slice (some ⟨w.heap.size + 1, 0, none⟩) 0 0]) (by simp [results, Tryz.results99, go_sem, p0, p1, p2, p3]) rfl ?_
        rw [E]
        exact ⟨_, rfl, Wf_grown (grown_setNew (grown_setNew (grownBy_set (grownBy_trans (grownBy_trans (W0_grown w 35 b) h1.rest) h2.rest) _ _) (by simp; omega) _) (by simp; omega) _) _ _ _ _, ⟨a2, _, ha2, (((h2.sr.setBad true).setFar (by simp; omega) _).setFar (by simp; omega) _).same (Wf_heap _ _ _ _ _ _ _ (by omega))⟩, ⟨_, _, _, _, _, _, rfl⟩⟩
      | true =>
        obtain ⟨b3, b4⟩ := dig_bd H2
        have E : pLong r = some (Tm.num (10 * (x.toNat - 48) + (y.toNat - 48)), T.drop a2) := by rw [ER.out]; exact if_pos ⟨hD1, H2, HN.out⟩
        replace H2 := Lib.hid H2
        clear hD1
        have en : (10 * ((x.toNat : Int) - 48) + ((y.toNat : Int) - 48)) = ((10 * (x.toNat - 48) + (y.toNat - 48) : Nat) : Int) := by omega
        have EN := Lib.hid en
        clear en
        go_wp2_with fail
        rw [EN.out]
        refine bodyPost_ret (v := tmHead (Tm.num (10 * (x.toNat - 48) + (y.toNat - 48))) (w.heap.size + 1) 0) (by simp [results, Tryz.results99, go_sem, p0, p1, p2, p3, tmHead, kindOf, numOf, namesOf, Tm.kids]) rfl ?_
        rw [E]
        exact ⟨_, rfl, Wf_grown (grown_setNew (grown_setNew (grownBy_set (grownBy_trans (grownBy_trans (W0_grown w 35 b) h1.rest) h2.rest) _ _) (by simp; omega) _) (by simp; omega) _) _ _ _ _, ⟨a2, ha2, rfl, (((h2.sr.setBad false).setFar (by simp; omega) _).setFar (by simp; omega) _).same (Wf_heap _ _ _ _ _ _ _ (by omega))⟩, rep_leaf _ rfl (by simp [World.setCell]; omega)⟩
end Go.Proofs.YtjfhncfbejephaaGreatDoor

/- The model's reader of a text: what stands behind the first byte of a term: a name, and what is none. -/
namespace Go.Proofs.YtjfhncfbejephaaGreatDoor
open Go.RowKit
open Ff
set_option linter.unusedVariables false

set_option maxRecDepth 100000 in
set_option maxHeartbeats 4000000 in
theorem within_nam (m : Nat) (b : Nat) (T r : Text) (c : UInt8) (w : World) (h : Good b T r (24 - (m : Int)) w) (hN : isNam c = true) :
    Calls Tryz.prog 99 #[.pointer (some ⟨b, 0, none⟩), .int .u8 (c.toNat : Int)] w (TermPostS b T (24 - (m : Int)) w (some (Tm.var c, r))) := by
  have hb := byte_lt c
  have hb0 : 0 ≤ (c.toNat : Int) := by omega
  have hn : (decide (97 ≤ (c.toNat : Int)) && decide ((c.toNat : Int) ≤ 112)) = true := by rw [← nam_eq]; exact hN
  have hlo : 97 ≤ (c.toNat : Int) := by rw [Bool.and_eq_true] at hn; exact of_decide_eq_true hn.1
  have hd : (decide (48 ≤ (c.toNat : Int)) && decide ((c.toNat : Int) ≤ 57)) = false := by
    rw [Bool.and_eq_false_iff]; right; apply decide_eq_false; omega
  have q35 : ((c.toNat : Int) == 35) = false := by rw [beq_eq_false_iff_ne]; omega
  have k1 := str1 (w.heap.size + 1 + 1 + 1) c ((((w.alloc (.cells #[.int .u8 0, .int .i64 0, .string ⟨#[]⟩, .slice none 0 0] 78)).alloc (.cells #[] 78)).alloc (.cells #[.int .u8 118, .int .i64 0, .string ⟨#[]⟩, .slice (some ⟨w.heap.size + 1, 0, none⟩) 0 0] 78)).alloc (.cells #[.int .u8 (c.toNat : Int)] 5)) (cell_new_at _ _ _ _ (by simp))
  have HN := Lib.hid hn
  have HD := Lib.hid hd
  clear hn hd
  go_enter Tryz.func99, Tryz.ntmps99
  go_wp2_with fail
  refine (l1In_c _ _ _ _).mono ?_
  rintro e w1 ⟨rfl, rfl⟩
  rw [HD.out]
  go_wp2_with fail
  refine (l1Letter_i _ hb0 hb _).mono ?_
  rintro e w1 ⟨rfl, rfl⟩
  rw [HN.out]
  go_wp2_with fail
  refine bodyPost_ret (v := tmHead (Tm.var c) (w.heap.size + 1) 0) (by simp [results, Tryz.results99, go_sem, tmHead, kindOf, numOf, namesOf, Tm.kids]) rfl ⟨_, rfl, ?_, ?_, rep_leaf _ rfl (by simp)⟩
  · exact grownBy_alloc (grownBy_alloc (grownBy_alloc (grownBy_alloc (World.grownBy.refl _ _) _) _) _) _
  · exact (((h.alloc _).alloc _).alloc _).alloc _

set_option maxRecDepth 100000 in
set_option maxHeartbeats 4000000 in
theorem within_none (b : Nat) (T : Text) (c : UInt8) (a : Nat) (bad : Bool) (d : Int) (w : World) (h : SR b T (a : Int) bad d w) (ha : a ≤ T.length) (hD : isDig c = false) (hN : isNam c = false)
    (h35 : c.toNat ≠ 35) (h92 : c.toNat ≠ 92) (h64 : c.toNat ≠ 64) (h40 : c.toNat ≠ 40) (h61 : c.toNat ≠ 61) (h43 : c.toNat ≠ 43) (h45 : c.toNat ≠ 45) (h42 : c.toNat ≠ 42) (h63 : c.toNat ≠ 63) :
    Calls Tryz.prog 99 #[.pointer (some ⟨b, 0, none⟩), .int .u8 (c.toNat : Int)] w fun e w' => ∃ v, e = .returned v ∧ w.grownBy w' (some b) ∧ Bad b T w' ∧ Junk v := by
  have hb := byte_lt c
  have hb0 : 0 ≤ (c.toNat : Int) := by omega
  have hn : (decide (97 ≤ (c.toNat : Int)) && decide ((c.toNat : Int) ≤ 112)) = false := by rw [← nam_eq]; exact hN
  have hd : (decide (48 ≤ (c.toNat : Int)) && decide ((c.toNat : Int) ≤ 57)) = false := by rw [← dig_eq]; exact hD
  have q35 : ((c.toNat : Int) == 35) = false := by rw [beq_eq_false_iff_ne]; omega
  have q92 : ((c.toNat : Int) == 92) = false := by rw [beq_eq_false_iff_ne]; omega
  have q64 : ((c.toNat : Int) == 64) = false := by rw [beq_eq_false_iff_ne]; omega
  have q40 : ((c.toNat : Int) == 40) = false := by rw [beq_eq_false_iff_ne]; omega
  have q61 : ((c.toNat : Int) == 61) = false := by rw [beq_eq_false_iff_ne]; omega
  have q43 : ((c.toNat : Int) == 43) = false := by rw [beq_eq_false_iff_ne]; omega
  have q45 : ((c.toNat : Int) == 45) = false := by rw [beq_eq_false_iff_ne]; omega
  have q42 : ((c.toNat : Int) == 42) = false := by rw [beq_eq_false_iff_ne]; omega
  have q63 : ((c.toNat : Int) == 63) = false := by rw [beq_eq_false_iff_ne]; omega
  clear h35 h92 h64 h40 h61 h43 h45 h42 h63
  have HN := Lib.hid hn
  have HD := Lib.hid hd
  clear hn hd hN hD
  have hbw := h.lt
  have G : SR b T (a : Int) bad d (W0 w (c.toNat : Int)) := ((h.alloc _).alloc _).alloc _
  have k4 := G.c4
  have k5 := G.c5
  have k2 := G.c2
  have f2 := G.f2
  unfold W0 at k4 k5 k2 f2
  have nb : ¬ b = w.heap.size := by omega
  have nb1 : ¬ b = w.heap.size + 1 := by omega
  have nb2 : ¬ b = w.heap.size + 1 + 1 := by omega
  go_enter Tryz.func99, Tryz.ntmps99
  go_wp2_with fail
  refine (l1In_c _ _ _ _).mono ?_
  rintro e w1 ⟨rfl, rfl⟩
  rw [HD.out]
  go_wp2_with fail
  refine (l1Letter_i _ hb0 hb _).mono ?_
  rintro e w1 ⟨rfl, rfl⟩
  rw [HN.out]
  obtain ⟨p0, p1, p2, p3, q0, q1, q2, q3, y0, y1, y2, y3, z0, z1, z2, z3, sz⟩ := (W0_fr w (c.toNat : Int)).setRd hbw 2 (.bool true)
  unfold W0 at p0 p1 p2 p3 q0 q1 q2 q3 y0 y1 y2 y3 z0 z1 z2 z3 sz
  go_wp2_with fail
  refine bodyPost_ret (v := .agg #[.int .u8 (c.toNat : Int), .int .i64 0, .string ⟨#[]⟩, .slice (some ⟨w.heap.size + 1, 0, none⟩) 0 0]) (by simp [results, Tryz.results99, go_sem, p0, p1, p2, p3]) rfl ?_
  exact ⟨_, rfl, Wf_grown (grownBy_set (W0_grown w (c.toNat : Int) b) _ _) _ _ _ _, ⟨a, d, ha, (G.setBad true).same (Wf_heap _ _ _ _ _ _ _ nb)⟩, ⟨_, _, _, _, _, _, rfl⟩⟩
end Go.Proofs.YtjfhncfbejephaaGreatDoor
