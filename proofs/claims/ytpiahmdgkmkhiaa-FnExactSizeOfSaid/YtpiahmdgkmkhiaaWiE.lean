/- The model's reader of a text: what stands behind the first byte of a term: a call. -/
import Derived.Test.YtpiahmdgkmkhiaaWiA
namespace Go.Proofs.Ytpiahmdgkmkhiaa
open Go.RowKit
open Ff
set_option linter.unusedVariables false

theorem Fr.set3 {h : Nat} {x0 x1 x2 x3 : Value} {W : World} (f : Fr h x0 x1 x2 x3 W) (y : Value) : Fr h x0 x1 x2 y (W.setCell ⟨h + 1 + 1, 3, none⟩ y) := by
  constructor <;> first | (rw [World.frozen?_setCell]; first | exact f.q0 | exact f.q1 | exact f.q2 | exact f.q3 | exact f.z0 | exact f.z1 | exact f.z2 | exact f.z3) | exact World.cell?_setCell_same _ _ _ f.y3 | (rw [World.cell?_setCell_other _ _ _ _ (by simp)]; first | exact f.p0 | exact f.p1 | exact f.p2 | exact f.p3 | exact f.y0 | exact f.y1 | exact f.y2) | (have := f.sz; simpa [World.setCell] using this)
theorem pApp_kids (m : Nat) (r : Text) : pApp (parse m) r = (kidsN m 2 (some r)).bind fun x => (next1 x.2).bind fun z => if z.1.toNat = 41 then some (mk2 Tm.app x.1, z.2) else none := by
  simp only [pApp, kidsN, Option.map_some, Option.bind_some]
  rcases parse m r with _ | ⟨a, r1⟩
  · simp
  · simp only [Option.bind_some, List.nil_append]
    rcases parse m r1 with _ | ⟨b, r2⟩ <;> simp [mk2]
set_option maxRecDepth 100000 in
set_option maxHeartbeats 4000000 in
theorem within_40 (m : Nat) (ih : TermS m) (ib : TermBad) (b : Nat) (T r : Text) (w : World) (h : Good b T r (24 - (m : Int)) w) (hl : T.length ≤ 1000) :
    Calls Try.prog 80 #[.pointer (some ⟨b, 0, none⟩), .int .u8 40] w (TermPostS b T (24 - (m : Int)) w (pApp (parse m) r)) := by
  have hbw : b < w.heap.size := Start.lt (s := some r) h
  have GG : Good b T r (24 - (m : Int)) (W0 w 40) := ((h.alloc _).alloc _).alloc _
  have G0 : Start b T (24 - (m : Int)) (W0 w 40) (some r) := GG
  have k4 : (W0 w 40).cell? ⟨b, 4, none⟩ = some (.bool false) := by obtain ⟨_, _, _, hs⟩ := GG; exact hs.c4
  have k5 : (W0 w 40).cell? ⟨b, 5, none⟩ = some (.bool false) := by obtain ⟨_, _, _, hs⟩ := GG; exact hs.c5
  unfold W0 at k4 k5
  go_enter Try.func80, Try.ntmps80
  go_wp2_with (first | (go_at_call 79; refine (l1In_c _ _ _ _).mono ?_; rintro e w' ⟨rfl, rfl⟩) | (go_at_call 66; refine (l1Letter_i _ (by omega) (by omega) _).mono ?_; rintro e w' ⟨rfl, rfl⟩))
  refine (skids_c m 2 (by omega) ih ib b T (some r) _ G0 hl).mono ?_
  rintro e w1 ⟨v, rfl, hK, hg1⟩
  obtain ⟨g, cap, rfl⟩ := kids_shape hK
  have F1 := (W0_fr w 40).keep hg1 hbw
  have F2 := F1.set3 (.slice (some ⟨g, 0, none⟩) 2 cap)
  have hsz1 := hg1.size
  rw [W0_size] at hsz1
  have hgw : w.grownBy (w1.setCell ⟨w.heap.size + 1 + 1, 3, none⟩ (.slice (some ⟨g, 0, none⟩) 2 cap)) (some b) := grown_setNew (grownBy_trans (W0_grown w 40 b) hg1) (by simp; omega) _
  clear k4 k5
  obtain ⟨xs, hown, _, ⟨ts, r2, hk, ⟨a, ha, hd, hsr⟩, hlen, hrep⟩ | ⟨hk, a, d, ha, hsr⟩⟩ := hK
  · have hs2 := hsr.setFar (p := ⟨w.heap.size + 1 + 1, 3, none⟩) (by simp; omega) (.slice (some ⟨g, 0, none⟩) 2 cap)
    have HK := Lib.hid hk
    have HL := Lib.hid hlen
    have HD := Lib.hid hd
    clear hk hlen hd
    obtain ⟨c0, c1, c2, c3, c4, c5, f1, f2, f3⟩ := id hs2
    obtain ⟨p0, p1, p2, p3, q0, q1, q2, q3, y0, y1, y2, y3, z0, z1, z2, z3, sz⟩ := id F1
    have C := snext_c b T a false _ _ hs2 ha hl
    have e2 := c2
    rw [World.cell?_setCell_other _ _ _ _ (by simp)] at e2
    go_wp2_with fail
    refine C.mono ?_
    rintro e w2 ⟨z, a', bad', rfl, hsp, ha', hwhy⟩
    clear c0 c1 c2 c3 c4 c5 f1 f2 f3 p0 p1 p2 p3 q0 q1 q2 q3 y0 y1 y2 y3 z0 z1 z2 z3 sz e2 C
    obtain ⟨p0, p1, p2, p3, q0, q1, q2, q3, y0, y1, y2, y3, z0, z1, z2, z3, sz⟩ := F2.keep hsp.rest hbw
    obtain ⟨c0, c1, c2, c3, c4, c5, f1, f2, f3⟩ := id hsp.sr
    have hsz2 := hsp.rest.size
    have z1s : (w1.setCell ⟨w.heap.size + 1 + 1, 3, none⟩ (.slice (some ⟨g, 0, none⟩) 2 cap)).heap.size = w1.heap.size := by simp [World.setCell]
    rw [z1s] at hsz2
    clear z1s
    have hgf : w.grownBy w2 (some b) := grownBy_trans hgw hsp.rest
    rcases hwhy with ⟨hc, rfl, rfl⟩ | ⟨rfl, rfl, rfl, rfl⟩
    · by_cases hz : z.toNat = 41
      · have hq : ((z.toNat : Int) != 41) = false := by rw [hz]; rfl
        have HZ := Lib.hid hz
        have HC := Lib.hid hc
        clear hz hc
        go_wp2_with fail
        refine bodyPost_ret (v := .agg #[.int .u8 40, .int .i64 0, .string ⟨#[]⟩, .slice (some ⟨g, 0, none⟩) 2 cap]) (by simp [results, Try.results80, go_sem, p0, p1, p2, p3]) rfl ?_
        have E : pApp (parse m) r = some (mk2 Tm.app ts, T.drop (a + 1)) := by
          rw [pApp_kids, HK.out]
          simp only [Option.bind_some]
          rw [← HD.out, drop_head HC.out]
          simp [next1, HZ.out]
        rw [E]
        refine ⟨_, rfl, Wf_grown (grownBy_set hgf _ _) _ _ _ _, ⟨a + 1, ha', rfl, (hsp.sr.setBad false).same (Wf_heap _ _ _ _ _ _ _ (by omega))⟩, ?_⟩
        obtain ⟨s1, s2, rfl⟩ := of2 HL.out
        exact rep_kids hown HL.out (by omega) hrep (by rw [W0_size]; omega) (by simp [World.setCell]; omega) (fun g' h1 h2 => by
          rw [W0_size] at h1
          exact (Wf_heap _ _ _ _ _ _ _ (by omega)).trans ((Below.heap_setCell _ _ _ _ (by simp; omega)).trans ((hsp.rest.block g' (by simp [World.setCell]; omega) (by simp; omega)).trans (Below.heap_setCell _ _ _ _ (by simp; omega))))) (mk2 Tm.app [s1, s2]) rfl
      · have hq : ((z.toNat : Int) != 41) = true := by rw [bne_iff_ne]; omega
        have HZ := Lib.hid hz
        have HC := Lib.hid hc
        clear hz hc
        go_wp2_with fail
        refine bodyPost_ret (v := .agg #[.int .u8 40, .int .i64 0, .string ⟨#[]⟩, .slice (some ⟨g, 0, none⟩) 2 cap]) (by simp [results, Try.results80, go_sem, p0, p1, p2, p3]) rfl ?_
        have E : pApp (parse m) r = none := by
          rw [pApp_kids, HK.out]
          simp only [Option.bind_some]
          rw [← HD.out, drop_head HC.out]
          simp [next1, HZ.out]
        rw [E]
        exact ⟨_, rfl, Wf_grown (grownBy_set hgf _ _) _ _ _ _, ⟨a + 1, _, ha', (hsp.sr.setBad true).same (Wf_heap _ _ _ _ _ _ _ (by omega))⟩, ⟨_, _, _, _, _, _, rfl⟩⟩
    · have hq : ((((0 : UInt8).toNat : Nat) : Int) != 41) = true := rfl
      go_wp2_with fail
      refine bodyPost_ret (v := .agg #[.int .u8 40, .int .i64 0, .string ⟨#[]⟩, .slice (some ⟨g, 0, none⟩) 2 cap]) (by simp [results, Try.results80, go_sem, p0, p1, p2, p3]) rfl ?_
      have E : pApp (parse m) r = none := by
        rw [pApp_kids, HK.out]
        simp only [Option.bind_some]
        rw [← HD.out]
        simp [next1]
      rw [E]
      exact ⟨_, rfl, Wf_grown (grownBy_set hgf _ _) _ _ _ _, ⟨_, _, ha', (hsp.sr.setBad true).same (Wf_heap _ _ _ _ _ _ _ (by omega))⟩, ⟨_, _, _, _, _, _, rfl⟩⟩
  · have hs2 := hsr.setFar (p := ⟨w.heap.size + 1 + 1, 3, none⟩) (by simp; omega) (.slice (some ⟨g, 0, none⟩) 2 cap)
    have HK := Lib.hid hk
    clear hk
    obtain ⟨c0, c1, c2, c3, c4, c5, f1, f2, f3⟩ := id hsr
    obtain ⟨p0, p1, p2, p3, q0, q1, q2, q3, y0, y1, y2, y3, z0, z1, z2, z3, sz⟩ := id F1
    have nb : ¬ b = w.heap.size + 1 + 1 := by omega
    go_wp2_with fail
    refine bodyPost_ret (v := .agg #[.int .u8 40, .int .i64 0, .string ⟨#[]⟩, .slice (some ⟨g, 0, none⟩) 2 cap]) (by simp [results, Try.results80, go_sem, p0, p1, p2, p3]) rfl ?_
    rw [pApp_kids, HK.out]
    exact ⟨_, rfl, Wf_grown (grownBy_set hgw _ _) _ _ _ _, ⟨a, d, ha, (hs2.setBad true).same (Wf_heap _ _ _ _ _ _ _ (by omega))⟩, ⟨_, _, _, _, _, _, rfl⟩⟩
end Go.Proofs.Ytpiahmdgkmkhiaa
