import Derived.Test.YtcabmcpalgpfpaaGreatLaP
import Derived.Test.YtcabmcpalgpfpaaGreatUh
import Derived.Test.YtcabmcpalgpfpaaGreatMNf
import Derived.Test.YtcabmcpalgpfpaaGreatMNu
/- Laws over drawn terms: DrawSameTerm; FnAround. -/
namespace Go.Proofs.YtcabmcpalgpfpaaGreat
open Go.RowKit
open Ff
set_option linter.unusedVariables false
attribute [local irreducible] Calls

theorem unq_short (s : Text) : (textO (unqO s)).length ≤ 5000 := by
  rcases hr : readS s with _ | t
  · have hO : unqO s = none := by unfold unqO; rw [hr]; rfl
    rw [hO]; simp [textO]
  · obtain ⟨hO, hA⟩ := unqO_facts hr
    obtain ⟨tg, td, tp⟩ := read_facts hr
    rw [hO]
    rcases ho : unqT 24 id (sfree t) t with _ | r
    · simp [textO]
    · have A := hA r ho
      have := text_len r.1
      rw [A.many] at this
      show (textN r.1).length ≤ 5000
      omega
set_option maxHeartbeats 2000000 in
theorem drawSame_c (a : Option Addr) (l c : Nat) (w : World) (h : Src w a l c) :
    Calls Tryz.prog 12 #[.slice a l c] w fun e w' => ∃ s u : Text, e = .returned (.tuple #[.string ⟨s.toArray⟩, .string ⟨u.toArray⟩]) ∧ s.length ≤ 5000 ∧ u.length ≤ 5000 ∧ Below w.heap.size w w' := by
  go_enter Tryz.func12, Tryz.ntmps12
  go_wp2_with fail
  refine (open_c a l c w h).mono ?_; rintro e w1 ⟨l', rfl, hD⟩
  go_wp2_with fail
  refine (some_c hD (by omega)).mono ?_; rintro e w2 ⟨s, p2, rfl, hs, hp2, hD2⟩
  go_wp2_with fail
  refine (pick_g hD2 _ (by omega) (by omega) (by omega)).mono ?_; rintro e w3 ⟨k1, rfl, hk1, hD3⟩
  go_wp2_with fail
  · have K := sUnq_c s w3 (by omega)
    have hz := unq_short s
    generalize textO (unqO s) = u at *
    refine K.mono ?_; rintro e w4 ⟨rfl, hb4⟩
    go_wp2_with fail
    refine bodyPost_ret (v := .tuple #[.string ⟨s.toArray⟩, .string ⟨u.toArray⟩]) (by simp [results, Tryz.results12, go_sem]) rfl ?_
    exact ⟨s, u, rfl, hs, hz, next hD3.below hb4⟩
  · refine (some_c hD3 (by omega)).mono ?_; rintro e w4 ⟨u, p4, rfl, hu, hp4, hD4⟩
    go_wp2_with fail
    refine bodyPost_ret (v := .tuple #[.string ⟨s.toArray⟩, .string ⟨u.toArray⟩]) (by simp [results, Tryz.results12, go_sem]) rfl ?_
    exact ⟨s, u, rfl, hs, hu, hD4.below⟩
theorem str_cells {W : World} {B : Nat} {cs : List Value} {t : TypeId} (h : W.heap[B]? = some (.cells cs.toArray t (0, 0))) : ∀ j u, cs[j]? = some u → W.cell? ⟨B, j, none⟩ = some u := fun j u hu => by
  simp [World.cell?, h, hu]
end Go.Proofs.YtcabmcpalgpfpaaGreat
