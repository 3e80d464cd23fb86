import Derived.Test.YtcabmcpalgpfpaaGreatPtB
import Derived.Test.YtcabmcpalgpfpaaGreatMTx
import Derived.Test.YtcabmcpalgpfpaaGreatMDp
import Derived.Test.YtcabmcpalgpfpaaGreatMCl
import Derived.Test.YtcabmcpalgpfpaaGreatMSc
/- What Put comes to; the program's writeTerm. -/
namespace Go.Proofs.YtcabmcpalgpfpaaGreat
open Go.RowKit
open Ff
set_option linter.unusedVariables false

/-- Does a term fit, by its text? -/
def fitsT (t : Tm) : Bool := decide ((textN t).length ≤ 120) && decide (t.depth ≤ 24)
set_option maxRecDepth 100000 in
set_option maxHeartbeats 1000000 in
theorem writeTerm_c (t : Tm) (w : World) (hd : t.depth ≤ 4000) (hp : (parts t).length ≤ 300000) (hg : t.good) :
    Calls Tryz.prog 46 #[.iface (ty t) (pl t)] w fun e w' => e = .returned (.tuple #[.string ⟨(if fitsT t = true then textN t else []).toArray⟩, .bool (fitsT t)]) ∧ Below w.heap.size w w' := by
  have hl := text_len t
  have KT := text_c t.depth t (Nat.le_refl _) hg hp
  have KD := fun w' => depth_c 4000 t hd (Nat.le_refl _) w'
  rw [enc_ty] at KD
  obtain ⟨X, hX⟩ : ∃ X, X = (if fitsT t = true then textN t else []) := ⟨_, rfl⟩
  obtain ⟨F, hF⟩ : ∃ F, F = fitsT t := ⟨_, rfl⟩
  rw [← hX, ← hF]
  by_cases h1 : (textN t).length ≤ 120
  · have h1i : ¬ (120 < ((textN t).length : Int)) := by omega
    by_cases h2 : t.depth ≤ 24
    · have h2i : ¬ (24 < (t.depth : Int)) := by omega
      have E := Lib.hid (show X = textN t ∧ F = true by rw [hX, hF]; simp [fitsT, h1, h2])
      clear h1 h2 hX hF
      go_enter Tryz.func46, Tryz.ntmps46
      go_wp2_with (first | (refine wpList_invoke rfl _ _ (ty t) (pl t) rfl rfl (tf t) (text_m t _ (by unfold TextName; kernel_rfl) _) (text_f t _) (fun rv w' => rv = .string ⟨(textN t).toArray⟩ ∧ Below w.heap.size w w') ((KT _).mono fun e w' ⟨h1, h2⟩ => ⟨_, h1, rfl, h2⟩) ?_; rintro rv w2 ⟨rfl, hb2⟩) | (go_at_call 51; refine (KD _).mono ?_; clear KD; rintro e w3 ⟨rfl, hb3⟩))
      go_ret2
      rw [E.out.1, E.out.2]
      exact ⟨rfl, hb2.trans (hb3.mono hb2.size)⟩
    · have h2i : 24 < (t.depth : Int) := by omega
      have E := Lib.hid (show X = [] ∧ F = false by rw [hX, hF]; simp [fitsT, h2])
      clear h1 h2 hX hF
      go_enter Tryz.func46, Tryz.ntmps46
      go_wp2_with (first | (refine wpList_invoke rfl _ _ (ty t) (pl t) rfl rfl (tf t) (text_m t _ (by unfold TextName; kernel_rfl) _) (text_f t _) (fun rv w' => rv = .string ⟨(textN t).toArray⟩ ∧ Below w.heap.size w w') ((KT _).mono fun e w' ⟨h1, h2⟩ => ⟨_, h1, rfl, h2⟩) ?_; rintro rv w2 ⟨rfl, hb2⟩) | (go_at_call 51; refine (KD _).mono ?_; clear KD; rintro e w3 ⟨rfl, hb3⟩))
      go_ret2
      rw [E.out.1, E.out.2]
      exact ⟨rfl, hb2.trans (hb3.mono hb2.size)⟩
  · have h1i : 120 < ((textN t).length : Int) := by omega
    have E := Lib.hid (show X = [] ∧ F = false by rw [hX, hF]; simp [fitsT, h1])
    clear h1 hX hF
    go_enter Tryz.func46, Tryz.ntmps46
    go_wp2_with (refine wpList_invoke rfl _ _ (ty t) (pl t) rfl rfl (tf t) (text_m t _ (by unfold TextName; kernel_rfl) _) (text_f t _) (fun rv w' => rv = .string ⟨(textN t).toArray⟩ ∧ Below w.heap.size w w') ((KT _).mono fun e w' ⟨h1, h2⟩ => ⟨_, h1, rfl, h2⟩) ?_; rintro rv w2 ⟨rfl, hb2⟩)
    go_ret2
    rw [E.out.1, E.out.2]
    exact ⟨rfl, hb2⟩
/-- What Put comes to. -/
def putO (s n s2 : Text) : Option Tm := (readS s).bind fun t => (readS s2).bind fun u => (nameOf n).bind fun x =>
  if (subS t.depth x u t).2 = true ∧ fitsT (subS t.depth x u t).1 = true then some (subS t.depth x u t).1 else none
def textO : Option Tm → Text
  | some t => textN t
  | none => []
theorem read_facts {s : Text} {t : Tm} (h : readS s = some t) : t.good ∧ t.depth ≤ 24 ∧ (parts t).length ≤ 120 := by
  obtain ⟨r, h1, _, _⟩ := readS_some h
  exact ⟨readS_good h, parse_depth _ _ _ _ h1, readS_parts h⟩
end Go.Proofs.YtcabmcpalgpfpaaGreat
