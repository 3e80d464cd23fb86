import Derived.Test.YtcabmcpalgpfpaaGreatDoorMTm
import Derived.Test.YtcabmcpalgpfpaaGreatDoorMDe
import Derived.Test.YtcabmcpalgpfpaaGreatDoorMCl
/- Laws over drawn terms: what they share; FnClosed. -/
namespace Go.Proofs.YtcabmcpalgpfpaaGreatDoor
open Go.RowKit
open Ff
set_option linter.unusedVariables false

theorem next {w w1 w2 : World} (h : Below w.heap.size w w1) (k : Below w1.heap.size w1 w2) : Below w.heap.size w w2 := h.trans (k.mono h.size)
theorem fn_split {s : Text} {X : Tm} {c : UInt8} (h : readS (92 :: c :: s) = some X) : ∃ b, readS s = some b ∧ X = .fn c b := by
  obtain ⟨_, _, _, hl⟩ := readS_some h
  obtain ⟨c1, r, b, h1, h2, rfl⟩ := fn_parts h
  simp only [name1] at h1
  split at h1
  · simp only [Option.some.injEq, Prod.mk.injEq] at h1
    obtain ⟨rfl, rfl⟩ := h1
    exact ⟨b, readS_of h2 (by omega) (by simp at hl; omega), rfl⟩
  · simp at h1
theorem over_read (cs : Text) : ∀ (s : Text) (X : Tm), readS (overS s cs) = some X → ∃ T, readS s = some T ∧ X = overT T cs := by
  induction cs with
  | nil => exact fun s X h => ⟨X, h, rfl⟩
  | cons c cs ih =>
    intro s X h
    obtain ⟨T, h1, rfl⟩ := ih _ _ h
    obtain ⟨b, h2, rfl⟩ := fn_split h1
    exact ⟨b, h2, rfl⟩
theorem over_free (cs : Text) : ∀ (T : Tm) (x : UInt8), x ∈ sfree (overT T cs) ↔ x ∈ sfree T ∧ x ∉ cs := by
  induction cs with
  | nil => intro T x; simp [overT]
  | cons c cs ih =>
    intro T x
    show x ∈ sfree (overT (.fn c T) cs) ↔ _
    rw [ih, sfree, mem_less]
    simp only [List.mem_cons, List.not_mem_nil, or_false, not_or, and_assoc]
theorem over_closed (T : Tm) : sfree (overT T (sfree T)) = [] := by
  rw [List.eq_nil_iff_forall_not_mem]
  intro x hx
  have := (over_free _ _ _).1 hx
  exact this.2 this.1
theorem over_parts (cs : Text) : ∀ (T : Tm), (parts (overT T cs)).length = (parts T).length + cs.length := by
  induction cs with
  | nil => intro T; rfl
  | cons c cs ih => intro T; show (parts (overT (.fn c T) cs)).length = _; rw [ih]; simp only [parts, List.length_cons]; omega
theorem overS_len (cs : Text) : ∀ s : Text, (overS s cs).length = s.length + 2 * cs.length := by
  induction cs with
  | nil => intro s; rfl
  | cons c cs ih => intro s; show (overS (92 :: c :: s) cs).length = _; rw [ih]; simp only [List.length_cons]; omega

/-! The program's and the model's functions, by the model's reading. -/
theorem kValid (s : Text) (hs : s.length ≤ 100000) (w : World) : Calls Tryz.prog 8 #[.string ⟨s.toArray⟩] w fun e w' => e = .returned (.bool (readS s).isSome) ∧ Below w.heap.size w w' := by rw [readS_eq]; exact iTermValid_c s w (by omega)
theorem kFree (s : Text) (hs : s.length ≤ 100000) (w : World) : Calls Tryz.prog 12 #[.string ⟨s.toArray⟩] w fun e w' => e = .returned (txtP sfree (readS s)) ∧ Below w.heap.size w w' := by rw [readS_eq]; exact iFreeOf_c s w (by omega)
theorem one_eq (d c : UInt8) : ([d] == (⟨([c] : Text).toArray⟩ : ByteArray).toList) = decide (d = c) := by
  have e : (⟨([c] : Text).toArray⟩ : ByteArray).toList = [c] := by
    rw [ByteArray.toList_eq]
  rw [e]
  by_cases h : d = c
  · subst h; simp
  · simp [h]
set_option maxRecDepth 100000 in
set_option maxHeartbeats 1000000 in
theorem has_c (s : Text) (c : UInt8) (w : World) (hl : s.length ≤ 100000) :
    Calls Tryz.prog 30 #[.string ⟨s.toArray⟩, .string ⟨([c] : Text).toArray⟩] w fun e w' => e = .returned (.bool (decide (c ∈ s))) ∧ w' = w := by
  obtain ⟨N, hN⟩ : ∃ N : ByteArray, (⟨([c] : Text).toArray⟩ : ByteArray) = N := ⟨_, rfl⟩
  have hq : ∀ d, ([d] == N.toList) = decide (d = c) := fun d => by rw [← hN]; exact one_eq d c
  rw [hN]
  clear hN
  go_enter Tryz.func30, Tryz.ntmps30
  go_wp2_with fail
  go_loopw [8] (fun i wr => ∃ (k : Nat), k ≤ s.length ∧ i = .int .i64 k ∧ c ∉ s.take k ∧ wr = w) (fun i _ => s.length - (intOf i).toNat)
  case atStart => exact ⟨0, Nat.zero_le _, rfl, by simp, rfl⟩
  case round =>
    obtain ⟨k, hk, rfl, hn, rfl⟩ := hrel
    have HN := Lib.hid hn
    clear hn
    by_cases hlt : k < s.length
    · obtain ⟨d, hd⟩ : ∃ d, s[k]? = some d := ⟨_, List.getElem?_eq_getElem hlt⟩
      have hx := extract_one s k d hd
      have hq1 := hq d
      have HD := Lib.hid hd
      clear hd hq
      by_cases hc : d = c
      · rw [decide_eq_true hc] at hq1
        have HC := Lib.hid hc
        clear hc
        go_wp2_with fail
        go_ret
        have hm : c ∈ s := by rw [← HC.out]; exact List.mem_of_getElem? HD.out
        exact ⟨by simp [hm], rfl⟩
      · rw [decide_eq_false hc] at hq1
        have HC := Lib.hid hc
        clear hc
        go_wp2_with fail
        refine ⟨⟨k + 1, by omega, by go_num, ?_, trivial⟩, by simp [intOf]; omega⟩
        rw [List.take_add_one, HD.out]
        simp only [Option.toList_some, List.mem_append, List.mem_singleton, not_or]
        exact ⟨HN.out, fun h => HC.out h.symm⟩
    · obtain rfl : k = s.length := by omega
      have hk2 : s.take s.length = s := List.take_of_length_le (Nat.le_refl _)
      rw [hk2] at HN
      go_wp2_with fail
      go_ret
      have := HN.out
      exact ⟨by simp [this], rfl⟩
attribute [local irreducible] Calls
end Go.Proofs.YtcabmcpalgpfpaaGreatDoor
