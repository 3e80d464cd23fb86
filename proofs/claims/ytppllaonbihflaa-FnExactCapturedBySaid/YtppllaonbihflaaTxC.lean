/- The text of a term: the program's and the specification's. -/
import Derived.Test.YtppllaonbihflaaTxB
import Derived.Test.YtppllaonbihflaaCtA
namespace Go.Proofs.Ytppllaonbihflaa
open Go.RowKit
open Ff
set_option linter.unusedVariables false

theorem text_c : ∀ (n : Nat) (t : Tm), t.depth ≤ n → t.good → (parts t).length ≤ 300000 → ∀ w, Calls Try.prog (tf t) #[pl t] w fun e w' => e = .returned (.string ⟨(textN t).toArray⟩) ∧ Below w.heap.size w w'
  | 0 => fun t ht => absurd ht (by have := t.depth_pos; omega)
  | n + 1 => by
    intro t ht hgd hp w
    have ih := text_c n
    have hd : ∀ s ∈ t.kids, s.depth ≤ n := fun s hs => by have := kid_depth hs; omega
    have hgk : ∀ s ∈ t.kids, s.good := fun s hs => Tm.kid_good hgd hs
    have hpk : ∀ s ∈ t.kids, (parts s).length ≤ 300000 := fun s hs => Nat.le_trans (parts_kid_le hs) hp
    cases t with
    | num m => exact text_num m hgd w
    | var c => exact text_var c (nam_letter hgd) w
    | fn c b => 
      have k := text_fn n ih c b (hd b (by simp [Tm.kids])) (hgk b (by simp [Tm.kids])) (hpk b (by simp [Tm.kids])) (nam_letter hgd.1) w
      rw [← enc_ty b] at k
      exact k
    | fix f c b =>
      have hf : ((f.toNat : Int) == 0) = false := by
        have := hgd.1
        simp only [isNam, Bool.and_eq_true, decide_eq_true_eq] at this
        simp; omega
      have k := text_fix n ih f c b (hd b (by simp [Tm.kids])) (hgk b (by simp [Tm.kids])) (hpk b (by simp [Tm.kids])) (nam_letter hgd.1) (nam_letter hgd.2.1) hf w
      rw [← enc_ty b] at k
      exact k
    | app f a =>
      have k := text_app n ih f a (hd f (by simp [Tm.kids])) (hgk f (by simp [Tm.kids])) (hpk f (by simp [Tm.kids])) (hd a (by simp [Tm.kids])) (hgk a (by simp [Tm.kids])) (hpk a (by simp [Tm.kids])) w
      rw [← enc_ty f, ← enc_ty a] at k
      exact k
    | bind c x b =>
      have k := text_bind n ih c x b (hd x (by simp [Tm.kids])) (hgk x (by simp [Tm.kids])) (hpk x (by simp [Tm.kids])) (hd b (by simp [Tm.kids])) (hgk b (by simp [Tm.kids])) (hpk b (by simp [Tm.kids])) (nam_letter hgd.1) w
      rw [← enc_ty x, ← enc_ty b] at k
      exact k
    | op o l r =>
      have k := text_op n ih o l r (hd l (by simp [Tm.kids])) (hgk l (by simp [Tm.kids])) (hpk l (by simp [Tm.kids])) (hd r (by simp [Tm.kids])) (hgk r (by simp [Tm.kids])) (hpk r (by simp [Tm.kids])) hgd.1 w
      rw [← enc_ty l, ← enc_ty r] at k
      exact k
    | sel a b c =>
      have k := text_sel n ih a b c (hd a (by simp [Tm.kids])) (hgk a (by simp [Tm.kids])) (hpk a (by simp [Tm.kids])) (hd b (by simp [Tm.kids])) (hgk b (by simp [Tm.kids])) (hpk b (by simp [Tm.kids])) (hd c (by simp [Tm.kids])) (hgk c (by simp [Tm.kids])) (hpk c (by simp [Tm.kids])) w
      rw [← enc_ty a, ← enc_ty b, ← enc_ty c] at k
      exact k

/-- A string of one byte that was reckoned. -/
theorem strZ {z : Int} {d : UInt8} (hz : z = (d.toNat : Int)) (W : World) : (convert 48 9 (.slice (some ⟨W.heap.size, 0, none⟩) 1 1)).run Try.prog (W.alloc (.cells #[.int .u8 z] 5)) = .ok (.string ⟨#[d]⟩) (W.alloc (.cells #[.int .u8 z] 5)) := by
  subst hz
  exact str1 _ d _ (cell_new_at _ _ _ _ rfl)
theorem byte_of {n : Nat} (h : n < 208) : ((48 : Int) + n) = ((UInt8.ofNat (48 + n)).toNat : Int) := by
  rw [UInt8.toNat_ofNat']
  omega
set_option maxRecDepth 100000 in
set_option maxHeartbeats 1000000 in
theorem dec_c (n : Nat) (hn : n < 100) (w : World) :
    Calls Try.prog 63 #[.int .i64 (n : Int)] w fun e w' => e = .returned (.string ⟨(decN n).toArray⟩) ∧ Below w.heap.size w w' := by
  have a1 : ¬ ((n : Int) < -9223372036854775807) := by omega
  have a2 : ¬ ((n : Int) < 0) := by omega
  by_cases h : n < 10
  · have h2 : ¬ (9 < (n : Int)) := by omega
    have e : decN n = [UInt8.ofNat (48 + n)] := by simp [decN, h]
    have k1 := strZ (byte_of (n := n) (by omega)) w
    rw [e]
    clear e
    go_enter Try.func63, Try.ntmps63
    go_wp2_with fail
    refine wp_loop_rounds 1 ?_
    rw [rounds_succ]
    go_wp2_with fail
    go_ret
    exact ⟨congrArg (fun s => Ending.returned (Value.string s)) (by apply ba_ext; simp [ByteArray.data_append]), (Below.refl _ w).alloc (Nat.le_refl _) _⟩
  · have h2 : (9 < (n : Int)) := by omega
    have e : decN n = [UInt8.ofNat (48 + n / 10), UInt8.ofNat (48 + n % 10)] := by simp [decN, h]
    have k1 := strZ (z := 48 + (n : Int) % 10) (d := UInt8.ofNat (48 + n % 10)) (by rw [← byte_of (n := n % 10) (by omega)]; omega) w
    have k2 := strZ (z := 48 + (n : Int) / 10) (d := UInt8.ofNat (48 + n / 10)) (by rw [← byte_of (n := n / 10) (by omega)]; omega) (w.alloc (.cells #[.int .u8 (48 + (n : Int) % 10)] 5))
    rw [World.size_alloc] at k2
    have h3 : (n : Int) / 10 ≤ 9 := by omega
    rw [e]
    clear e
    go_enter Try.func63, Try.ntmps63
    go_wp2_with fail
    refine wp_loop_rounds 2 ?_
    rw [rounds_succ]
    go_wp2_with fail
    rw [rounds_succ]
    go_wp2_with fail
    go_ret
    exact ⟨congrArg (fun s => Ending.returned (Value.string s)) (by apply ba_ext; simp [ByteArray.data_append]), ((Below.refl _ w).alloc (Nat.le_refl _) _).alloc (by simp) _⟩
theorem sdec_c (n : Nat) (hn : n ≤ 99) (w : World) :
    Calls Try.prog 62 #[.int .i64 (n : Int)] w fun e w' => e = .returned (.string ⟨(numN n).toArray⟩) ∧ Below w.heap.size w w' := by
  have hl := dec_len n
  have C := dec_c n (by omega) w
  by_cases h : n < 10
  · have h2 : ¬ (9 < (n : Int)) := by omega
    have e : numN n = decN n := by simp [numN, h]
    rw [e]
    clear e
    go_enter Try.func62, Try.ntmps62
    go_wp2_with (go_at_call 63; refine C.mono ?_; rintro e w2 ⟨rfl, hb⟩)
    go_ret
    exact ⟨rfl, hb⟩
  · have h2 : (9 < (n : Int)) := by omega
    have e : numN n = 35 :: decN n := by simp [numN, h]
    rw [e]
    clear e
    go_enter Try.func62, Try.ntmps62
    go_wp2_with (go_at_call 63; refine C.mono ?_; rintro e w2 ⟨rfl, hb⟩)
    go_ret
    exact ⟨congrArg (fun s => Ending.returned (Value.string s)) (str_app2 [35] (decN n)), hb⟩
end Go.Proofs.Ytppllaonbihflaa
