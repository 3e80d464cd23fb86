import Derived.Test.YtefmmgccdpfnaaaGreatDoorMTm
import Derived.Test.YtefmmgccdpfnaaaGreatDoorMDe
import Derived.Test.YtefmmgccdpfnaaaGreatDoorMCl
/- Laws over drawn terms: what they share; FnClosed. -/
namespace Go.Proofs.YtefmmgccdpfnaaaGreatDoor
open Go.RowKit
open Ff
set_option linter.unusedVariables false

theorem next {w w1 w2 : World} (h : Below w.heap.size w w1) (k : Below w1.heap.size w1 w2) : Below w.heap.size w w2 := h.trans (k.mono h.size)
theorem fn_split {s : Text} {X : Tm} {c : UInt8} (h : readS (92 :: c :: s) = some X) : ∃ b, readS s = some b ∧ X = .fn c b := by
  obtain ⟨_, _, _, hl⟩ := readS_some h
  obtain ⟨c1, r, b, h1, h2, rfl⟩ := fn_parts h
  simp only [name1] at h1
  split at h1
  · simp only [Option.some.injEq, Prod.mk.injEq] at h1
    obtain ⟨rfl, rfl⟩ := h1
    exact ⟨b, readS_of h2 (by omega) (by simp at hl; omega), rfl⟩
  · simp at h1
theorem over_read (cs : Text) : ∀ (s : Text) (X : Tm), readS (overS s cs) = some X → ∃ T, readS s = some T ∧ X = overT T cs := by
  induction cs with
  | nil => exact fun s X h => ⟨X, h, rfl⟩
  | cons c cs ih =>
    intro s X h
    obtain ⟨T, h1, rfl⟩ := ih _ _ h
    obtain ⟨b, h2, rfl⟩ := fn_split h1
    exact ⟨b, h2, rfl⟩
theorem over_free (cs : Text) : ∀ (T : Tm) (x : UInt8), x ∈ sfree (overT T cs) ↔ x ∈ sfree T ∧ x ∉ cs := by
  induction cs with
  | nil => intro T x; simp [overT]
  | cons c cs ih =>
    intro T x
    show x ∈ sfree (overT (.fn c T) cs) ↔ _
    rw [ih, sfree, mem_less]
    simp only [List.mem_cons, List.not_mem_nil, or_false, not_or, and_assoc]
theorem over_closed (T : Tm) : sfree (overT T (sfree T)) = [] := by
  rw [List.eq_nil_iff_forall_not_mem]
  intro x hx
  have := (over_free _ _ _).1 hx
  exact this.2 this.1
theorem over_parts (cs : Text) : ∀ (T : Tm), (parts (overT T cs)).length = (parts T).length + cs.length := by
  induction cs with
  | nil => intro T; rfl
  | cons c cs ih => intro T; show (parts (overT (.fn c T) cs)).length = _; rw [ih]; simp only [parts, List.length_cons]; omega
theorem overS_len (cs : Text) : ∀ s : Text, (overS s cs).length = s.length + 2 * cs.length := by
  induction cs with
  | nil => intro s; rfl
  | cons c cs ih => intro s; show (overS (92 :: c :: s) cs).length = _; rw [ih]; simp only [List.length_cons]; omega

/-! The program's and the model's functions, by the model's reading. -/
theorem kClosed (s : Text) (hs : s.length ≤ 100000) (w : World) : Calls Tryz.prog 15 #[.string ⟨s.toArray⟩] w fun e w' => e = .returned (.bool (closedB (readS s))) ∧ Below w.heap.size w w' := by rw [readS_eq]; exact iIsClosed_c s w (by omega)
theorem one_eq (d c : UInt8) : ([d] == (⟨([c] : Text).toArray⟩ : ByteArray).toList) = decide (d = c) := by
  have e : (⟨([c] : Text).toArray⟩ : ByteArray).toList = [c] := by
    rw [ByteArray.toList_eq]
  rw [e]
  by_cases h : d = c
  · subst h; simp
  · simp [h]
attribute [local irreducible] Calls
end Go.Proofs.YtefmmgccdpfnaaaGreatDoor

/- DrawTermValid; laws.ffWithin; FnTwoTerms. -/
namespace Go.Proofs.YtefmmgccdpfnaaaGreatDoor
open Go.RowKit
open Ff
set_option linter.unusedVariables false
attribute [local irreducible] Calls

theorem halves (S n : Nat) : S * n = (if n % 2 = 1 then S else 0) + (S + S) * (n / 2) := by
  have h : S * n = S * (2 * (n / 2) + n % 2) := by rw [Nat.div_add_mod]
  rw [h, Nat.mul_add, ← Nat.mul_assoc, Nat.mul_two]
  rcases Nat.mod_two_eq_zero_or_one n with h2 | h2 <;> simp [h2]; omega
set_option maxHeartbeats 1000000 in
theorem many_c (s : ByteArray) (n : Nat) (w : World) (h : s.size * n ≤ 4000) (hn : n ≤ 4000) :
    Calls Tryz.prog 53 #[.string s, .int .i64 n] w fun e w' => ∃ o : ByteArray, e = .returned (.string o) ∧ o.size ≤ 4000 ∧ w' = w := by
  go_enter Tryz.func53, Tryz.ntmps53
  go_wp2_with fail
  go_loopw [0, 1, 5] (fun v i o wr => ∃ (O S : ByteArray) (n : Nat), n ≤ 4000 ∧ v = .string S ∧ i = .int .i64 n ∧ o = .string O ∧ O.size + S.size * n ≤ 4000 ∧ wr = w) (fun _ i _ _ => (intOf i).toNat)
  case atStart => exact ⟨⟨#[]⟩, s, n, hn, rfl, rfl, rfl, by show 0 + _ ≤ _; omega, rfl⟩
  case round =>
    obtain ⟨O, S, n, hn, rfl, rfl, rfl, hs, rfl⟩ := hrel
    by_cases h0 : 0 < n
    · have h0i : 0 < (n : Int) := by omega
      have hS : S.size ≤ 4000 := by have := Nat.le_mul_of_pos_right S.size h0; omega
      have hO : O.size ≤ 4000 := by omega
      have q1 : ¬ 9223372036854775807 < O.size + S.size := by omega
      have q2 : ¬ 9223372036854775807 < S.size + S.size := by omega
      have hv := halves S.size n
      have HV := Lib.hid hv
      have HS := Lib.hid hs
      clear hv hs
      rcases Nat.mod_two_eq_zero_or_one n with hp | hp
      · have h1 : ((n : Int) % 2 == 1) = false := by rw [beq_eq_false_iff_ne]; omega
        have HP := Lib.hid hp
        clear hp
        go_wp2_with fail
        refine ⟨⟨O, S ++ S, n / 2, by omega, rfl, by congr 1, rfl, ?_, trivial⟩, by simp [intOf]; omega⟩
        have := HV.out; rw [HP.out] at this; have := HS.out; rw [ByteArray.size_append]; simp at *; omega
      · have h1 : ((n : Int) % 2 == 1) = true := by rw [beq_iff_eq]; omega
        have HP := Lib.hid hp
        clear hp
        go_wp2_with fail
        refine ⟨⟨O ++ S, S ++ S, n / 2, by omega, rfl, by congr 1, rfl, ?_, trivial⟩, by simp [intOf]; omega⟩
        have := HV.out; rw [HP.out] at this; have := HS.out; rw [ByteArray.size_append, ByteArray.size_append]; simp at *; omega
    · obtain rfl : n = 0 := by omega
      go_wp2_with fail
      go_ret
      exact ⟨O, rfl, by omega, rfl⟩
theorem many_g {b : Nat} {a : Option Addr} {l c p : Nat} {w0 w : World} (hD : DG b a l c w0 p w) (s : ByteArray) (n : Nat) (m : Int) (hm : m = n) (h : s.size * n ≤ 4000) (hn : n ≤ 4000) :
    Calls Tryz.prog 53 #[.string s, .int .i64 m] w fun e w' => ∃ o : ByteArray, e = .returned (.string o) ∧ o.size ≤ 4000 ∧ DG b a l c w0 p w' := by
  subst hm
  exact (many_c s n w h hn).mono fun e w' ⟨o, he, ho, hw⟩ => ⟨o, he, ho, by rw [hw]; exact hD⟩

/-- A row of texts; a row of numbers. -/
theorem row_at (w : World) (vs : List Value) (t : TypeId) (j : Nat) : (w.alloc (.cells vs.toArray t)).cell? ⟨w.heap.size, j, none⟩ = vs[j]? := by
  show (match (w.heap.push _)[w.heap.size]? with | some (.cells c _ _) => if (none : Option Nat).isSome then none else c[j]? | _ => none) = _
  simp
set_option maxHeartbeats 1000000 in
theorem of_v {b : Nat} {a : Option Addr} {l c p : Nat} {w0 w : World} (h : DG b a l c w0 p w) (vs : List ByteArray) (t : TypeId) (hp : p ≤ 1000000) (hn : 1 ≤ vs.length) (hn2 : vs.length ≤ 1000000) :
    Calls Tryz.prog 93 #[.pointer (some ⟨b, 0, none⟩), .slice (some ⟨w.heap.size, 0, none⟩) vs.length vs.length] (w.alloc (.cells (vs.map Value.string).toArray t)) fun e w' => ∃ s : ByteArray, s ∈ vs ∧ e = .returned (.string s) ∧ DG b a l c w0 (p + 1) w' := by
  have hr : ∀ j v, vs[j]? = some v → (w.alloc (.cells (vs.map Value.string).toArray t)).cell? ⟨w.heap.size, j, none⟩ = some (.string v) := fun j v hj => by rw [row_at, List.getElem?_map, hj]; rfl
  have hA : DG b a l c w0 p (w.alloc (.cells (vs.map Value.string).toArray t)) := h.out ((Below.refl _ _).alloc (Nat.le_refl _) _)
  have hb := h.dr.lt
  generalize w.alloc (.cells (vs.map Value.string).toArray t) = W at hr hA ⊢
  generalize w.heap.size = g at hr hb ⊢
  have C := pick_i hA.dr vs.length hp (by omega) (by omega)
  have HR := Lib.hid hr
  clear hr
  go_enter Tryz.func93, Tryz.ntmps93
  go_wp2_with fail
  refine C.mono ?_
  rintro e w1 ⟨k, rfl, hk, hD, hg⟩
  obtain ⟨s, hs⟩ : ∃ s, vs[k]? = some s := ⟨_, List.getElem?_eq_getElem (by omega)⟩
  have hc : w1.cell? ⟨g, k, none⟩ = some (.string s) := (hg.cell (HR.out k s hs) (by simp; omega))
  have HS := Lib.hid (List.mem_of_getElem? hs)
  have HD := Lib.hid hD
  have HA := Lib.hid hA
  clear hs hD hA
  go_wp2_with fail
  go_ret
  exact ⟨s, HS.out, rfl, HD.out, grownBy_trans HA.out.gr hg⟩
set_option maxHeartbeats 1000000 in
theorem num_v {b : Nat} {a : Option Addr} {l c p : Nat} {w0 w : World} (h : DG b a l c w0 p w) (vs : List Int) (t : TypeId) (hp : p ≤ 1000000) (hn : 1 ≤ vs.length) (hn2 : vs.length ≤ 1000000) :
    Calls Tryz.prog 45 #[.pointer (some ⟨b, 0, none⟩), .slice (some ⟨w.heap.size, 0, none⟩) vs.length vs.length] (w.alloc (.cells (vs.map (Value.int .i64)).toArray t)) fun e w' => ∃ s : Int, s ∈ vs ∧ e = .returned (.int .i64 s) ∧ DG b a l c w0 (p + 1) w' := by
  have hr : ∀ j v, vs[j]? = some v → (w.alloc (.cells (vs.map (Value.int .i64)).toArray t)).cell? ⟨w.heap.size, j, none⟩ = some (.int .i64 v) := fun j v hj => by rw [row_at, List.getElem?_map, hj]; rfl
  have hA : DG b a l c w0 p (w.alloc (.cells (vs.map (Value.int .i64)).toArray t)) := h.out ((Below.refl _ _).alloc (Nat.le_refl _) _)
  have hb := h.dr.lt
  generalize w.alloc (.cells (vs.map (Value.int .i64)).toArray t) = W at hr hA ⊢
  generalize w.heap.size = g at hr hb ⊢
  have C := pick_i hA.dr vs.length hp (by omega) (by omega)
  have HR := Lib.hid hr
  clear hr
  go_enter Tryz.func45, Tryz.ntmps45
  go_wp2_with fail
  refine C.mono ?_
  rintro e w1 ⟨k, rfl, hk, hD, hg⟩
  obtain ⟨s, hs⟩ : ∃ s, vs[k]? = some s := ⟨_, List.getElem?_eq_getElem (by omega)⟩
  have hc : w1.cell? ⟨g, k, none⟩ = some (.int .i64 s) := (hg.cell (HR.out k s hs) (by simp; omega))
  have HS := Lib.hid (List.mem_of_getElem? hs)
  have HD := Lib.hid hD
  have HA := Lib.hid hA
  clear hs hD hA
  go_wp2_with fail
  go_ret
  exact ⟨s, HS.out, rfl, HD.out, grownBy_trans HA.out.gr hg⟩
theorem kValidS2 (s : Text) (hs : s.length ≤ 100000) (w : World) : Calls Tryz.prog 121 #[.string ⟨s.toArray⟩] w fun e w' => e = .returned (.bool (readS s).isSome) ∧ Below w.heap.size w w' := sTermValid_c s w (by omega)
theorem size_app (T U : Tm) : (parts (.app T U)).length = (parts T).length + (parts U).length + 1 := by simp [parts]
theorem free_app {T U : Tm} (hT : T.good) (hU : U.good) (x : UInt8) : x ∈ sfree (.app T U) ↔ x ∈ sfree T ∨ x ∈ sfree U := by
  rw [sfree, mem_sort, List.mem_append]
  exact ⟨fun h => h.2, fun h => ⟨by rcases h with h | h; exact free_letters hT h; exact free_letters hU h, h⟩⟩

end Go.Proofs.YtefmmgccdpfnaaaGreatDoor
