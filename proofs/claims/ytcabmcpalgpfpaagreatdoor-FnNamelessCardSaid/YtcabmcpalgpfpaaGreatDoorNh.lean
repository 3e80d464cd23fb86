import Derived.Test.YtcabmcpalgpfpaaGreatDoorMNf
/- Nameless: the program's text of knots; the law. -/
namespace Go.Proofs.YtcabmcpalgpfpaaGreatDoor
open Go.RowKit
open Ff
set_option linter.unusedVariables false

theorem knText_len : ∀ (n : Nat) (k : Knot), okK n k → (knText n k).length ≤ 4 ^ n
  | 0, k, h => absurd h (by simp [okK])
  | n + 1, .mk s v ks, h => by
    have hp : 1 ≤ 4 ^ n := Nat.one_le_pow _ _ (by omega)
    have h4 : 4 ^ (n + 1) = 4 * 4 ^ n := by rw [Nat.pow_succ]; omega
    have hd := dec_len v.toNat
    simp only [knText]
    split
    · unfold numN
      split
      · omega
      · simp only [List.length_cons]; omega
    · split
      · simp only [List.length_cons, List.length_append, List.length_nil]; omega
      · have hk : ∀ ls : List Knot, (∀ k ∈ ls, okK n k) → ((ls.map (knText n)).flatten).length ≤ ls.length * 4 ^ n := by
          intro ls
          induction ls with
          | nil => intro _; simp
          | cons a ls ih =>
            intro hh
            have h1 := knText_len n a (hh a (by simp))
            have h2 := ih (fun k hk => hh k (by simp [hk]))
            simp only [List.map_cons, List.flatten_cons, List.length_append, List.length_cons]
            rw [Nat.succ_mul]
            omega
        have h5 := hk ks h.2.2.2
        have hl := h.2.1
        have h6 : ks.length * 4 ^ n ≤ 3 * 4 ^ n := Nat.mul_le_mul_right _ hl
        by_cases hn0 : ks = []
        · subst hn0
          simp only [List.map_nil, List.flatten_nil, List.length_cons, List.length_append, List.length_nil]
          split <;> simp only [List.length_cons, List.length_nil] <;> omega
        · have hn1 : 2 ≤ 4 ^ n := by
            cases n with
            | zero =>
              obtain ⟨a, ha⟩ := List.exists_mem_of_ne_nil _ hn0
              exact absurd (h.2.2.2 a ha) (by simp [okK])
            | succ m =>
              have : 1 ≤ 4 ^ m := Nat.one_le_pow _ _ (by omega)
              rw [Nat.pow_succ]; omega
          simp only [List.length_cons, List.length_append]
          split <;> simp only [List.length_cons, List.length_nil] <;> omega
theorem conv_sign {c : UInt8} (h : c ∈ letters ∨ c = 43 ∨ c = 45 ∨ c = 42 ∨ c = 92 ∨ c = 64 ∨ c = 40 ∨ c = 61 ∨ c = 63) (w : World) : (convert 5 9 (.int .u8 (c.toNat : Int))).run Tryz.prog w = .ok (.string ⟨#[c]⟩) w := by
  simp only [letters, List.mem_cons, List.not_mem_nil, or_false] at h
  rcases h with (h | h | h | h | h | h | h | h | h | h | h | h | h | h | h | h) | h | h | h | h | h | h | h | h <;> subst h <;> kernel_rfl
def KtC (n : Nat) : Prop := ∀ (k : Knot) (v : Value) (B : Nat) (w : World), n ≤ 24 → okK n k → KRep (fun g => g < B) w k v → B ≤ w.heap.size →
  Calls Tryz.prog 18 #[v] w fun e w' => e = .returned (.string ⟨(knText n k).toArray⟩) ∧ Below w.heap.size w w'
/-- The texts of the first so many. -/
def ktTo (n : Nat) (ks : List Knot) (k : Nat) : Text := ((ks.take k).map (knText n)).flatten
theorem ktTo_succ {n : Nat} {ks : List Knot} {x : Knot} {k : Nat} (h : ks[k]? = some x) : ktTo n ks (k + 1) = ktTo n ks k ++ knText n x := by
  unfold ktTo
  rw [List.take_add_one, h]
  simp
theorem ktTo_len {n : Nat} {ks : List Knot} (h : ∀ k ∈ ks, okK n k) (hl : ks.length ≤ 3) (k : Nat) : (ktTo n ks k).length ≤ 3 * 4 ^ n := by
  have hk : ∀ ls : List Knot, (∀ k ∈ ls, okK n k) → ((ls.map (knText n)).flatten).length ≤ ls.length * 4 ^ n := by
    intro ls
    induction ls with
    | nil => intro _; simp
    | cons a ls ih =>
      intro hh
      have h1 := knText_len n a (hh a (by simp))
      have h2 := ih (fun k hk => hh k (by simp [hk]))
      simp only [List.map_cons, List.flatten_cons, List.length_append, List.length_cons]
      rw [Nat.succ_mul]
      omega
  have h1 := hk (ks.take k) (fun x hx => h x (List.mem_of_mem_take hx))
  have h2 : (ks.take k).length ≤ 3 := by rw [List.length_take]; omega
  exact Nat.le_trans h1 (Nat.mul_le_mul_right _ h2)
set_option maxRecDepth 100000 in
set_option maxHeartbeats 4000000 in
theorem kt_step (n : Nat) (ih : KtC n) (s : UInt8) (v : Int) (ks : List Knot) (g cap B : Nat) (c : Nat → Value) (w : World) (hn : n + 1 ≤ 24) (hok : okK (n + 1) (.mk s v ks)) (hB : B ≤ w.heap.size) (hgB : g < B)
    (hc : ∀ k, k < 3 * ks.length → w.cell? ⟨g, k, none⟩ = some (c k)) (hr : ∀ i x, ks[i]? = some x → KRep (fun g => g < B) w x (three c i)) :
    Calls Tryz.prog 18 #[.agg #[.int .u8 (s.toNat : Int), .int .i64 v, .slice (some ⟨g, 0, none⟩) ks.length cap]] w fun e w' => e = .returned (.string ⟨(knText (n + 1) (.mk s v ks)).toArray⟩) ∧ Below w.heap.size w w' := by
  obtain ⟨o1, o2, o3, o4⟩ := hok
  have hb0 := (Below.refl _ w).alloc (Nat.le_refl _) (.cells #[.int .u8 (s.toNat : Int), .int .i64 v, .slice (some ⟨g, 0, none⟩) ks.length cap] 43)
  have z0 := World.alloc_heap_new w (.cells #[.int .u8 (s.toNat : Int), .int .i64 v, .slice (some ⟨g, 0, none⟩) ks.length cap] 43)
  by_cases h35 : s = 35
  · subst h35
    obtain ⟨m, rfl⟩ := Int.eq_ofNat_of_zero_le (o1 (.inl rfl)).1
    have hm := (o1 (.inl rfl)).2
    have C := fun W => text_num m (by omega) W
    have e : knText (n + 1) (.mk 35 (m : Int) ks) = numN m := by simp [knText]
    rw [e]
    clear e hc hr
    go_enter Tryz.func18, Tryz.ntmps18
    go_wp2_with (go_at_call 37; refine (C _).mono ?_; clear C; rintro e w2 ⟨rfl, hb2⟩)
    go_ret
    exact ⟨rfl, hb0.trans (hb2.mono hb0.size)⟩
  · by_cases h36 : s = 36
    · subst h36
      obtain ⟨m, rfl⟩ := Int.eq_ofNat_of_zero_le (o1 (.inr rfl)).1
      have hm := (o1 (.inr rfl)).2
      have C := fun W => itoa_c m (by omega) W
      have hdl := dec_len m
      have e : knText (n + 1) (.mk 36 (m : Int) ks) = 36 :: (decN m ++ [59]) := by simp [knText]
      have e1 : (⟨#[36]⟩ ++ ⟨(decN m).toArray⟩ : ByteArray) = ⟨(36 :: decN m).toArray⟩ := str_app2 [36] (decN m)
      have e2 : (⟨(36 :: decN m).toArray⟩ ++ ⟨#[59]⟩ : ByteArray) = ⟨(36 :: (decN m ++ [59])).toArray⟩ := str_app2 (36 :: decN m) [59]
      have z1 : ¬ 9223372036854775807 < 1 + (decN m).length := by omega
      have z2 : ¬ 9223372036854775807 < (36 :: decN m).length + 1 := by simp; omega
      rw [e]
      clear e hc hr
      go_enter Tryz.func18, Tryz.ntmps18
      go_wp2_with (go_at_call 38; refine (C _).mono ?_; clear C; rintro e w2 ⟨rfl, rfl⟩)
      go_ret
      exact ⟨congrArg (fun s => Ending.returned (Value.string s)) (by first | exact e2 | (rw [← e2, ← e1])), hb0⟩
    · have o5 : s ∈ letters ∨ s = 43 ∨ s = 45 ∨ s = 42 ∨ s = 92 ∨ s = 64 ∨ s = 40 ∨ s = 61 ∨ s = 63 := by
        rcases o3 with h | h | h
        · exact absurd h h35
        · exact absurd h h36
        · exact h
      have hcv := fun W => conv_sign o5 W
      have e : knText (n + 1) (.mk s v ks) = s :: (ktTo n ks ks.length ++ (if s = 40 then [41] else [])) := by
        simp only [knText, if_neg h35, if_neg h36, ktTo, List.take_length]
      rw [e]
      have b35 : ((s.toNat : Int) == 35) = false := by rw [beq_eq_false_iff_ne]; intro e; exact h35 (UInt8.toNat_inj.1 (by show s.toNat = 35; omega))
      have b36 : ((s.toNat : Int) == 36) = false := by rw [beq_eq_false_iff_ne]; intro e; exact h36 (UInt8.toNat_inj.1 (by show s.toNat = 36; omega))
      have HTL := Lib.hid (ktTo_len o4 o2)
      have HKL := Lib.hid (fun x hx => knText_len n x (o4 x hx))
      have hpow : 4 ^ n ≤ 4 ^ 24 := Nat.pow_le_pow_right (by omega) (by omega)
      have hp24 : (4 : Nat) ^ 24 = 281474976710656 := by decide
      have KC := fun (i : Nat) (x : Knot) (hx : ks[i]? = some x) => knot_cells (List.getElem?_eq_some_iff.1 hx).1 hc (hr i x hx) (by omega)
      have HKC := Lib.hid KC
      have HO := Lib.hid o4
      obtain ⟨P, hP⟩ : ∃ P, 4 ^ n = P := ⟨_, rfl⟩
      rw [hP] at hpow HTL HKL
      rw [hp24] at hpow
      clear hc hr e o1 o3 o4 KC hP hp24 h35 h36 o5
      generalize hL : ks.length = L at *
      have HL := Lib.hid hL
      clear hL
      have hz : (w.alloc (.cells #[.int .u8 (s.toNat : Int), .int .i64 v, .slice (some ⟨g, 0, none⟩) L cap] 43)).heap.size = w.heap.size + 1 := by simp
      go_enter Tryz.func18, Tryz.ntmps18
      go_wp2_with fail
      generalize w.alloc (.cells #[.int .u8 (s.toNat : Int), .int .i64 v, .slice (some ⟨g, 0, none⟩) L cap] 43) = W0 at *
      have HZ := Lib.hid hz
      clear hz
      go_loopw [3, 31] (fun o i wr => ∃ k : Nat, k ≤ L ∧ i = .int .i64 k ∧ o = .string ⟨(s :: ktTo n ks k).toArray⟩ ∧ Below W0.heap.size W0 wr) (fun _ i _ => L - (intOf i).toNat)
      case atStart => exact ⟨0, Nat.zero_le _, rfl, by simp [ktTo], Below.refl _ _⟩
      case round =>
        obtain ⟨k, hk, rfl, rfl, hBl⟩ := hrel
        have hln := HTL.out k
        have hsz := hBl.size
        have hwB : Below w.heap.size w wr := hb0.trans (hBl.mono (by rw [HZ.out]; omega))
        obtain ⟨c0, c1, c2, _⟩ := cells3 ((hBl.block w.heap.size (by rw [HZ.out]; omega)).trans z0)
        by_cases hlt : k < L
        · obtain ⟨x, hx⟩ : ∃ x, ks[k]? = some x := ⟨_, List.getElem?_eq_getElem (by rw [HL.out]; exact hlt)⟩
          obtain ⟨a0, a1, a2, a3, a4, ra, ca⟩ := HKC.out k x hx
          obtain ⟨p0, p1, p2⟩ := ca _ hwB
          have hmem := List.mem_of_getElem? hx
          have hw2 : Below w.heap.size w (wr.alloc (.cells #[.int .u8 a0, .int .i64 a1, .slice a2 a3 a4] 43)) := hwB.alloc hwB.size _
          have hw3 : Below W0.heap.size W0 (wr.alloc (.cells #[.int .u8 a0, .int .i64 a1, .slice a2 a3 a4] 43)) := hBl.alloc hsz _
          have C := ih x _ B _ (by omega) (HO.out x hmem) (ra.keep (fun g' hg' => hw2.block g' (by omega)) (fun g' hg' => hg')) (by have := hw2.size; omega)
          have hxl := HKL.out x hmem
          have hsucc := ktTo_succ (n := n) hx
          have hround : (⟨(s :: ktTo n ks k).toArray⟩ ++ ⟨(knText n x).toArray⟩ : ByteArray) = ⟨(s :: ktTo n ks (k + 1)).toArray⟩ := by
            rw [hsucc, str_app2]
            simp
          have HR := Lib.hid hround
          have p3 : ¬ 9223372036854775807 < (s :: ktTo n ks k).length + (knText n x).length := by simp; omega
          generalize s :: ktTo n ks k = pref at p3 HR ⊢
          clear hround hsucc ra ca hx
          go_wp2_with (go_at_call 18; refine C.mono ?_; clear C; rintro e w2 ⟨rfl, hb2⟩)
          exact ⟨⟨k + 1, by omega, by go_num, by rw [← HR.out], hw3.trans (hb2.mono (by simp; omega))⟩, by simp [intOf]; omega⟩
        · obtain rfl : k = L := by omega
          have p4 : ¬ 9223372036854775807 < (s :: ktTo n ks k).length + 1 := by simp; omega
          by_cases h40 : s = 40
          · subst h40
            go_wp2_with fail
            go_ret
            exact ⟨congrArg (fun s => Ending.returned (Value.string s)) (by apply ba_ext; simp [ByteArray.data_append]), hwB⟩
          · have b40 : ((s.toNat : Int) == 40) = false := by rw [beq_eq_false_iff_ne]; intro e; exact h40 (UInt8.toNat_inj.1 (by show s.toNat = 40; omega))
            go_wp2_with fail
            go_ret
            exact ⟨congrArg (fun s => Ending.returned (Value.string s)) (by apply ba_ext; simp), hwB⟩
theorem kt_c : ∀ n, KtC n
  | 0 => fun k v B w _ h => absurd h (by simp [okK])
  | n + 1 => by
    intro k v B w hn h hr hB
    cases hr with
    | mk s v ks g cap c hg hc hk => exact kt_step n (kt_c n) s v ks g cap B c w hn h hB hg hc hk
set_option maxRecDepth 100000 in
set_option maxHeartbeats 4000000 in
theorem iNameless_c (s : Text) (w : World) (hl : s.length ≤ 9223372036854775807) :
    Calls Tryz.prog 5 #[.string ⟨s.toArray⟩] w fun e w' => e = .returned (.tuple #[.string ⟨(ntO (nlO s)).toArray⟩, .bool (nlO s).isSome]) ∧ Below w.heap.size w w' := by
  have C1 := fun W => read_c s W hl
  simp only [← readS_eq] at C1
  rcases hr : readS s with _ | t
  · have hO : nlO s = none := by unfold nlO; rw [hr]; rfl
    rw [hO]
    rw [hr] at C1
    clear hr hO
    go_enter Tryz.func5, Tryz.ntmps5
    go_wp2_with fail
    refine (C1 _).mono ?_
    clear C1
    rintro e w1 ⟨rfl, hb1⟩
    go_wp2_with fail
    go_ret2
    exact ⟨rfl, hb1⟩
  · have hO : nlO s = some (knText 24 (knT 24 noF t)) := by unfold nlO; rw [hr]; rfl
    rw [hO]
    rw [hr] at C1
    obtain ⟨tg, td, tp⟩ := read_facts hr
    have KN := fun W => nameless_c t W td tg (by omega)
    have hok := knT_ok 24 noF t td tg noF_ok
    rw [enc_ty t] at KN
    clear hr hO
    generalize knT 24 noF t = kk at *
    go_enter Tryz.func5, Tryz.ntmps5
    go_wp2_with fail
    refine (C1 _).mono ?_
    clear C1
    rintro e w1 ⟨rfl, hb1⟩
    rw [enc_ty t]
    go_wp2_with fail
    refine (KN _).mono ?_
    clear KN
    rintro e w2 ⟨v, rfl, hb2, hr2⟩
    obtain ⟨y0, y1, y2, y3, y4, rfl⟩ := hr2.junk
    have C := kt_c 24 kk _ w2.heap.size w2 (Nat.le_refl _) hok (hr2.keep (fun _ _ => rfl) (fun g hg => hg.2)) (Nat.le_refl _)
    have hB2 := hb1.trans (hb2.mono hb1.size)
    clear hr2
    go_wp2_with (go_at_call 18; refine C.mono ?_; clear C; rintro e w3 ⟨rfl, hb3⟩)
    go_ret2
    exact ⟨rfl, hB2.trans (hb3.mono hB2.size)⟩
end Go.Proofs.YtcabmcpalgpfpaaGreatDoor
