import Derived.Test.YtpbiijcllghnnaaLaE
import Derived.Test.YtpbiijcllghnnaaMPi
import Derived.Test.YtpbiijcllghnnaaMTx
/- Laws over drawn terms: FnFree. -/
namespace Go.Proofs.Ytpbiijcllghnnaa
open Go.RowKit Go.Shelf
open Ff
set_option linter.unusedVariables false
attribute [local irreducible] Calls

/-- The names that are read. -/
def varOf : Tm → Text
  | .var c => [c]
  | _ => []
def readsN (l : List Tm) : Text := l.flatMap varOf
theorem reads_take (l : List Tm) (k : Nat) (p : Tm) (h : l[k]? = some p) : readsN (l.take (k + 1)) = readsN (l.take k) ++ varOf p := by
  unfold readsN
  rw [List.take_add_one, h]
  simp
theorem reads_len (l : List Tm) : (readsN l).length ≤ l.length := by
  induction l with
  | nil => simp [readsN]
  | cons p l ih =>
    have h : (varOf p).length ≤ 1 := by cases p <;> simp [varOf]
    have e : readsN (p :: l) = varOf p ++ readsN l := by simp [readsN]
    rw [e, List.length_append, List.length_cons]
    omega
theorem reads_app (l m : List Tm) : readsN (l ++ m) = readsN l ++ readsN m := by simp [readsN]
/-- What the law looks at in a part's text: is it one letter. -/
theorem part_look {p : Tm} (hg : p.good) : (∃ c, varOf p = [c] ∧ textN p = [c] ∧ 97 ≤ c.toNat) ∨ (varOf p = [] ∧ ((textN p).length ≠ 1 ∨ ∃ d, textN p = [d] ∧ d.toNat < 97)) := by
  cases p with
  | var c => left; have h : 97 ≤ c.toNat ∧ c.toNat ≤ 112 := by simpa [Tm.good, isNam] using hg
             exact ⟨c, rfl, rfl, h.1⟩
  | num n =>
    right
    refine ⟨rfl, ?_⟩
    by_cases h : n < 10
    · right; exact ⟨UInt8.ofNat (48 + n), by simp only [textN, numN, decN, if_pos h], by rw [dig_toN h]; omega⟩
    · left; simp only [textN, numN, decN, if_neg h]; simp
  | fn c b => right; exact ⟨rfl, .inl (by simp [textN])⟩
  | fix f c b => right; exact ⟨rfl, .inl (by simp [textN])⟩
  | app f a => right; exact ⟨rfl, .inl (by simp [textN])⟩
  | bind c v b => right; exact ⟨rfl, .inl (by simp [textN])⟩
  | op s l r => right; refine ⟨rfl, .inl ?_⟩; have h1 : 0 < (textN l).length := by cases l <;> simp [textN, numN, decN] <;> (try split) <;> (try split) <;> simp
                simp only [textN, List.length_cons, List.length_append]; omega
  | sel a b c => right; refine ⟨rfl, .inl ?_⟩; have h1 : 0 < (textN a).length := by cases a <;> simp [textN, numN, decN] <;> (try split) <;> (try split) <;> simp
                 simp only [textN, List.length_cons, List.length_append]; omega
/-- What stands free is read. -/
theorem free_reads (t : Tm) : ∀ x, x ∈ sfree t → x ∈ readsN (parts t) := by
  induction t with
  | num n => intro x h; simp [sfree, sortN] at h
  | var c => intro x h; simpa [sfree, readsN, parts, varOf] using h
  | fn c b ih => intro x h; have := ih x ((mem_less _ _ _).1 h).1; simpa [readsN, parts, varOf] using this
  | fix f c b ih => intro x h; have := ih x ((mem_less _ _ _).1 h).1; simpa [readsN, parts, varOf] using this
  | app f a h1 h2 => intro x h; have := ((mem_sort _ _).1 h).2; rw [List.mem_append] at this; have e : readsN (parts (.app f a)) = readsN (parts f) ++ readsN (parts a) := by simp [readsN, parts, varOf]
                     rw [e, List.mem_append]; exact this.imp (h1 x) (h2 x)
  | bind c f a h1 h2 => intro x h; have := ((mem_sort _ _).1 h).2; rw [List.mem_append] at this; have e : readsN (parts (.bind c f a)) = readsN (parts f) ++ readsN (parts a) := by simp [readsN, parts, varOf]
                        rw [e, List.mem_append]; exact this.imp (h1 x) (fun h => h2 x ((mem_less _ _ _).1 h).1)
  | op s f a h1 h2 => intro x h; have := ((mem_sort _ _).1 h).2; rw [List.mem_append] at this; have e : readsN (parts (.op s f a)) = readsN (parts f) ++ readsN (parts a) := by simp [readsN, parts, varOf]
                      rw [e, List.mem_append]; exact this.imp (h1 x) (h2 x)
  | sel a b c h1 h2 h3 => intro x h; have := ((mem_sort _ _).1 h).2; rw [List.mem_append, List.mem_append] at this; have e : readsN (parts (.sel a b c)) = readsN (parts a) ++ (readsN (parts b) ++ readsN (parts c)) := by simp [readsN, parts, varOf]
                          rw [e, List.mem_append, List.mem_append]; exact this.imp (h1 x) (fun h => h.imp (h2 x) (h3 x))
/-- What is read stands free or is bound somewhere. -/
theorem reads_free (t : Tm) : t.good → ∀ x, x ∈ readsN (parts t) → x ∈ sfree t ∨ x ∈ (parts t).flatMap bindsOf := by
  induction t with
  | num n => intro hg x h; simp [readsN, parts, varOf] at h
  | var c => intro hg x h; left; simpa [sfree, readsN, parts, varOf] using h
  | fn c b ih =>
    intro hg x h
    have h' : x ∈ readsN (parts b) := by simpa [readsN, parts, varOf] using h
    have e : (parts (.fn c b)).flatMap bindsOf = c :: (parts b).flatMap bindsOf := by simp [parts, bindsOf]
    rw [e, sfree, mem_less]
    by_cases hc : x = c
    · right; simp [hc]
    · exact (ih hg.2 x h').imp (fun k => ⟨k, by simpa using hc⟩) (fun k => List.mem_cons_of_mem _ k)
  | fix f c b ih =>
    intro hg x h
    have h' : x ∈ readsN (parts b) := by simpa [readsN, parts, varOf] using h
    have e : (parts (.fix f c b)).flatMap bindsOf = f :: c :: (parts b).flatMap bindsOf := by simp [parts, bindsOf]
    rw [e, sfree, mem_less]
    by_cases hc : x ∈ [f, c]
    · right; simp at hc; rcases hc with hc | hc <;> simp [hc]
    · exact (ih hg.2.2.2 x h').imp (fun k => ⟨k, hc⟩) (fun k => List.mem_cons_of_mem _ (List.mem_cons_of_mem _ k))
  | app f a h1 h2 =>
    intro hg x h
    have e1 : readsN (parts (.app f a)) = readsN (parts f) ++ readsN (parts a) := by simp [readsN, parts, varOf]
    have e : (parts (.app f a)).flatMap bindsOf = (parts f).flatMap bindsOf ++ (parts a).flatMap bindsOf := by simp [parts, bindsOf]
    rw [e1, List.mem_append] at h
    rw [free_app hg.1 hg.2, e, List.mem_append]
    rcases h with h | h
    · rcases h1 hg.1 x h with k | k
      · exact .inl (.inl k)
      · exact .inr (.inl k)
    · rcases h2 hg.2 x h with k | k
      · exact .inl (.inr k)
      · exact .inr (.inr k)
  | bind c f a h1 h2 =>
    intro hg x h
    have e1 : readsN (parts (.bind c f a)) = readsN (parts f) ++ readsN (parts a) := by simp [readsN, parts, varOf]
    have e : (parts (.bind c f a)).flatMap bindsOf = c :: ((parts f).flatMap bindsOf ++ (parts a).flatMap bindsOf) := by simp [parts, bindsOf]
    rw [e1, List.mem_append] at h
    rw [e, List.mem_cons, List.mem_append, sfree, mem_sort, List.mem_append, mem_less]
    by_cases hc : x = c
    · exact .inr (.inl hc)
    · rcases h with h | h
      · rcases h1 hg.2.1 x h with k | k
        · exact .inl ⟨free_letters hg.2.1 k, .inl k⟩
        · exact .inr (.inr (.inl k))
      · rcases h2 hg.2.2 x h with k | k
        · exact .inl ⟨free_letters hg.2.2 k, .inr ⟨k, by simpa using hc⟩⟩
        · exact .inr (.inr (.inr k))
  | op s f a h1 h2 =>
    intro hg x h
    have e1 : readsN (parts (.op s f a)) = readsN (parts f) ++ readsN (parts a) := by simp [readsN, parts, varOf]
    have e : (parts (.op s f a)).flatMap bindsOf = (parts f).flatMap bindsOf ++ (parts a).flatMap bindsOf := by simp [parts, bindsOf]
    rw [e1, List.mem_append] at h
    rw [e, List.mem_append, sfree, mem_sort, List.mem_append]
    rcases h with h | h
    · rcases h1 hg.2.1 x h with k | k
      · exact .inl ⟨free_letters hg.2.1 k, .inl k⟩
      · exact .inr (.inl k)
    · rcases h2 hg.2.2 x h with k | k
      · exact .inl ⟨free_letters hg.2.2 k, .inr k⟩
      · exact .inr (.inr k)
  | sel a b c h1 h2 h3 =>
    intro hg x h
    have e1 : readsN (parts (.sel a b c)) = readsN (parts a) ++ (readsN (parts b) ++ readsN (parts c)) := by simp [readsN, parts, varOf]
    have e : (parts (.sel a b c)).flatMap bindsOf = (parts a).flatMap bindsOf ++ ((parts b).flatMap bindsOf ++ (parts c).flatMap bindsOf) := by simp [parts, bindsOf]
    rw [e1, List.mem_append, List.mem_append] at h
    rw [e, List.mem_append, List.mem_append, sfree, mem_sort, List.mem_append, List.mem_append]
    rcases h with h | h | h
    · rcases h1 hg.1 x h with k | k
      · exact .inl ⟨free_letters hg.1 k, .inl k⟩
      · exact .inr (.inl k)
    · rcases h2 hg.2.1 x h with k | k
      · exact .inl ⟨free_letters hg.2.1 k, .inr (.inl k)⟩
      · exact .inr (.inr (.inl k))
    · rcases h3 hg.2.2 x h with k | k
      · exact .inl ⟨free_letters hg.2.2 k, .inr (.inr k)⟩
      · exact .inr (.inr (.inr k))
theorem mem_bound {t : Tm} (hg : t.good) (x : UInt8) (h : x ∈ readsN (parts t)) : x ∈ sfree t ∨ x ∈ sbound t := by
  have hl : x ∈ letters := by
    unfold readsN at h
    obtain ⟨p, hp, hx⟩ := List.mem_flatMap.1 h
    have hgp := parts_good hg hp
    cases p with
    | var c => simp only [varOf, List.mem_singleton] at hx; subst hx; exact nam_letter hgp
    | _ => simp [varOf] at hx
  rcases reads_free t hg x h with k | k
  · exact .inl k
  · right
    unfold sbound boundTo
    rw [mem_sort, List.take_length]
    exact ⟨hl, k⟩
theorem kFreeS2 (s : Text) (hs : s.length ≤ 100000) (w : World) : Calls Try.prog 19 #[.string ⟨s.toArray⟩] w fun e w' => e = .returned (txtP sfree (readS s)) ∧ Below w.heap.size w w' := sFreeOf_c s w (by omega)
theorem kBoundS (s : Text) (hs : s.length ≤ 100000) (w : World) : Calls Try.prog 20 #[.string ⟨s.toArray⟩] w fun e w' => e = .returned (txtP sbound (readS s)) ∧ Below w.heap.size w w' := sBoundOf_c s w (by omega)
/-- The parts' texts, as a row. -/
theorem kParts (s : Text) (hs : s.length ≤ 100000) (T : Tm) (hT : readS s = some T) (w : World) : Calls Try.prog 22 #[.string ⟨s.toArray⟩] w fun e w' => ∃ g c, e = .returned (.tuple #[.slice (some ⟨g, 0, none⟩) (parts T).length c, .bool true]) ∧ (∀ i p, (parts T)[i]? = some p → w'.cell? ⟨g, i, none⟩ = some (.string ⟨(textN p).toArray⟩)) ∧ Below w.heap.size w w' := by
  have h := iPartsOf_c s w (by omega)
  rw [← readS_eq, hT] at h
  refine h.mono fun e w' ⟨v, he, hS, hB⟩ => ?_
  obtain ⟨_, h2⟩ := Strs.cases hS
  have hlen : (partsO (some T)).length = (parts T).length := by simp [partsO, partsT]
  have h0 : ∃ p, (parts T)[0]? = some p := by cases T <;> exact ⟨_, rfl⟩
  obtain ⟨p0, hp0⟩ := h0
  have hat : ∀ (i : Nat) (p : Tm), (parts T)[i]? = some p → (partsO (some T))[i]? = some (textN p) := fun i p hp => by show (List.map textN (parts T))[i]? = _; rw [List.getElem?_map, hp]; rfl
  obtain ⟨g, c, hv, _, _, _, _⟩ := h2 0 _ (hat 0 p0 hp0)
  rw [hlen] at hv
  refine ⟨g, c, by rw [he, hv]; rfl, fun i p hp => ?_, hB⟩
  obtain ⟨g', c', hv', _, _, hc, _⟩ := h2 i _ (hat i p hp)
  rw [hv] at hv'
  injection hv' with h3 h4 h5
  injection h3 with h3
  injection h3 with h3
  subst h3
  exact hc

set_option maxHeartbeats 1000000 in
theorem drawFreeOf_c (a : Option Addr) (l c : Nat) (w : World) (h : Src w a l c) :
    Calls Try.prog 17 #[.slice a l c] w fun e w' => ∃ s : Text, e = .returned (.string ⟨s.toArray⟩) ∧ s.length ≤ 5000 ∧ Below w.heap.size w w' := by
  go_enter Try.func17, Try.ntmps17
  go_wp2_with fail
  refine (open_c a l c w h).mono ?_; rintro e w1 ⟨l', rfl, hD⟩
  go_wp2_with fail
  refine (any_c _ _ _ _ _ _ _ hD (by omega)).mono ?_; rintro e w2 ⟨s, p', rfl, hs, hp, hD2⟩
  go_wp2_with fail
  go_ret
  exact ⟨s, rfl, hs, hD2.below⟩

set_option maxRecDepth 100000 in
set_option maxHeartbeats 8000000 in
theorem law_fnFree (a : Option Addr) (l c : Nat) (w : World) (h : Src w a l c) :
    Calls Try.prog 4 #[.slice a l c] w fun e w' => e = .returned (.bool true) ∧ Below w.heap.size w w' := by
  by_cases hl : l ≤ 1048576
  · have hl2 : (l : Int) ≤ 1048576 := by omega
    go_enter Try.func4, Try.ntmps4
    go_wp2_with fail
    refine (drawFreeOf_c a l c w h).mono ?_; rintro e w1 ⟨s, rfl, hs, hb⟩
    go_wp2_with fail
    rcases hT : readS s with _ | T
    · have HT := Lib.hid hT
      clear hT
      refine (kFree s (by omega) w1).mono ?_; rw [HT.out]; simp only [txtP]; rintro e w2 ⟨rfl, hb2⟩; replace hb := next hb hb2; clear hb2
      go_wp2_with fail
      refine (kBound s (by omega) w2).mono ?_; rw [HT.out]; simp only [txtP]; rintro e w3 ⟨rfl, hb2⟩; replace hb := next hb hb2; clear hb2
      go_wp2_with fail
      refine (kFreeS2 s (by omega) w3).mono ?_; rw [HT.out]; simp only [txtP]; rintro e w4 ⟨rfl, hb2⟩; replace hb := next hb hb2; clear hb2
      go_wp2_with fail
      refine (kBoundS s (by omega) w4).mono ?_; rw [HT.out]; simp only [txtP]; rintro e w5 ⟨rfl, hb2⟩; replace hb := next hb hb2; clear hb2
      go_wp2_with fail
      refine (kClosed s (by omega) w5).mono ?_; rw [HT.out]; simp only [closedB]; rintro e w6 ⟨rfl, hb2⟩; replace hb := next hb hb2; clear hb2
      go_wp2_with fail
      refine (kClosed s (by omega) w6).mono ?_; rw [HT.out]; simp only [closedB]; rintro e w7 ⟨rfl, hb2⟩; replace hb := next hb hb2; clear hb2
      go_wp2_with fail
      go_ret
      exact ⟨rfl, hb⟩
    · have hB : ∃ B : Bool, closedB (some T) = B ∧ (((⟨(sfree T).toArray⟩ : ByteArray) == ⟨#[]⟩) = B ∧ (sfree T).isEmpty = B ∧ (sfree T == []) = B) := by
        rcases hF : sfree T with _ | ⟨y, F⟩
        · exact ⟨true, by simp [closedB, hF], rfl, rfl, rfl⟩
        · exact ⟨false, by simp [closedB, hF], rfl, rfl, rfl⟩
      obtain ⟨B, hB1, hB2, hB3, hB4⟩ := hB
      have hgd := readS_good hT
      have hpp := readS_parts hT
      have f1 := sfree_len T
      have f2 : (sbound T).length ≤ 16 := sort_len _
      have fr := reads_len (parts T)
      have M1 := mem_bound hgd
      have M2 := free_reads T
      have HT := Lib.hid hT
      have HB := Lib.hid hB1
      have HM1 := Lib.hid M1
      have HM2 := Lib.hid M2
      have HG := Lib.hid hgd
      clear hT hB1 M1 M2 hgd
      refine (kFree s (by omega) w1).mono ?_; rw [HT.out]; simp only [txtP]; rintro e w2 ⟨rfl, hb2⟩; replace hb := next hb hb2; clear hb2
      go_wp2_with fail
      refine (kBound s (by omega) w2).mono ?_; rw [HT.out]; simp only [txtP]; rintro e w3 ⟨rfl, hb2⟩; replace hb := next hb hb2; clear hb2
      go_wp2_with fail
      refine (kFreeS2 s (by omega) w3).mono ?_; rw [HT.out]; simp only [txtP]; rintro e w4 ⟨rfl, hb2⟩; replace hb := next hb hb2; clear hb2
      go_wp2_with fail
      refine (kBoundS s (by omega) w4).mono ?_; rw [HT.out]; simp only [txtP]; rintro e w5 ⟨rfl, hb2⟩; replace hb := next hb hb2; clear hb2
      go_wp2_with fail
      refine (kClosed s (by omega) w5).mono ?_; rw [HT.out, HB.out]; rintro e w6 ⟨rfl, hb2⟩; replace hb := next hb hb2; clear hb2
      generalize hFF : sfree T = FF at f1 hB2 hB3 hB4 HM1 HM2
      have HFF := Lib.hid hFF
      clear hFF
      cases B
      all_goals
        go_wp2_with fail
        refine (kParts s (by omega) T HT.out w6).mono ?_; rintro e w7 ⟨g, cp, rfl, hcell, hb2⟩; replace hb := next hb hb2; clear hb2
        have HC := Lib.hid hcell
        clear hcell
        go_wp2_with fail
        go_loopw [14, 110] (fun o i wr => ∃ k : Nat, k ≤ (parts T).length ∧ i = .int .i64 k ∧ o = .string ⟨(readsN ((parts T).take k)).toArray⟩ ∧ wr = w7) (fun _ i _ => (parts T).length - (intOf i).toNat)
        case atStart => exact ⟨0, Nat.zero_le _, rfl, rfl, rfl⟩
        case round =>
          obtain ⟨k, hk, rfl, rfl, rfl⟩ := hrel
          have hrl := reads_len ((parts T).take k)
          have htl : ((parts T).take k).length ≤ 120 := by simp; omega
          by_cases hlt : k < (parts T).length
          · obtain ⟨p, hp⟩ : ∃ p, (parts T)[k]? = some p := ⟨_, List.getElem?_eq_getElem hlt⟩
            have hc := HC.out k p hp
            have look := part_look (parts_good HG.out (List.mem_of_getElem? hp))
            have hrt := reads_take _ _ _ hp
            have HR := Lib.hid hrt
            clear hrt hp
            generalize textN p = X at hc look
            generalize hR1 : readsN (List.take k (parts T)) = R1 at HR hrl ⊢
            clear hR1
            rcases look with ⟨x, hv, hx, hx2⟩ | ⟨hv, hx | ⟨d, hx, hx2⟩⟩
            · obtain ⟨q, hix⟩ : ∃ h : 0 < (⟨X.toArray⟩ : ByteArray).size, (⟨X.toArray⟩ : ByteArray)[0]'h = x := ⟨by rw [size_data, hx]; simp, index_byte X 0 x (by rw [hx]; rfl) _⟩
              have hnl : X.length = 1 := by rw [hx]; rfl
              have hx3 : 97 ≤ (x.toNat : Int) := by omega
              have q1 : ¬ 9223372036854775807 < R1.length + 1 := by omega
              have HV := Lib.hid hv
              have HX := Lib.hid hx
              clear hv hx
              go_wp2_with fail
              exact ⟨⟨k + 1, by omega, by go_num, by rw [HR.out, HV.out, str_app2, HX.out], trivial⟩, by simp [intOf]; omega⟩
            · have h3 : ((X.length : Int) == 1) = false := by rw [beq_eq_false_iff_ne]; omega
              have HV := Lib.hid hv
              clear hv
              go_wp2_with fail
              exact ⟨⟨k + 1, by omega, by go_num, by rw [HR.out, HV.out, List.append_nil], trivial⟩, by simp [intOf]; omega⟩
            · obtain ⟨q, hix⟩ : ∃ h : 0 < (⟨X.toArray⟩ : ByteArray).size, (⟨X.toArray⟩ : ByteArray)[0]'h = d := ⟨by rw [size_data, hx]; simp, index_byte X 0 d (by rw [hx]; rfl) _⟩
              have hnl : X.length = 1 := by rw [hx]; rfl
              have hx3 : (d.toNat : Int) < 97 := by omega
              have HV := Lib.hid hv
              clear hv hx
              go_wp2_with fail
              exact ⟨⟨k + 1, by omega, by go_num, by rw [HR.out, HV.out, List.append_nil], trivial⟩, by simp [intOf]; omega⟩
          · obtain rfl : k = (parts T).length := by omega
            rw [List.take_length]
            clear hrl htl hlt
            generalize hR : readsN (parts T) = R at fr HM1 HM2 ⊢
            clear hR
            go_wp2_with fail
            go_loopw [128] (fun i wr2 => ∃ k : Nat, k ≤ R.length ∧ i = .int .i64 k ∧ wr2 = wr) (fun i _ => R.length - (intOf i).toNat)
            case atStart => exact ⟨0, Nat.zero_le _, rfl, rfl⟩
            case round =>
              obtain ⟨k, hk, rfl, rfl⟩ := hrel
              by_cases hlt : k < R.length
              · obtain ⟨d, hd⟩ : ∃ d, R[k]? = some d := ⟨_, List.getElem?_eq_getElem hlt⟩
                have hx := extract_one R k d hd
                have hm := HM1.out d (List.mem_of_getElem? hd)
                have HM := Lib.hid hm
                clear hd hm
                go_wp2_with fail
                refine (has_c FF d _ (by omega)).mono ?_; rintro e w11 ⟨rfl, rfl⟩
                by_cases hin : d ∈ FF
                · rw [decide_eq_true hin]
                  have HI := Lib.hid hin
                  clear hin
                  go_wp2_with fail
                  exact ⟨⟨k + 1, by omega, by go_num, trivial⟩, by simp [intOf]; omega⟩
                · rw [decide_eq_false hin]
                  have hin2 := HM.out.resolve_left hin
                  have HI := Lib.hid hin2
                  clear hin hin2
                  go_wp2_with fail
                  refine (has_c (sbound T) d _ (by omega)).mono ?_; rw [decide_eq_true HI.out]; rintro e w12 ⟨rfl, rfl⟩
                  go_wp2_with fail
                  exact ⟨⟨k + 1, by omega, by go_num, trivial⟩, by simp [intOf]; omega⟩
              · obtain rfl : k = R.length := by omega
                go_wp2_with fail
                refine (within2_c FF R _ (by omega) (by omega) HM2.out).mono ?_; rintro e w17 ⟨rfl, rfl⟩
                go_wp2_with fail
                go_ret
                exact ⟨rfl, hb⟩
  · have hl2 : 1048576 < (l : Int) := by omega
    go_enter Try.func4, Try.ntmps4
    go_wp2_with fail
    go_ret
    exact ⟨rfl, Below.refl _ _⟩
end Go.Proofs.Ytpbiijcllghnnaa
