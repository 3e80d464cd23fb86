import Derived.Test.YtcabmcpalgpfpaaGreatDoorLaE
import Derived.Test.YtcabmcpalgpfpaaGreatDoorMPi
import Derived.Test.YtcabmcpalgpfpaaGreatDoorMTx
/- Laws over drawn terms: FnFree. -/
namespace Go.Proofs.YtcabmcpalgpfpaaGreatDoor
open Go.RowKit Go.Shelf
open Ff
set_option linter.unusedVariables false
attribute [local irreducible] Calls

/-- The names that are read. -/
def varOf : Tm → Text
  | .var c => [c]
  | _ => []
def readsN (l : List Tm) : Text := l.flatMap varOf
theorem reads_take (l : List Tm) (k : Nat) (p : Tm) (h : l[k]? = some p) : readsN (l.take (k + 1)) = readsN (l.take k) ++ varOf p := by
  unfold readsN
  rw [List.take_add_one, h]
  simp
theorem reads_len (l : List Tm) : (readsN l).length ≤ l.length := by
  induction l with
  | nil => simp [readsN]
  | cons p l ih =>
    have h : (varOf p).length ≤ 1 := by cases p <;> simp [varOf]
    have e : readsN (p :: l) = varOf p ++ readsN l := by simp [readsN]
    rw [e, List.length_append, List.length_cons]
    omega
theorem reads_app (l m : List Tm) : readsN (l ++ m) = readsN l ++ readsN m := by simp [readsN]
/-- What the law looks at in a part's text: is it one letter. -/
theorem part_look {p : Tm} (hg : p.good) : (∃ c, varOf p = [c] ∧ textN p = [c] ∧ 97 ≤ c.toNat) ∨ (varOf p = [] ∧ ((textN p).length ≠ 1 ∨ ∃ d, textN p = [d] ∧ d.toNat < 97)) := by
  cases p with
  | var c => left; have h : 97 ≤ c.toNat ∧ c.toNat ≤ 112 := by simpa [Tm.good, isNam] using hg
             exact ⟨c, rfl, rfl, h.1⟩
  | num n =>
    right
    refine ⟨rfl, ?_⟩
    by_cases h : n < 10
    · right; exact ⟨UInt8.ofNat (48 + n), by simp only [textN, numN, decN, if_pos h], by rw [dig_toN h]; omega⟩
    · left; simp only [textN, numN, decN, if_neg h]; simp
  | fn c b => right; exact ⟨rfl, .inl (by simp [textN])⟩
  | fix f c b => right; exact ⟨rfl, .inl (by simp [textN])⟩
  | app f a => right; exact ⟨rfl, .inl (by simp [textN])⟩
  | bind c v b => right; exact ⟨rfl, .inl (by simp [textN])⟩
  | op s l r => right; refine ⟨rfl, .inl ?_⟩; have h1 : 0 < (textN l).length := by cases l <;> simp [textN, numN, decN] <;> (try split) <;> (try split) <;> simp
                simp only [textN, List.length_cons, List.length_append]; omega
  | sel a b c => right; refine ⟨rfl, .inl ?_⟩; have h1 : 0 < (textN a).length := by cases a <;> simp [textN, numN, decN] <;> (try split) <;> (try split) <;> simp
                 simp only [textN, List.length_cons, List.length_append]; omega
/-- What stands free is read. -/
theorem free_reads (t : Tm) : ∀ x, x ∈ sfree t → x ∈ readsN (parts t) := by
  induction t with
  | num n => intro x h; simp [sfree, sortN] at h
  | var c => intro x h; simpa [sfree, readsN, parts, varOf] using h
  | fn c b ih => intro x h; have := ih x ((mem_less _ _ _).1 h).1; simpa [readsN, parts, varOf] using this
  | fix f c b ih => intro x h; have := ih x ((mem_less _ _ _).1 h).1; simpa [readsN, parts, varOf] using this
  | app f a h1 h2 => intro x h; have := ((mem_sort _ _).1 h).2; rw [List.mem_append] at this; have e : readsN (parts (.app f a)) = readsN (parts f) ++ readsN (parts a) := by simp [readsN, parts, varOf]
                     rw [e, List.mem_append]; exact this.imp (h1 x) (h2 x)
  | bind c f a h1 h2 => intro x h; have := ((mem_sort _ _).1 h).2; rw [List.mem_append] at this; have e : readsN (parts (.bind c f a)) = readsN (parts f) ++ readsN (parts a) := by simp [readsN, parts, varOf]
                        rw [e, List.mem_append]; exact this.imp (h1 x) (fun h => h2 x ((mem_less _ _ _).1 h).1)
  | op s f a h1 h2 => intro x h; have := ((mem_sort _ _).1 h).2; rw [List.mem_append] at this; have e : readsN (parts (.op s f a)) = readsN (parts f) ++ readsN (parts a) := by simp [readsN, parts, varOf]
                      rw [e, List.mem_append]; exact this.imp (h1 x) (h2 x)
  | sel a b c h1 h2 h3 => intro x h; have := ((mem_sort _ _).1 h).2; rw [List.mem_append, List.mem_append] at this; have e : readsN (parts (.sel a b c)) = readsN (parts a) ++ (readsN (parts b) ++ readsN (parts c)) := by simp [readsN, parts, varOf]
                          rw [e, List.mem_append, List.mem_append]; exact this.imp (h1 x) (fun h => h.imp (h2 x) (h3 x))
/-- What is read stands free or is bound somewhere. -/
theorem reads_free (t : Tm) : t.good → ∀ x, x ∈ readsN (parts t) → x ∈ sfree t ∨ x ∈ (parts t).flatMap bindsOf := by
  induction t with
  | num n => intro hg x h; simp [readsN, parts, varOf] at h
  | var c => intro hg x h; left; simpa [sfree, readsN, parts, varOf] using h
  | fn c b ih =>
    intro hg x h
    have h' : x ∈ readsN (parts b) := by simpa [readsN, parts, varOf] using h
    have e : (parts (.fn c b)).flatMap bindsOf = c :: (parts b).flatMap bindsOf := by simp [parts, bindsOf]
    rw [e, sfree, mem_less]
    by_cases hc : x = c
    · right; simp [hc]
    · exact (ih hg.2 x h').imp (fun k => ⟨k, by simpa using hc⟩) (fun k => List.mem_cons_of_mem _ k)
  | fix f c b ih =>
    intro hg x h
    have h' : x ∈ readsN (parts b) := by simpa [readsN, parts, varOf] using h
    have e : (parts (.fix f c b)).flatMap bindsOf = f :: c :: (parts b).flatMap bindsOf := by simp [parts, bindsOf]
    rw [e, sfree, mem_less]
    by_cases hc : x ∈ [f, c]
    · right; simp at hc; rcases hc with hc | hc <;> simp [hc]
    · exact (ih hg.2.2.2 x h').imp (fun k => ⟨k, hc⟩) (fun k => List.mem_cons_of_mem _ (List.mem_cons_of_mem _ k))
  | app f a h1 h2 =>
    intro hg x h
    have e1 : readsN (parts (.app f a)) = readsN (parts f) ++ readsN (parts a) := by simp [readsN, parts, varOf]
    have e : (parts (.app f a)).flatMap bindsOf = (parts f).flatMap bindsOf ++ (parts a).flatMap bindsOf := by simp [parts, bindsOf]
    rw [e1, List.mem_append] at h
    rw [free_app hg.1 hg.2, e, List.mem_append]
    rcases h with h | h
    · rcases h1 hg.1 x h with k | k
      · exact .inl (.inl k)
      · exact .inr (.inl k)
    · rcases h2 hg.2 x h with k | k
      · exact .inl (.inr k)
      · exact .inr (.inr k)
  | bind c f a h1 h2 =>
    intro hg x h
    have e1 : readsN (parts (.bind c f a)) = readsN (parts f) ++ readsN (parts a) := by simp [readsN, parts, varOf]
    have e : (parts (.bind c f a)).flatMap bindsOf = c :: ((parts f).flatMap bindsOf ++ (parts a).flatMap bindsOf) := by simp [parts, bindsOf]
    rw [e1, List.mem_append] at h
    rw [e, List.mem_cons, List.mem_append, sfree, mem_sort, List.mem_append, mem_less]
    by_cases hc : x = c
    · exact .inr (.inl hc)
    · rcases h with h | h
      · rcases h1 hg.2.1 x h with k | k
        · exact .inl ⟨free_letters hg.2.1 k, .inl k⟩
        · exact .inr (.inr (.inl k))
      · rcases h2 hg.2.2 x h with k | k
        · exact .inl ⟨free_letters hg.2.2 k, .inr ⟨k, by simpa using hc⟩⟩
        · exact .inr (.inr (.inr k))
  | op s f a h1 h2 =>
    intro hg x h
    have e1 : readsN (parts (.op s f a)) = readsN (parts f) ++ readsN (parts a) := by simp [readsN, parts, varOf]
    have e : (parts (.op s f a)).flatMap bindsOf = (parts f).flatMap bindsOf ++ (parts a).flatMap bindsOf := by simp [parts, bindsOf]
    rw [e1, List.mem_append] at h
    rw [e, List.mem_append, sfree, mem_sort, List.mem_append]
    rcases h with h | h
    · rcases h1 hg.2.1 x h with k | k
      · exact .inl ⟨free_letters hg.2.1 k, .inl k⟩
      · exact .inr (.inl k)
    · rcases h2 hg.2.2 x h with k | k
      · exact .inl ⟨free_letters hg.2.2 k, .inr k⟩
      · exact .inr (.inr k)
  | sel a b c h1 h2 h3 =>
    intro hg x h
    have e1 : readsN (parts (.sel a b c)) = readsN (parts a) ++ (readsN (parts b) ++ readsN (parts c)) := by simp [readsN, parts, varOf]
    have e : (parts (.sel a b c)).flatMap bindsOf = (parts a).flatMap bindsOf ++ ((parts b).flatMap bindsOf ++ (parts c).flatMap bindsOf) := by simp [parts, bindsOf]
    rw [e1, List.mem_append, List.mem_append] at h
    rw [e, List.mem_append, List.mem_append, sfree, mem_sort, List.mem_append, List.mem_append]
    rcases h with h | h | h
    · rcases h1 hg.1 x h with k | k
      · exact .inl ⟨free_letters hg.1 k, .inl k⟩
      · exact .inr (.inl k)
    · rcases h2 hg.2.1 x h with k | k
      · exact .inl ⟨free_letters hg.2.1 k, .inr (.inl k)⟩
      · exact .inr (.inr (.inl k))
    · rcases h3 hg.2.2 x h with k | k
      · exact .inl ⟨free_letters hg.2.2 k, .inr (.inr k)⟩
      · exact .inr (.inr (.inr k))
theorem mem_bound {t : Tm} (hg : t.good) (x : UInt8) (h : x ∈ readsN (parts t)) : x ∈ sfree t ∨ x ∈ sbound t := by
  have hl : x ∈ letters := by
    unfold readsN at h
    obtain ⟨p, hp, hx⟩ := List.mem_flatMap.1 h
    have hgp := parts_good hg hp
    cases p with
    | var c => simp only [varOf, List.mem_singleton] at hx; subst hx; exact nam_letter hgp
    | _ => simp [varOf] at hx
  rcases reads_free t hg x h with k | k
  · exact .inl k
  · right
    unfold sbound boundTo
    rw [mem_sort, List.take_length]
    exact ⟨hl, k⟩
/-- The parts' texts, as a row. -/
theorem kParts (s : Text) (hs : s.length ≤ 100000) (T : Tm) (hT : readS s = some T) (w : World) : Calls Tryz.prog 11 #[.string ⟨s.toArray⟩] w fun e w' => ∃ g c, e = .returned (.tuple #[.slice (some ⟨g, 0, none⟩) (parts T).length c, .bool true]) ∧ (∀ i p, (parts T)[i]? = some p → w'.cell? ⟨g, i, none⟩ = some (.string ⟨(textN p).toArray⟩)) ∧ Below w.heap.size w w' := by
  have h := iPartsOf_c s w (by omega)
  rw [← readS_eq, hT] at h
  refine h.mono fun e w' ⟨v, he, hS, hB⟩ => ?_
  obtain ⟨_, h2⟩ := Strs.cases hS
  have hlen : (partsO (some T)).length = (parts T).length := by simp [partsO, partsT]
  have h0 : ∃ p, (parts T)[0]? = some p := by cases T <;> exact ⟨_, rfl⟩
  obtain ⟨p0, hp0⟩ := h0
  have hat : ∀ (i : Nat) (p : Tm), (parts T)[i]? = some p → (partsO (some T))[i]? = some (textN p) := fun i p hp => by show (List.map textN (parts T))[i]? = _; rw [List.getElem?_map, hp]; rfl
  obtain ⟨g, c, hv, _, _, _, _⟩ := h2 0 _ (hat 0 p0 hp0)
  rw [hlen] at hv
  refine ⟨g, c, by rw [he, hv]; rfl, fun i p hp => ?_, hB⟩
  obtain ⟨g', c', hv', _, _, hc, _⟩ := h2 i _ (hat i p hp)
  rw [hv] at hv'
  injection hv' with h3 h4 h5
  injection h3 with h3
  injection h3 with h3
  subst h3
  exact hc

end Go.Proofs.YtcabmcpalgpfpaaGreatDoor

/- Laws over drawn terms: rows of texts; FnParts. -/
namespace Go.Proofs.YtcabmcpalgpfpaaGreatDoor
open Go.RowKit Go.Shelf
open Ff
set_option linter.unusedVariables false
attribute [local irreducible] Calls

theorem part_le {T p : Tm} (hp : p ∈ parts T) : (textN p).length ≤ (textN T).length ∧ (parts p).length ≤ (parts T).length ∧ p.depth ≤ T.depth := by
  induction T with
  | num n => simp only [parts, List.mem_singleton] at hp; subst hp; exact ⟨Nat.le_refl _, Nat.le_refl _, Nat.le_refl _⟩
  | var c => simp only [parts, List.mem_singleton] at hp; subst hp; exact ⟨Nat.le_refl _, Nat.le_refl _, Nat.le_refl _⟩
  | fn c b ih =>
    simp only [parts, List.mem_cons] at hp
    rcases hp with rfl | hp
    · exact ⟨Nat.le_refl _, Nat.le_refl _, Nat.le_refl _⟩
    · have := ih hp; simp only [textN, parts, Tm.depth, List.length_cons]; omega
  | fix f c b ih =>
    simp only [parts, List.mem_cons] at hp
    rcases hp with rfl | hp
    · exact ⟨Nat.le_refl _, Nat.le_refl _, Nat.le_refl _⟩
    · have := ih hp; simp only [textN, parts, Tm.depth, List.length_cons]; omega
  | app f a h1 h2 =>
    simp only [parts, List.mem_cons, List.mem_append] at hp
    rcases hp with rfl | hp | hp
    · exact ⟨Nat.le_refl _, Nat.le_refl _, Nat.le_refl _⟩
    · have := h1 hp; simp only [textN, parts, Tm.depth, List.length_cons, List.length_append]; omega
    · have := h2 hp; simp only [textN, parts, Tm.depth, List.length_cons, List.length_append]; omega
  | bind c f a h1 h2 =>
    simp only [parts, List.mem_cons, List.mem_append] at hp
    rcases hp with rfl | hp | hp
    · exact ⟨Nat.le_refl _, Nat.le_refl _, Nat.le_refl _⟩
    · have := h1 hp; simp only [textN, parts, Tm.depth, List.length_cons, List.length_append]; omega
    · have := h2 hp; simp only [textN, parts, Tm.depth, List.length_cons, List.length_append]; omega
  | op c f a h1 h2 =>
    simp only [parts, List.mem_cons, List.mem_append] at hp
    rcases hp with rfl | hp | hp
    · exact ⟨Nat.le_refl _, Nat.le_refl _, Nat.le_refl _⟩
    · have := h1 hp; simp only [textN, parts, Tm.depth, List.length_cons, List.length_append]; omega
    · have := h2 hp; simp only [textN, parts, Tm.depth, List.length_cons, List.length_append]; omega
  | sel a b c h1 h2 h3 =>
    simp only [parts, List.mem_cons, List.mem_append] at hp
    rcases hp with rfl | hp | hp | hp
    · exact ⟨Nat.le_refl _, Nat.le_refl _, Nat.le_refl _⟩
    · have := h1 hp; simp only [textN, parts, Tm.depth, List.length_cons, List.length_append]; omega
    · have := h2 hp; simp only [textN, parts, Tm.depth, List.length_cons, List.length_append]; omega
    · have := h3 hp; simp only [textN, parts, Tm.depth, List.length_cons, List.length_append]; omega
theorem depth_parts (t : Tm) : t.depth ≤ (parts t).length := by
  induction t with
  | num n => simp [Tm.depth, parts]
  | var c => simp [Tm.depth, parts]
  | _ => simp only [Tm.depth, parts, List.length_cons, List.length_append]; omega
/-- A part's text reads as the part. -/
theorem part_read {s : Text} {T p : Tm} (h : readS s = some T) (hp : p ∈ parts T) : readS (textN p) = some p := by
  have h1 := part_le hp
  have h2 := readS_nest h
  have h3 := readS_text h
  obtain ⟨_, _, _, h4⟩ := readS_some h
  rw [← h3] at h4
  exact text_readS (parts_good (readS_good h) hp) (by omega) (by omega)
theorem kPartsI (s : Text) (hs : s.length ≤ 100000) (w : World) : Calls Tryz.prog 11 #[.string ⟨s.toArray⟩] w fun e w' => ∃ v, e = .returned (.tuple #[v, .bool (readS s).isSome]) ∧ Strs w' w.heap.size v (partsO (readS s)) ∧ Below w.heap.size w w' := by rw [readS_eq]; exact iPartsOf_c s w (by omega)
theorem kValidT {s : Text} {T : Tm} (hT : readS s = some T) (hs : s.length ≤ 100000) (w : World) : Calls Tryz.prog 8 #[.string ⟨s.toArray⟩] w fun e w' => e = .returned (.bool true) ∧ Below w.heap.size w w' := by have h := kValid s hs w; rw [hT] at h; exact h
theorem rows_len {s : Text} {T : Tm} (h : readS s = some T) : (parts T).length ≤ 120 := readS_parts h

end Go.Proofs.YtcabmcpalgpfpaaGreatDoor
