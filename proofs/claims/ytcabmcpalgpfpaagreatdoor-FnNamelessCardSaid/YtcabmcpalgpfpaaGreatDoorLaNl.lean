import Derived.Test.YtcabmcpalgpfpaaGreatDoorLaP
import Derived.Test.YtcabmcpalgpfpaaGreatDoorNh
import Derived.Test.YtcabmcpalgpfpaaGreatDoorNl
import Derived.Test.YtcabmcpalgpfpaaGreatDoorMUq
import Derived.Test.YtcabmcpalgpfpaaGreatDoorUh
/- Laws over drawn terms: DrawNameless, DrawIsUnique; FnNameless. -/
namespace Go.Proofs.YtcabmcpalgpfpaaGreatDoor
open Go.RowKit
open Ff
set_option linter.unusedVariables false
attribute [local irreducible] Calls

set_option maxHeartbeats 2000000 in
theorem drawNameless_c (a : Option Addr) (l c : Nat) (w : World) (h : Src w a l c) :
    Calls Tryz.prog 4 #[.slice a l c] w fun e w' => ∃ s : Text, e = .returned (.string ⟨s.toArray⟩) ∧ s.length ≤ 5000 ∧ Below w.heap.size w w' := by
  go_enter Tryz.func4, Tryz.ntmps4
  go_wp2_with fail
  refine (open_c a l c w h).mono ?_; rintro e w1 ⟨l', rfl, hD⟩
  go_wp2_with fail
  refine (some_c hD (by omega)).mono ?_; rintro e w2 ⟨s, p2, rfl, hs, hp2, hD2⟩
  go_wp2_with fail
  go_ret
  exact ⟨s, rfl, hs, hD2.below⟩
theorem unq_short3 (s : Text) : (textO (unqO s)).length ≤ 5000 := by
  rcases hr : readS s with _ | t
  · have hO : unqO s = none := by unfold unqO; rw [hr]; rfl
    rw [hO]; simp [textO]
  · obtain ⟨hO, hA⟩ := unqO_facts hr
    obtain ⟨tg, td, tp⟩ := read_facts hr
    rw [hO]
    rcases ho : unqT 24 id (sfree t) t with _ | r
    · simp [textO]
    · have A := hA r ho
      have := text_len r.1
      rw [A.many] at this
      show (textN r.1).length ≤ 5000
      omega
set_option maxHeartbeats 2000000 in
theorem drawIsUnique_c (a : Option Addr) (l c : Nat) (w : World) (h : Src w a l c) :
    Calls Tryz.prog 7 #[.slice a l c] w fun e w' => ∃ s : Text, e = .returned (.string ⟨s.toArray⟩) ∧ s.length ≤ 5000 ∧ Below w.heap.size w w' := by
  go_enter Tryz.func7, Tryz.ntmps7
  go_wp2_with fail
  refine (open_c a l c w h).mono ?_; rintro e w1 ⟨l', rfl, hD⟩
  go_wp2_with fail
  refine (some_c hD (by omega)).mono ?_; rintro e w2 ⟨s, p2, rfl, hs, hp2, hD2⟩
  go_wp2_with fail
  refine (pick_g hD2 _ (by omega) (by omega) (by omega)).mono ?_; rintro e w3 ⟨k1, rfl, hk1, hD3⟩
  go_wp2_with fail
  · have K := sUnq_c s w3 (by omega)
    have hz := unq_short3 s
    generalize textO (unqO s) = u at *
    refine K.mono ?_; rintro e w4 ⟨rfl, hb4⟩
    go_wp2_with fail
    go_ret
    exact ⟨u, rfl, hz, next hD3.below hb4⟩
  · go_ret
    exact ⟨s, rfl, hs, hD3.below⟩
theorem letter_nam {x : UInt8} (h : x ∈ letters) : isNam x = true := by
  simp only [letters, List.mem_cons, List.not_mem_nil, or_false] at h
  rcases h with h | h | h | h | h | h | h | h | h | h | h | h | h | h | h | h <;> subst h <;> decide
theorem count_le (s : Text) (k : Nat) : (s.take k).count 36 ≤ k := Nat.le_trans List.count_le_length (by rw [List.length_take]; omega)
theorem filter_le (s : Text) (k : Nat) : ((s.take k).filter isNam).length ≤ k := Nat.le_trans (List.length_filter_le _ _) (by rw [List.length_take]; omega)
set_option maxRecDepth 100000 in
set_option maxHeartbeats 8000000 in
theorem law_fnNameless (a : Option Addr) (l c : Nat) (a2 : Option Addr) (l2 c2 : Nat) (w : World) (h : Src w a l c) (h2 : Src w a2 l2 c2) :
    Calls Tryz.prog 3 #[.slice a l c, .slice a2 l2 c2] w fun e w' => e = .returned (.bool true) ∧ Below w.heap.size w w' := by
  by_cases hl : l ≤ 1048576
  · have hl2 : ¬ 1048576 < (l : Int) := by omega
    by_cases hm : l2 ≤ 1048576
    · have hm2 : ¬ 1048576 < (l2 : Int) := by omega
      go_enter Tryz.func3, Tryz.ntmps3
      go_wp2_with fail
      refine (drawNameless_c a l c w h).mono ?_; rintro e w1 ⟨s, rfl, hs, hb⟩
      have I := fun W => iNameless_c s W (by omega)
      have S := fun W => sNameless_c s W (by omega)
      have V := fun W => kValid s (by omega) W
      rcases hT : readS s with _ | T
      · have hO : nlO s = none := by unfold nlO; rw [hT]; rfl
        rw [hO] at I S
        rw [hT] at V
        simp only [ntO, Option.isSome_none] at I S V
        clear hO hT
        go_wp2_with fail
        refine (I _).mono ?_; rintro e w2 ⟨rfl, hb2⟩; replace hb := next hb hb2; clear hb2 I
        go_wp2_with fail
        refine (S _).mono ?_; rintro e w3 ⟨rfl, hb2⟩; replace hb := next hb hb2; clear hb2 S
        go_wp2_with fail
        refine (drawIsUnique_c a2 l2 c2 _ (h2.keep hb)).mono ?_; rintro e w4 ⟨x, rfl, hx, hb2⟩; replace hb := next hb hb2; clear hb2
        have X1 := fun W => iIsUnique_c x W (by omega)
        have X2 := fun W => sIsUnique_c x W (by omega)
        simp only [← readS_eq] at X1
        generalize uniqB (readS x) = B at *
        cases B <;>
        · go_wp2_with fail
          refine (V _).mono ?_; rintro e w5 ⟨rfl, hb2⟩; replace hb := next hb hb2; clear hb2
          go_wp2_with fail
          refine (X1 _).mono ?_; rintro e w6 ⟨rfl, hb2⟩; replace hb := next hb hb2; clear hb2
          go_wp2_with fail
          refine (X2 _).mono ?_; rintro e w7 ⟨rfl, hb2⟩; replace hb := next hb hb2; clear hb2
          go_wp2_with fail
          refine (V _).mono ?_; rintro e w8 ⟨rfl, hb2⟩; replace hb := next hb hb2; clear hb2
          go_wp2_with fail
          refine (X1 _).mono ?_; rintro e w9 ⟨rfl, hb2⟩; replace hb := next hb hb2; clear hb2
          go_wp2_with fail
          refine (X2 _).mono ?_; rintro e w10 ⟨rfl, hb2⟩; replace hb := next hb hb2; clear hb2
          go_wp2_with fail
          go_ret
          exact ⟨rfl, hb⟩
      · have hO : nlO s = some (nlT 24 noF T) := by unfold nlO; rw [hT]; rfl
        obtain ⟨tg, td, tp⟩ := read_facts hT
        have K := nl_ok 24 noF T td tg noF_ok
        have hzl := (nlT_len 24 noF T td tg noF_ok).1
        have P := fun W => kParts s (by omega) T hT W
        have F := fun W => kFree s (by omega) W
        have hfl := sfree_len T
        rw [hO] at I S
        rw [hT] at V F
        simp only [ntO, txtP, Option.isSome_some] at I S V F
        clear hO hT
        generalize nlT 24 noF T = z at *
        have hw1 : ∀ y ∈ z.filter isNam, y ∈ sfree T := fun y hy => by
          rw [List.mem_filter] at hy
          exact (mem_free tg y).2 ((K.mem y hy.2).1 hy.1).2
        have hw2 : ∀ y ∈ sfree T, y ∈ z.filter isNam := fun y hy => by
          have hn := letter_nam (free_letters tg hy)
          rw [List.mem_filter]
          exact ⟨(K.mem y hn).2 ⟨rfl, (mem_free tg y).1 hy⟩, hn⟩
        have hsum : z.count 36 + (z.filter isNam).length = (readsN (parts T)).length := K.many
        have hrl := reads_len (parts T)
        have hc1 : z.count 36 ≤ z.length := List.count_le_length
        have hc2 : (z.filter isNam).length ≤ z.length := List.length_filter_le _ _
        have HW1 := Lib.hid hw1
        have HW2 := Lib.hid hw2
        have HS := Lib.hid hsum
        have HG := Lib.hid tg
        clear K hw1 hw2 hsum tg td
        go_wp2_with fail
        refine (I _).mono ?_; rintro e w2 ⟨rfl, hb2⟩; replace hb := next hb hb2; clear hb2 I
        go_wp2_with fail
        refine (S _).mono ?_; rintro e w3 ⟨rfl, hb2⟩; replace hb := next hb hb2; clear hb2 S
        go_wp2_with fail
        refine (drawIsUnique_c a2 l2 c2 _ (h2.keep hb)).mono ?_; rintro e w4 ⟨x, rfl, hx, hb2⟩; replace hb := next hb hb2; clear hb2
        have X1 := fun W => iIsUnique_c x W (by omega)
        have X2 := fun W => sIsUnique_c x W (by omega)
        simp only [← readS_eq] at X1
        generalize uniqB (readS x) = B at *
        have hBB : (B != B) = false := by cases B <;> rfl
        go_wp2_with fail
        refine (V _).mono ?_; rintro e w5 ⟨rfl, hb2⟩; replace hb := next hb hb2; clear hb2 V
        go_wp2_with fail
        refine (X1 _).mono ?_; rintro e w6 ⟨rfl, hb2⟩; replace hb := next hb hb2; clear hb2 X1
        go_wp2_with fail
        refine (X2 _).mono ?_; rintro e w7 ⟨rfl, hb2⟩; replace hb := next hb hb2; clear hb2 X2
        go_wp2_with fail
        go_loopw [11, 12, 91] (fun sg lt ix wr => ∃ k : Nat, k ≤ z.length ∧ ix = .int .i64 k ∧ sg = .int .i64 ((z.take k).count 36 : Nat) ∧ lt = .string ⟨((z.take k).filter isNam).toArray⟩ ∧ wr = w7) (fun _ _ ix _ => z.length - (intOf ix).toNat)
        case atStart => exact ⟨0, Nat.zero_le _, rfl, rfl, rfl, rfl⟩
        case round =>
          obtain ⟨k, hk, rfl, rfl, rfl, rfl⟩ := hrel
          by_cases hlt : k < z.length
          · obtain ⟨d, hd⟩ : ∃ d, z[k]? = some d := ⟨_, List.getElem?_eq_getElem hlt⟩
            have hex := extract_one z k d hd
            have hix := index_byte z k d hd (by rw [size_data]; exact hlt)
            have ht := take_snoc hd
            have hcl := count_le z k
            have hgl := filter_le z k
            have HT := Lib.hid ht
            clear ht hd
            generalize hC : (z.take k).count 36 = C at hcl ⊢
            generalize hF : (z.take k).filter isNam = G at hgl ⊢
            have HC := Lib.hid hC
            have HF := Lib.hid hF
            clear hC hF
            have hwi : IntKind.i64.wrap ((k : Int) + 1) = (k : Int) + 1 := by rw [IntKind.wrap_i64]; omega
            have hwc : IntKind.i64.wrap ((C : Int) + 1) = (C : Int) + 1 := by rw [IntKind.wrap_i64]; omega
            have hI3 : (0 : Int) ≤ (k : Int) := by omega
            have hI4 : (k : Int) + 1 ≤ (z.length : Int) := by omega
            have hI5 : (k : Int) < (z.length : Int) := by omega
            have hq1 : ¬ 9223372036854775807 < G.length + 1 := by omega
            have ha1 : (⟨G.toArray⟩ ++ ⟨#[d]⟩ : ByteArray) = ⟨(G ++ [d]).toArray⟩ := str_app2 G [d]
            by_cases h36 : d = 36
            · have hd36 : (d.toNat : Int) = 36 := by subst h36; rfl
              have hn : isNam d = false := by subst h36; decide
              have HN := Lib.hid hn
              have H36 := Lib.hid h36
              clear h36 hn
              go_wp2_with fail
              refine ⟨⟨k + 1, by omega, by go_num, ?_, ?_, trivial⟩, by simp [intOf]; omega⟩
              · rw [HT.out, List.count_append, HC.out, H36.out]; simp
              · rw [HT.out, List.filter_append, HF.out, List.filter_cons, HN.out]; simp
            · have hd36 : ((d.toNat : Int) == 36) = false := by
                rw [beq_eq_false_iff_ne]; intro e; apply h36; apply UInt8.toNat_inj.1; have : (36 : UInt8).toNat = 36 := rfl; omega
              have hcn : [d].count 36 = 0 := by simp [h36]
              have HCN := Lib.hid hcn
              clear h36 hcn
              by_cases hn : isNam d = true
              · have hb97 : 97 ≤ d.toNat ∧ d.toNat ≤ 112 := by simpa [isNam] using hn
                have h97 : 97 ≤ (d.toNat : Int) := by omega
                have h112 : (d.toNat : Int) ≤ 112 := by omega
                have HN := Lib.hid hn
                clear hn hb97
                go_wp2_with fail
                refine ⟨⟨k + 1, by omega, by go_num, ?_, ?_, trivial⟩, by simp [intOf]; omega⟩
                · rw [HT.out, List.count_append, HC.out, HCN.out, Nat.add_zero]
                · rw [HT.out, List.filter_append, HF.out, List.filter_cons, HN.out]; simp
              · have hn2 : isNam d = false := by cases hh : isNam d; rfl; exact absurd hh hn
                have hb97 : ¬ (97 ≤ d.toNat ∧ d.toNat ≤ 112) := fun e => hn (by simpa [isNam] using e)
                have HN := Lib.hid hn2
                clear hn hn2
                by_cases h97 : 97 ≤ d.toNat
                · have h97' : 97 ≤ (d.toNat : Int) := by omega
                  have h112 : ¬ (d.toNat : Int) ≤ 112 := by omega
                  clear hb97 h97
                  go_wp2_with fail
                  refine ⟨⟨k + 1, by omega, by go_num, ?_, ?_, trivial⟩, by simp [intOf]; omega⟩
                  · rw [HT.out, List.count_append, HC.out, HCN.out, Nat.add_zero]
                  · rw [HT.out, List.filter_append, HF.out, List.filter_cons, HN.out]; simp
                · have h97' : (d.toNat : Int) < 97 := by omega
                  clear hb97 h97
                  go_wp2_with fail
                  refine ⟨⟨k + 1, by omega, by go_num, ?_, ?_, trivial⟩, by simp [intOf]; omega⟩
                  · rw [HT.out, List.count_append, HC.out, HCN.out, Nat.add_zero]
                  · rw [HT.out, List.filter_append, HF.out, List.filter_cons, HN.out]; simp
          · obtain rfl : k = z.length := by omega
            rw [List.take_length]
            go_wp2_with fail
            refine (P _).mono ?_; rintro e w8 ⟨g, cp, rfl, hcell, hb2⟩; replace hb := next hb hb2; clear hb2 P
            have HC := Lib.hid hcell
            clear hcell
            go_wp2_with fail
            go_loopw [16, 125] (fun rd ix wj => ∃ k : Nat, k ≤ (parts T).length ∧ ix = .int .i64 k ∧ rd = .int .i64 ((readsN ((parts T).take k)).length : Nat) ∧ wj = w8) (fun _ ix _ => (parts T).length - (intOf ix).toNat)
            case atStart => exact ⟨0, Nat.zero_le _, rfl, rfl, rfl⟩
            case round =>
              obtain ⟨k, hk, rfl, rfl, rfl⟩ := hrel
              have hrl2 := reads_len ((parts T).take k)
              have htl : ((parts T).take k).length ≤ 120 := by simp; omega
              by_cases hlt : k < (parts T).length
              · obtain ⟨p, hp⟩ : ∃ p, (parts T)[k]? = some p := ⟨_, List.getElem?_eq_getElem hlt⟩
                have hc := HC.out k p hp
                have look := part_look (parts_good HG.out (List.mem_of_getElem? hp))
                have hrt := reads_take _ _ _ hp
                have HR := Lib.hid hrt
                clear hrt hp
                generalize textN p = X at hc look
                generalize hR1 : readsN (List.take k (parts T)) = R1 at HR hrl2 ⊢
                clear hR1
                rcases look with ⟨y, hv, hy, hy2⟩ | ⟨hv, hy | ⟨y, hy, hy2⟩⟩
                · obtain ⟨q, hix⟩ : ∃ h : 0 < (⟨X.toArray⟩ : ByteArray).size, (⟨X.toArray⟩ : ByteArray)[0]'h = y := ⟨by rw [size_data, hy]; simp, index_byte X 0 y (by rw [hy]; rfl) _⟩
                  have hnl : X.length = 1 := by rw [hy]; rfl
                  have hx3 : 97 ≤ (y.toNat : Int) := by omega
                  have q1 : IntKind.i64.wrap ((R1.length : Int) + 1) = (R1.length : Int) + 1 := by rw [IntKind.wrap_i64]; omega
                  have HV := Lib.hid hv
                  have HX := Lib.hid hy
                  clear hv hy
                  go_wp2_with fail
                  exact ⟨⟨k + 1, by omega, by go_num, by rw [HR.out, HV.out, List.length_append]; rfl, trivial⟩, by simp [intOf]; omega⟩
                · have h3 : ((X.length : Int) == 1) = false := by rw [beq_eq_false_iff_ne]; omega
                  have HV := Lib.hid hv
                  clear hv
                  go_wp2_with fail
                  exact ⟨⟨k + 1, by omega, by go_num, by rw [HR.out, HV.out, List.append_nil], trivial⟩, by simp [intOf]; omega⟩
                · obtain ⟨q, hix⟩ : ∃ h : 0 < (⟨X.toArray⟩ : ByteArray).size, (⟨X.toArray⟩ : ByteArray)[0]'h = y := ⟨by rw [size_data, hy]; simp, index_byte X 0 y (by rw [hy]; rfl) _⟩
                  have hnl : X.length = 1 := by rw [hy]; rfl
                  have hx3 : (y.toNat : Int) < 97 := by omega
                  have HV := Lib.hid hv
                  clear hv hy
                  go_wp2_with fail
                  exact ⟨⟨k + 1, by omega, by go_num, by rw [HR.out, HV.out, List.append_nil], trivial⟩, by simp [intOf]; omega⟩
              · obtain rfl : k = (parts T).length := by omega
                rw [List.take_length]
                have A1 := fun W => allIn_c (z.filter isNam) (sfree T) W (by omega) (by omega) HW1.out
                have A2 := fun W => allIn_c (sfree T) (z.filter isNam) W (by omega) (by omega) HW2.out
                have hsw : IntKind.i64.wrap ((z.count 36 : Int) + ((z.filter isNam).length : Int)) = (z.count 36 : Int) + ((z.filter isNam).length : Int) := by rw [IntKind.wrap_i64]; omega
                have hse : (((z.count 36 : Int) + ((z.filter isNam).length : Int)) == ((readsN (parts T)).length : Int)) = true := by rw [beq_iff_eq]; have := HS.out; omega
                clear hrl2 htl hlt HW1 HW2 HS HC hc1 hc2 hrl hzl
                generalize z.count 36 = C at *
                generalize z.filter isNam = G at *
                generalize readsN (parts T) = R at *
                generalize sfree T = FF at *
                go_wp2_with fail
                refine (F _).mono ?_; rintro e w9 ⟨rfl, hb2⟩; replace hb := next hb hb2; clear hb2 F
                go_wp2_with fail
                refine (A1 _).mono ?_; clear A1; rintro e w10 ⟨rfl, rfl⟩
                go_wp2_with fail
                refine (A2 _).mono ?_; clear A2; rintro e w11 ⟨rfl, rfl⟩
                go_wp2_with fail
                go_ret
                exact ⟨rfl, hb⟩
    · have hm2 : 1048576 < (l2 : Int) := by omega
      go_enter Tryz.func3, Tryz.ntmps3
      go_wp2_with fail
      go_ret
      exact ⟨rfl, Below.refl _ w⟩
  · have hl2 : 1048576 < (l : Int) := by omega
    go_enter Tryz.func3, Tryz.ntmps3
    go_wp2_with fail
    go_ret
    exact ⟨rfl, Below.refl _ w⟩
end Go.Proofs.YtcabmcpalgpfpaaGreatDoor
