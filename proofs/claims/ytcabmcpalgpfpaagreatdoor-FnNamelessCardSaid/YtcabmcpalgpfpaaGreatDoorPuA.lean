import Derived.Test.YtcabmcpalgpfpaaGreatDoorPt
import Derived.Test.YtcabmcpalgpfpaaGreatDoorMUq
import Derived.Lib.AppendIntMem
/- The program's small functions of putting: rows of names and kids, a part that is made anew. -/
namespace Go.Proofs.YtcabmcpalgpfpaaGreatDoor
open Go.RowKit
open Ff
set_option linter.unusedVariables false
attribute [local go_sem] Oper.semAt_some

/-- A slice whose first cells hold the values l. -/
def RowAt (w : World) (a : Option Addr) (l : List Value) : Prop := ∀ i x, l[i]? = some x → ∃ g, a = some ⟨g, 0, none⟩ ∧ g < w.heap.size ∧ w.cell? ⟨g, i, none⟩ = some x
theorem SliceOf.row {B : Nat} {w : World} {v : Value} {l : List Value} (h : SliceOf B w v l) : ∃ a, v = .slice a l.length l.length ∧ RowAt w a l := by
  obtain ⟨a, e, h⟩ := h.uni
  exact ⟨a, e, fun i x hx => by obtain ⟨g, h1, h2, h3, h4⟩ := h i x hx; exact ⟨g, h1, h3, h4⟩⟩
theorem RowAt.keep {w w' : World} {a : Option Addr} {l : List Value} (h : RowAt w a l) (hb : Below w.heap.size w w') : RowAt w' a l := fun i x hx => by
  obtain ⟨g, h1, h2, h3⟩ := h i x hx
  exact ⟨g, h1, by have := hb.size; omega, (hb.cell (p := ⟨g, i, none⟩) h2).trans h3⟩
theorem bv_eq (c d : UInt8) : ((c.toNat : Int) == (d.toNat : Int)) = decide (c = d) := by
  by_cases h : c = d
  · subst h; simp
  · have : (c.toNat : Int) ≠ d.toNat := fun e => h (UInt8.toNat_inj.1 (by omega))
    simp [h, this]
theorem findI_take {s : Text} {c : UInt8} (h : c ∉ s) : findI c s = -1 := findI_none h

set_option maxRecDepth 100000 in
set_option maxHeartbeats 2000000 in
theorem indexB_c (ns : Text) (c : UInt8) (a : Option Addr) (cap : Nat) (w : World) (hlen : ns.length ≤ 1000) (hrow : RowAt w a (ns.map bv)) :
    Calls Tryz.prog 54 #[.slice a ns.length cap, bv c] w fun e w' => e = .returned (.int .i64 (findI c ns)) ∧ w' = w := by
  have HA := Lib.hid hrow
  clear hrow
  go_enter Tryz.func54, Tryz.ntmps54
  go_wp2_with fail
  go_loopw [8] (fun ix wr => ∃ i : Nat, i ≤ ns.length ∧ ix = .int .i64 i ∧ c ∉ ns.take i ∧ wr = w) (fun ix _ => ns.length - (intOf ix).toNat)
  case atStart => exact ⟨0, Nat.zero_le _, rfl, by simp, rfl⟩
  case round =>
    obtain ⟨i, hi, rfl, hn, rfl⟩ := hrel
    have HN := Lib.hid hn
    clear hn
    by_cases hlt : i < ns.length
    · obtain ⟨x, hx⟩ : ∃ x, ns[i]? = some x := ⟨_, List.getElem?_eq_getElem hlt⟩
      obtain ⟨g, rfl, hg, hc⟩ := HA.out i (bv x) (by simp [hx])
      have HX := Lib.hid hx
      clear hx
      by_cases hk : c = x
      · subst hk
        go_wp2_with fail
        go_ret
        exact ⟨by rw [findI_at HX.out HN.out]; rfl, rfl⟩
      · have hk2 : ((c.toNat : Int) == (x.toNat : Int)) = false := by rw [bv_eq]; simp [hk]
        go_wp2_with fail
        refine ⟨⟨i + 1, by omega, by go_num, ?_, trivial⟩, by simp [intOf]; omega⟩
        rw [List.take_add_one, HX.out]
        simp only [Option.toList_some, List.mem_append, List.mem_singleton, not_or]
        exact ⟨HN.out, hk⟩
    · obtain rfl : i = ns.length := by omega
      go_wp2_with fail
      go_ret
      have hn := HN.out
      rw [List.take_length] at hn
      exact ⟨by rw [findI_none hn]; rfl, rfl⟩
/-- The last of the kids. -/
def lastK (t : Tm) : Tm := (t.kids.getLast?).getD t
end Go.Proofs.YtcabmcpalgpfpaaGreatDoor
