import Derived.Test.YtmkibadkcmljnaaGreatDoorStC
import Derived.Test.YtmkibadkcmljnaaGreatDoorStN
import Derived.Test.YtmkibadkcmljnaaGreatDoorStA
import Derived.Test.YtmkibadkcmljnaaGreatDoorMTx
import Derived.Test.YtmkibadkcmljnaaGreatDoorMPe
/- RedexOf: the specification's and the program's; the law. -/
namespace Go.Proofs.YtmkibadkcmljnaaGreatDoor
open Go.RowKit
open Ff
set_option linter.unusedVariables false

/-- What a state's next part is. -/
def redexO (s : Text) : Option Tm := (stateO s).bind fun t => if t.isVal = true then none else some (partAt t (redexP t))
def redexT : Option Tm → Text
  | some t => textN t
  | none => []
/-- What is known of a state. -/
theorem state_facts {s : Text} {t : Tm} (h : stateO s = some t) : t.good ∧ t.depth ≤ 1500 ∧ (parts t).length ≤ 1500 ∧ ∀ x, cntF t x = 0 := by
  unfold stateO at h
  rcases hr : readU 1500 s with _ | t'
  · rw [hr] at h; cases h
  · rw [hr] at h
    simp only [Option.bind_some] at h
    split at h
    · rename_i hz
      injection h with h
      subst h
      have hg := readU_good hr
      exact ⟨hg, readU_deep hr, readU_parts hr, (free_nil hg).1 hz⟩
    · cases h
theorem part_at_facts : ∀ (t : Tm) (p : List Nat), PathOk t p → (t.good → (partAt t p).good) ∧ (partAt t p).depth ≤ t.depth ∧ (parts (partAt t p)).length ≤ (parts t).length
  | t, [], _ => ⟨fun h => h, Nat.le_refl _, Nat.le_refl _⟩
  | t, i :: p, h => by
    obtain ⟨s, hs, h⟩ := h
    have hm := List.mem_of_getElem? hs
    obtain ⟨h1, h2, h3⟩ := part_at_facts s p h
    have e : partAt t (i :: p) = partAt s p := by simp only [partAt, hs]
    rw [e]
    exact ⟨fun g => h1 (Tm.kid_good g hm), by have := kid_depth hm; omega, by have := parts_kid_le hm; omega⟩
/-- Nothing told of what fills. -/
theorem fill_any : FillOk (fun _ _ _ _ _ => True) where
  keep := fun _ _ _ _ _ _ _ _ => trivial
  mono := fun _ _ _ _ _ _ _ _ => trivial
  whole := fun _ _ _ => trivial
  within := fun B t s k fn first cap p w hg hs hB _ => by
    have hmf : ∀ (fn : Fn) (first cap : Array Value) (w : World), (Instr.makeFunc fn first cap).run Tryz.prog w = .ok (.func fn first cap) w := fun _ _ _ _ => rfl
    obtain ⟨n, v, hnv⟩ := enc_gen t
    rw [hnv]
    clear hnv
    go_enter Tryz.func64, Tryz.ntmps64
    go_wp2_with fail
    go_ret
    exact ⟨_, _, _, rfl, trivial, below_three w _ _ _⟩
end Go.Proofs.YtmkibadkcmljnaaGreatDoor
