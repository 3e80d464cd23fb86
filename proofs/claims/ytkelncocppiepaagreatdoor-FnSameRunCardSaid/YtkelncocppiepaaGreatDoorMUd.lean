import Derived.Test.YtkelncocppiepaaGreatDoorMUb
import Derived.Test.YtkelncocppiepaaGreatDoorMPg
import Derived.Deep.RegionHeld3
import Derived.Laws.EntriesVeiled
import Derived.Test.YtkelncocppiepaaGreatDoorMPv
import Derived.Test.YtkelncocppiepaaGreatDoorPuW
/- Unique: the program's withPulled. -/
namespace Go.Proofs.YtkelncocppiepaaGreatDoor
open Go.RowKit
open Ff
set_option linter.unusedVariables false
attribute [local go_sem] Oper.semAt_some

theorem below_tri (w : World) (o1 o2 o3 : Obj) : Below w.heap.size w (((w.alloc o1).alloc o2).alloc o3) := (below_two w o1 o2).alloc (by simp; omega) o3
theorem Took.grown {w w' : World} {b : Nat} {u : Text} (h : Took w b u) (hg : Below w.heap.size w w') : w.grownBy w' (some b) ∧ Took w' b u := ⟨(below_grown hg).but _, h.below hg⟩
theorem RowG.at {w : World} {a : Option Addr} {b r : Nat} {l : List Value} (h : RowG w a b r l) : RowAt w a l := fun i x hx => by
  obtain ⟨g, h1, h2, h3, h4⟩ := h i x hx
  exact ⟨g, h1, World.block_lt_of_cell? w _ h4, h4⟩
theorem Tryz.infoB8 : (Tryz.prog.info? 5).map (fun i => (i.zero, i.size, i.bytes)) = some (some (.int .u8 0), 1, 1) := by kernel_rfl
end Go.Proofs.YtkelncocppiepaaGreatDoor

/- Unique: the program's. -/
namespace Go.Proofs.YtkelncocppiepaaGreatDoor
open Go.RowKit
open Ff
set_option linter.unusedVariables false
attribute [local go_sem] Oper.semAt_some

/-- What it comes to where a shortage is told. -/
def UnqQ (o : Option (Tm × Text)) (e : Ending) : Prop := (∃ r, o = some r ∧ e = .returned (.tuple #[enc r.1, .bool true])) ∨ (o = none ∧ e = .returned (.tuple #[.nilIface, .bool false]))
theorem nam_of_letter {c : UInt8} (h : c ∈ letters) : isNam c = true := by
  simp only [letters, List.mem_cons, List.not_mem_nil, or_false] at h
  rcases h with h | h | h | h | h | h | h | h | h | h | h | h | h | h | h | h <;> subst h <;> decide
theorem used_free {t : Tm} (h : t.good) : Used (sfree t) := by
  refine ⟨fun c hc => nam_of_letter (free_letters h hc), ?_⟩
  obtain ⟨p, e⟩ := free_filter h
  rw [e]
  exact List.Pairwise.filter _ (by decide)
/-- What Unique comes to, and that it is like what was read. -/
theorem unqO_facts {s : Text} {t : Tm} (hr : readS s = some t) : unqO s = (unqT 24 id (sfree t) t).map (·.1) ∧ ∀ r, unqT 24 id (sfree t) t = some r → Alike r.1 t := by
  obtain ⟨tg, td, tp⟩ := read_facts hr
  refine ⟨by unfold unqO; rw [hr]; rfl, fun r h => (unqT_like 24 tg (fun c hc => hc) (used_free tg) h).1⟩
attribute [local irreducible] Calls
end Go.Proofs.YtkelncocppiepaaGreatDoor
