import Derived.Test.YtojbffiffcfblaaUd
import Derived.Test.YtojbffiffcfblaaPuJ
import Derived.Test.YtojbffiffcfblaaPuW
/- Unique: the program's. -/
namespace Go.Proofs.Ytojbffiffcfblaa
open Go.RowKit
open Ff
set_option linter.unusedVariables false
attribute [local go_sem] Oper.semAt_some

/-- What it comes to where a shortage is told. -/
def UnqQ (o : Option (Tm × Text)) (e : Ending) : Prop := (∃ r, o = some r ∧ e = .returned (.tuple #[enc r.1, .bool true])) ∨ (o = none ∧ e = .returned (.tuple #[.nilIface, .bool false]))
theorem nam_of_letter {c : UInt8} (h : c ∈ letters) : isNam c = true := by
  simp only [letters, List.mem_cons, List.not_mem_nil, or_false] at h
  rcases h with h | h | h | h | h | h | h | h | h | h | h | h | h | h | h | h <;> subst h <;> decide
theorem used_free {t : Tm} (h : t.good) : Used (sfree t) := by
  refine ⟨fun c hc => nam_of_letter (free_letters h hc), ?_⟩
  obtain ⟨p, e⟩ := free_filter h
  rw [e]
  exact List.Pairwise.filter _ (by decide)
/-- What Unique comes to, and that it is like what was read. -/
theorem unqO_facts {s : Text} {t : Tm} (hr : readS s = some t) : unqO s = (unqT 24 id (sfree t) t).map (·.1) ∧ ∀ r, unqT 24 id (sfree t) t = some r → Alike r.1 t := by
  obtain ⟨tg, td, tp⟩ := read_facts hr
  refine ⟨by unfold unqO; rw [hr]; rfl, fun r h => (unqT_like 24 tg (fun c hc => hc) (used_free tg) h).1⟩
attribute [local irreducible] Calls
end Go.Proofs.Ytojbffiffcfblaa
