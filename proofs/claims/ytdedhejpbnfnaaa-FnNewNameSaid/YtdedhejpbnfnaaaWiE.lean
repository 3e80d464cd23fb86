/- The model's reader of a text: what stands behind the first byte of a term: a call. -/
import Derived.Test.YtdedhejpbnfnaaaWiA
namespace Go.Proofs.Ytdedhejpbnfnaaa
open Go.RowKit
open Ff
set_option linter.unusedVariables false

theorem Fr.set3 {h : Nat} {x0 x1 x2 x3 : Value} {W : World} (f : Fr h x0 x1 x2 x3 W) (y : Value) : Fr h x0 x1 x2 y (W.setCell ⟨h + 1 + 1, 3, none⟩ y) := by
  constructor <;> first | (rw [World.frozen?_setCell]; first | exact f.q0 | exact f.q1 | exact f.q2 | exact f.q3 | exact f.z0 | exact f.z1 | exact f.z2 | exact f.z3) | exact World.cell?_setCell_same _ _ _ f.y3 | (rw [World.cell?_setCell_other _ _ _ _ (by simp)]; first | exact f.p0 | exact f.p1 | exact f.p2 | exact f.p3 | exact f.y0 | exact f.y1 | exact f.y2) | (have := f.sz; simpa [World.setCell] using this)
theorem pApp_kids (m : Nat) (r : Text) : pApp (parse m) r = (kidsN m 2 (some r)).bind fun x => (next1 x.2).bind fun z => if z.1.toNat = 41 then some (mk2 Tm.app x.1, z.2) else none := by
  simp only [pApp, kidsN, Option.map_some, Option.bind_some]
  rcases parse m r with _ | ⟨a, r1⟩
  · simp
  · simp only [Option.bind_some, List.nil_append]
    rcases parse m r1 with _ | ⟨b, r2⟩ <;> simp [mk2]
end Go.Proofs.Ytdedhejpbnfnaaa
