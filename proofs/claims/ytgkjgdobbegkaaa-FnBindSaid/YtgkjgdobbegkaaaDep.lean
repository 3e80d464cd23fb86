/- DepthOf: the model's and the program's. -/
import Derived.Test.YtgkjgdobbegkaaaValid
import Derived.Test.YtgkjgdobbegkaaaTmC
namespace Go.Proofs.Ytgkjgdobbegkaaa
open Go.RowKit
open Ff
set_option linter.unusedVariables false

/-- What a text's depth is told as. -/
def depthI (o : Option Tm) : Int := match o with | some t => t.depth | none => -1
set_option maxHeartbeats 1000000 in
theorem iDepthOf_c (s : Text) (w : World) (hl : s.length ≤ 9223372036854775807) :
    Calls Try.prog 18 #[.string ⟨s.toArray⟩] w fun e w' => e = .returned (.int .i64 (depthI (readT s))) ∧ Below w.heap.size w w' := by
  have C := read_c s w hl
  go_enter Try.func18, Try.ntmps18
  go_wp2_with fail
  refine C.mono ?_
  clear C
  rcases hr : readT s with _ | t
  · rintro e w1 ⟨rfl, hb1⟩
    have HR := Lib.hid hr
    clear hr
    go_wp2_with fail
    go_ret
    exact ⟨by rw [HR.out]; rfl, hb1⟩
  · rintro e w1 ⟨rfl, hb1⟩
    have hd := readS_depth (readS_eq s ▸ hr)
    have D := depth_c 1000 t (by omega) (Nat.le_refl _) w1
    rw [enc_ty t] at D ⊢
    have HR := Lib.hid hr
    clear hr
    go_wp2_with (go_at_call 36; refine D.mono ?_; rintro e w2 ⟨rfl, hb2⟩)
    go_ret
    exact ⟨by rw [HR.out]; rfl, hb1.trans (hb2.mono hb1.size)⟩

end Go.Proofs.Ytgkjgdobbegkaaa
