/- IsValue: the model's and the program's. -/
import Derived.Test.YtppllaonbihflaaValid
import Derived.Test.YtppllaonbihflaaTmC
namespace Go.Proofs.Ytppllaonbihflaa
open Go.RowKit
open Ff
set_option linter.unusedVariables false

theorem kind_val {t : Tm} (h : t.good) : (((kindOf t : Int) == 110) || ((kindOf t : Int) == 92) || ((kindOf t : Int) == 64)) = t.isVal := by
  cases t with
  | op s l r => rcases h.1 with h | h | h <;> subst h <;> rfl
  | _ => rfl
def isNum : Tm → Bool
  | .num _ => true | _ => false
def isFun : Tm → Bool
  | .fn _ _ => true | .fix _ _ _ => true | _ => false
def numV : Tm → Value
  | .num n => pl (.num n) | _ => .agg #[.int .i64 0]
def funV : Tm → Value
  | .fn c b => pl (.fn c b) | .fix f c b => pl (.fix f c b) | _ => .agg #[.int .u8 0, .int .u8 0, .nilIface]
theorem ta_num (t : Tm) (w : World) : (Instr.typeAssert (.iface (ty t) (pl t)) 42 124 true).run Try.prog w = .ok (.tuple #[numV t, .bool (isNum t)]) w := by
  cases t <;> kernel_rfl
theorem ta_fun (t : Tm) (w : World) : (Instr.typeAssert (.iface (ty t) (pl t)) 42 90 true).run Try.prog w = .ok (.tuple #[funV t, .bool (isFun t)]) w := by
  cases t <;> kernel_rfl
end Go.Proofs.Ytppllaonbihflaa
