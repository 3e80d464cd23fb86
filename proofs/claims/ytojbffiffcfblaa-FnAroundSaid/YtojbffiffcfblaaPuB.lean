import Derived.Test.YtojbffiffcfblaaPuA
/- The program's remade: a part with other names and kids. Written by genPu.py. -/
namespace Go.Proofs.Ytojbffiffcfblaa
open Go.RowKit
open Ff
set_option linter.unusedVariables false
attribute [local go_sem] Oper.semAt_some

def isApp : Tm → Bool
  | .app _ _ => true | _ => false
def isOp : Tm → Bool
  | .op _ _ _ => true | _ => false
def isSel : Tm → Bool
  | .sel _ _ _ => true | _ => false
def appV : Tm → Value
  | .app f a => pl (.app f a) | _ => .agg #[.nilIface, .nilIface]
def opV : Tm → Value
  | .op o l r => pl (.op o l r) | _ => .agg #[.int .u8 0, .nilIface, .nilIface]
def selV : Tm → Value
  | .sel x y z => pl (.sel x y z) | _ => .agg #[.nilIface, .nilIface, .nilIface]
theorem ta_app (t : Tm) (w : World) : (Instr.typeAssert (.iface (ty t) (pl t)) 36 100 true).run Try.prog w = .ok (.tuple #[appV t, .bool (isApp t)]) w := by
  cases t <;> kernel_rfl
theorem ta_op (t : Tm) (w : World) : (Instr.typeAssert (.iface (ty t) (pl t)) 36 102 true).run Try.prog w = .ok (.tuple #[opV t, .bool (isOp t)]) w := by
  cases t <;> kernel_rfl
theorem ta_sel (t : Tm) (w : World) : (Instr.typeAssert (.iface (ty t) (pl t)) 36 104 true).run Try.prog w = .ok (.tuple #[selV t, .bool (isSel t)]) w := by
  cases t <;> kernel_rfl
end Go.Proofs.Ytojbffiffcfblaa
