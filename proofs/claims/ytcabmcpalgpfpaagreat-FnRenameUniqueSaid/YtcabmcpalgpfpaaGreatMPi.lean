import Derived.Test.YtcabmcpalgpfpaaGreatMPa
/- The program's PartsOf. -/
namespace Go.Proofs.YtcabmcpalgpfpaaGreat
open Go.RowKit Go.Shelf
open Ff
set_option linter.unusedVariables false
attribute [local go_sem] Oper.semAt_some

end Go.Proofs.YtcabmcpalgpfpaaGreat
