import Derived.Test.YtcabmcpalgpfpaaGreatDoorMPg
/- The program's putting: into a term whose part does not bind the name. Written by genPh.py. -/
namespace Go.Proofs.YtcabmcpalgpfpaaGreatDoor
open Go.RowKit
open Ff
set_option linter.unusedVariables false
attribute [local go_sem] Oper.semAt_some

end Go.Proofs.YtcabmcpalgpfpaaGreatDoor
