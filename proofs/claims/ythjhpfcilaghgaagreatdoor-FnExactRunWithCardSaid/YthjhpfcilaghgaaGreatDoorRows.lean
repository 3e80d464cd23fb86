/-
  NARROWER THAN 'FOR EVERY INPUT', by the rows' own cells (each row's printed sentence says how): FnExactRunTerm: laid · FnExactCountTerm: laid · FnExactRunWith: laid · FnExactSameRun: laid · FnExactCallsIn: laid · FnExactIsUsed: laid.
  DERIVED. THE GIVEN ROWS OF THIS SEAT. 6 by the template 'for every input the law returns true; each argument reads behind the call as it read before'; 0 by the template 'total and deterministic' (their statements: YthjhpfcilaghgaaGreatDoorTotals.lean).
  GIVEN WITH THE SEED: the statements are not yours to turn. If you find one false, say at which input.
  Laid BY PROGRAM, IN A SANDBOX (cutbox-rows.mjs): the forced cells as the released guide's own fill.sh prints them over the translation 057ae893005a586a… (all of the seat's roots in one cut). By AI agents, Wed Nov 11 2026. No macro, syntax, notation, axiom, sorry.
-/
import Derived.Test.YthjhpfcilaghgaaGreatDoorChecked
import GoSem.Claim
import GoSem.ClaimJoined
import GoSem.ClaimMapViews
import Derived.JoinedTies
import Derived.KernelRfl
namespace Go.Proofs.YthjhpfcilaghgaaGreatDoor
/- THE CELL 'sum', in the pinned program and in every row, IS THE sha256 OF THE DUMP (.gsa) THAT YthjhpfcilaghgaaGreatDoorProg.lean LOADS. Nothing in Lean hashes anything: it is a label: what it is worth is what the hold of that sum in a sandbox is worth. -/
noncomputable def Tryz.pinned : Pinned := { name := "ythjhpfcilaghgaagreatdoor", sum := "057ae893005a586a2c7f6d27f87899fc0f72950f78d78d04d63743a6241c127e", checked := Tryz.checked }
namespace Rows
def none {H : Type} : Left H := { results := [], args := [] }

/- WHAT THE LISTED PACKAGE-LEVEL VARIABLES READ AS WHEN THE CALL BEGINS. Each datum BY PROGRAM (the guide's laid-datum.mjs) off the statement by which the dump's own 'gosem.cut.vars' lays the variable. In a bare row this is a premise. The card (YthjhpfcilaghgaaGreatDoorCards.lean) ties it to the program's text. -/
def laid_errors_errorType {H : Type} : DataW H := .iface "internal/reflectlite.rtype" (.agg [.ptr (.lit (.string [101, 114, 114, 111, 114]))])

/-- 'laws.FnExactRunTerm': WHATEVER THE INPUT: true; the input reads as it did. -/
def fnExactRunTermSpec : ChangeSpec := { name := "fnExactRunTerm", fn := fun _ => fun
  | [d] => { results := [.lit (.bool true)], args := [d] }
  | _ => none }
def fnExactRunTermRow : OpenClaim := { program := "ythjhpfcilaghgaagreatdoor", sum := "057ae893005a586a2c7f6d27f87899fc0f72950f78d78d04d63743a6241c127e", func := "loop.example/flatfunctions/laws.FnExactRunTerm", spec := "fnExactRunTerm", inPlace := ["internal/reflectlite.ValueOf", "(internal/reflectlite.Value).Type", "(internal/reflectlite.Value).IsNil", "internal/reflectlite.TypeOf", "(internal/reflectlite.Value).Elem", "(internal/reflectlite.Value).Set"], unfollowed := true, recurses := true, named := ["errors.errorType"], apart := false, laid := [("errors.errorType", laid_errors_errorType)] }
def FnExactRunTermSaid : Prop := fnExactRunTermRow.holds Tryz.pinned (OpenSpec.ofChange fnExactRunTermSpec)

/-- ITS FALSE NEIGHBOUR: 'it returns false'. Refute it at one input. -/
def fnExactRunTermWrong : ChangeSpec := { name := "fnExactRunTerm", fn := fun _ => fun
  | [d] => { results := [.lit (.bool false)], args := [d] }
  | _ => none }
def FnExactRunTermWrongFalsely : Prop := fnExactRunTermRow.holds Tryz.pinned (OpenSpec.ofChange fnExactRunTermWrong)

/-- 'laws.FnExactCountTerm': WHATEVER THE INPUT: true; the input reads as it did. -/
def fnExactCountTermSpec : ChangeSpec := { name := "fnExactCountTerm", fn := fun _ => fun
  | [d] => { results := [.lit (.bool true)], args := [d] }
  | _ => none }
def fnExactCountTermRow : OpenClaim := { program := "ythjhpfcilaghgaagreatdoor", sum := "057ae893005a586a2c7f6d27f87899fc0f72950f78d78d04d63743a6241c127e", func := "loop.example/flatfunctions/laws.FnExactCountTerm", spec := "fnExactCountTerm", inPlace := ["internal/reflectlite.ValueOf", "(internal/reflectlite.Value).Type", "(internal/reflectlite.Value).IsNil", "internal/reflectlite.TypeOf", "(internal/reflectlite.Value).Elem", "(internal/reflectlite.Value).Set"], unfollowed := true, recurses := true, named := ["errors.errorType"], apart := false, laid := [("errors.errorType", laid_errors_errorType)] }
def FnExactCountTermSaid : Prop := fnExactCountTermRow.holds Tryz.pinned (OpenSpec.ofChange fnExactCountTermSpec)

/-- ITS FALSE NEIGHBOUR: 'it returns false'. Refute it at one input. -/
def fnExactCountTermWrong : ChangeSpec := { name := "fnExactCountTerm", fn := fun _ => fun
  | [d] => { results := [.lit (.bool false)], args := [d] }
  | _ => none }
def FnExactCountTermWrongFalsely : Prop := fnExactCountTermRow.holds Tryz.pinned (OpenSpec.ofChange fnExactCountTermWrong)

/-- 'laws.FnExactRunWith': WHATEVER THE INPUT: true; the input reads as it did. -/
def fnExactRunWithSpec : ChangeSpec := { name := "fnExactRunWith", fn := fun _ => fun
  | [d1, d2] => { results := [.lit (.bool true)], args := [d1, d2] }
  | _ => none }
def fnExactRunWithRow : OpenClaim := { program := "ythjhpfcilaghgaagreatdoor", sum := "057ae893005a586a2c7f6d27f87899fc0f72950f78d78d04d63743a6241c127e", func := "loop.example/flatfunctions/laws.FnExactRunWith", spec := "fnExactRunWith", inPlace := ["internal/reflectlite.ValueOf", "(internal/reflectlite.Value).Type", "(internal/reflectlite.Value).IsNil", "internal/reflectlite.TypeOf", "(internal/reflectlite.Value).Elem", "(internal/reflectlite.Value).Set"], unfollowed := true, recurses := true, named := ["errors.errorType"], apart := false, laid := [("errors.errorType", laid_errors_errorType)] }
def FnExactRunWithSaid : Prop := fnExactRunWithRow.holds Tryz.pinned (OpenSpec.ofChange fnExactRunWithSpec)

/-- ITS FALSE NEIGHBOUR: 'it returns false'. Refute it at one input. -/
def fnExactRunWithWrong : ChangeSpec := { name := "fnExactRunWith", fn := fun _ => fun
  | [d1, d2] => { results := [.lit (.bool false)], args := [d1, d2] }
  | _ => none }
def FnExactRunWithWrongFalsely : Prop := fnExactRunWithRow.holds Tryz.pinned (OpenSpec.ofChange fnExactRunWithWrong)

/-- 'laws.FnExactSameRun': WHATEVER THE INPUT: true; the input reads as it did. -/
def fnExactSameRunSpec : ChangeSpec := { name := "fnExactSameRun", fn := fun _ => fun
  | [d1, d2] => { results := [.lit (.bool true)], args := [d1, d2] }
  | _ => none }
def fnExactSameRunRow : OpenClaim := { program := "ythjhpfcilaghgaagreatdoor", sum := "057ae893005a586a2c7f6d27f87899fc0f72950f78d78d04d63743a6241c127e", func := "loop.example/flatfunctions/laws.FnExactSameRun", spec := "fnExactSameRun", inPlace := ["internal/reflectlite.ValueOf", "(internal/reflectlite.Value).Type", "(internal/reflectlite.Value).IsNil", "internal/reflectlite.TypeOf", "(internal/reflectlite.Value).Elem", "(internal/reflectlite.Value).Set"], unfollowed := true, recurses := true, named := ["errors.errorType"], apart := false, laid := [("errors.errorType", laid_errors_errorType)] }
def FnExactSameRunSaid : Prop := fnExactSameRunRow.holds Tryz.pinned (OpenSpec.ofChange fnExactSameRunSpec)

/-- ITS FALSE NEIGHBOUR: 'it returns false'. Refute it at one input. -/
def fnExactSameRunWrong : ChangeSpec := { name := "fnExactSameRun", fn := fun _ => fun
  | [d1, d2] => { results := [.lit (.bool false)], args := [d1, d2] }
  | _ => none }
def FnExactSameRunWrongFalsely : Prop := fnExactSameRunRow.holds Tryz.pinned (OpenSpec.ofChange fnExactSameRunWrong)

/-- 'laws.FnExactCallsIn': WHATEVER THE INPUT: true; the input reads as it did. -/
def fnExactCallsInSpec : ChangeSpec := { name := "fnExactCallsIn", fn := fun _ => fun
  | [d] => { results := [.lit (.bool true)], args := [d] }
  | _ => none }
def fnExactCallsInRow : OpenClaim := { program := "ythjhpfcilaghgaagreatdoor", sum := "057ae893005a586a2c7f6d27f87899fc0f72950f78d78d04d63743a6241c127e", func := "loop.example/flatfunctions/laws.FnExactCallsIn", spec := "fnExactCallsIn", inPlace := ["internal/reflectlite.ValueOf", "(internal/reflectlite.Value).Type", "(internal/reflectlite.Value).IsNil", "internal/reflectlite.TypeOf", "(internal/reflectlite.Value).Elem", "(internal/reflectlite.Value).Set"], unfollowed := true, recurses := true, named := ["errors.errorType"], apart := false, laid := [("errors.errorType", laid_errors_errorType)] }
def FnExactCallsInSaid : Prop := fnExactCallsInRow.holds Tryz.pinned (OpenSpec.ofChange fnExactCallsInSpec)

/-- ITS FALSE NEIGHBOUR: 'it returns false'. Refute it at one input. -/
def fnExactCallsInWrong : ChangeSpec := { name := "fnExactCallsIn", fn := fun _ => fun
  | [d] => { results := [.lit (.bool false)], args := [d] }
  | _ => none }
def FnExactCallsInWrongFalsely : Prop := fnExactCallsInRow.holds Tryz.pinned (OpenSpec.ofChange fnExactCallsInWrong)

/-- 'laws.FnExactIsUsed': WHATEVER THE INPUT: true; the input reads as it did. -/
def fnExactIsUsedSpec : ChangeSpec := { name := "fnExactIsUsed", fn := fun _ => fun
  | [d1, d2] => { results := [.lit (.bool true)], args := [d1, d2] }
  | _ => none }
def fnExactIsUsedRow : OpenClaim := { program := "ythjhpfcilaghgaagreatdoor", sum := "057ae893005a586a2c7f6d27f87899fc0f72950f78d78d04d63743a6241c127e", func := "loop.example/flatfunctions/laws.FnExactIsUsed", spec := "fnExactIsUsed", inPlace := ["internal/reflectlite.ValueOf", "(internal/reflectlite.Value).Type", "(internal/reflectlite.Value).IsNil", "internal/reflectlite.TypeOf", "(internal/reflectlite.Value).Elem", "(internal/reflectlite.Value).Set"], unfollowed := true, recurses := true, named := ["errors.errorType"], apart := false, laid := [("errors.errorType", laid_errors_errorType)] }
def FnExactIsUsedSaid : Prop := fnExactIsUsedRow.holds Tryz.pinned (OpenSpec.ofChange fnExactIsUsedSpec)

/-- ITS FALSE NEIGHBOUR: 'it returns false'. Refute it at one input. -/
def fnExactIsUsedWrong : ChangeSpec := { name := "fnExactIsUsed", fn := fun _ => fun
  | [d1, d2] => { results := [.lit (.bool false)], args := [d1, d2] }
  | _ => none }
def FnExactIsUsedWrongFalsely : Prop := fnExactIsUsedRow.holds Tryz.pinned (OpenSpec.ofChange fnExactIsUsedWrong)

/- THE SECOND FORM. 'bulk': how many values and letters a reading holds, each counted each time it is reached (what is shared counts as often as it is met; a slice's spare places count too). A statement '..UptoSaid' is the law's where the arguments, and the package variables that the reading takes, are together of bulk at most 1048576: NARROWER than '..Said'. Prove '..Said' where nothing that the law and all that it calls make is longer than what came in: it says more and counts as full. Else prove '..UptoSaid'. A law counts once. -/
mutual
def uptoBulk {H : Type} : DataW H → Nat
  | .lit (.string bytes) => bytes.length + 1
  | .lit _ => 1
  | .nil => 1
  | .ptr d => uptoBulk d + 1
  | .slice elems spare => uptoBulkAll elems + uptoBulkAll spare + 1
  | .agg parts => uptoBulkAll parts + 1
  | .iface _ d => uptoBulk d + 1
  | .map entries => uptoBulkEntries entries + 1
  | .held _ => 1
def uptoBulkAll {H : Type} : List (DataW H) → Nat
  | [] => 0
  | d :: r => uptoBulk d + uptoBulkAll r
def uptoBulkEntries {H : Type} : List (Lit × DataW H) → Nat
  | [] => 0
  | x :: r => uptoBulkEntry x + uptoBulkEntries r
def uptoBulkEntry {H : Type} : Lit × DataW H → Nat
  | (.string bytes, d) => bytes.length + uptoBulk d + 1
  | (_, d) => uptoBulk d + 1
 end
def uptoSmall : (H : Type) → List (DataW H) → Bool := fun _ ds => decide (uptoBulkAll ds ≤ 1048576)
def OpenSpec.upto (s : _root_.Go.ChangeSpec) : _root_.Go.OpenSpec := { _root_.Go.OpenSpec.ofChange s with cond := some uptoSmall }

/-- 'laws.FnExactRunTerm', WHERE WHAT IT READS IS OF BULK AT MOST 1048576: true; the input reads as it did. -/
def fnExactRunTermUptoRow : OpenClaim := { program := "ythjhpfcilaghgaagreatdoor", sum := "057ae893005a586a2c7f6d27f87899fc0f72950f78d78d04d63743a6241c127e", func := "loop.example/flatfunctions/laws.FnExactRunTerm", spec := "fnExactRunTerm", inPlace := ["internal/reflectlite.ValueOf", "(internal/reflectlite.Value).Type", "(internal/reflectlite.Value).IsNil", "internal/reflectlite.TypeOf", "(internal/reflectlite.Value).Elem", "(internal/reflectlite.Value).Set"], unfollowed := true, recurses := true, named := ["errors.errorType"], apart := false, laid := [("errors.errorType", laid_errors_errorType)], narrowed := true }
def FnExactRunTermUptoSaid : Prop := fnExactRunTermUptoRow.holds Tryz.pinned (OpenSpec.upto fnExactRunTermSpec)

/-- 'laws.FnExactCountTerm', WHERE WHAT IT READS IS OF BULK AT MOST 1048576: true; the input reads as it did. -/
def fnExactCountTermUptoRow : OpenClaim := { program := "ythjhpfcilaghgaagreatdoor", sum := "057ae893005a586a2c7f6d27f87899fc0f72950f78d78d04d63743a6241c127e", func := "loop.example/flatfunctions/laws.FnExactCountTerm", spec := "fnExactCountTerm", inPlace := ["internal/reflectlite.ValueOf", "(internal/reflectlite.Value).Type", "(internal/reflectlite.Value).IsNil", "internal/reflectlite.TypeOf", "(internal/reflectlite.Value).Elem", "(internal/reflectlite.Value).Set"], unfollowed := true, recurses := true, named := ["errors.errorType"], apart := false, laid := [("errors.errorType", laid_errors_errorType)], narrowed := true }
def FnExactCountTermUptoSaid : Prop := fnExactCountTermUptoRow.holds Tryz.pinned (OpenSpec.upto fnExactCountTermSpec)

/-- 'laws.FnExactRunWith', WHERE WHAT IT READS IS OF BULK AT MOST 1048576: true; the input reads as it did. -/
def fnExactRunWithUptoRow : OpenClaim := { program := "ythjhpfcilaghgaagreatdoor", sum := "057ae893005a586a2c7f6d27f87899fc0f72950f78d78d04d63743a6241c127e", func := "loop.example/flatfunctions/laws.FnExactRunWith", spec := "fnExactRunWith", inPlace := ["internal/reflectlite.ValueOf", "(internal/reflectlite.Value).Type", "(internal/reflectlite.Value).IsNil", "internal/reflectlite.TypeOf", "(internal/reflectlite.Value).Elem", "(internal/reflectlite.Value).Set"], unfollowed := true, recurses := true, named := ["errors.errorType"], apart := false, laid := [("errors.errorType", laid_errors_errorType)], narrowed := true }
def FnExactRunWithUptoSaid : Prop := fnExactRunWithUptoRow.holds Tryz.pinned (OpenSpec.upto fnExactRunWithSpec)

/-- 'laws.FnExactSameRun', WHERE WHAT IT READS IS OF BULK AT MOST 1048576: true; the input reads as it did. -/
def fnExactSameRunUptoRow : OpenClaim := { program := "ythjhpfcilaghgaagreatdoor", sum := "057ae893005a586a2c7f6d27f87899fc0f72950f78d78d04d63743a6241c127e", func := "loop.example/flatfunctions/laws.FnExactSameRun", spec := "fnExactSameRun", inPlace := ["internal/reflectlite.ValueOf", "(internal/reflectlite.Value).Type", "(internal/reflectlite.Value).IsNil", "internal/reflectlite.TypeOf", "(internal/reflectlite.Value).Elem", "(internal/reflectlite.Value).Set"], unfollowed := true, recurses := true, named := ["errors.errorType"], apart := false, laid := [("errors.errorType", laid_errors_errorType)], narrowed := true }
def FnExactSameRunUptoSaid : Prop := fnExactSameRunUptoRow.holds Tryz.pinned (OpenSpec.upto fnExactSameRunSpec)

/-- 'laws.FnExactCallsIn', WHERE WHAT IT READS IS OF BULK AT MOST 1048576: true; the input reads as it did. -/
def fnExactCallsInUptoRow : OpenClaim := { program := "ythjhpfcilaghgaagreatdoor", sum := "057ae893005a586a2c7f6d27f87899fc0f72950f78d78d04d63743a6241c127e", func := "loop.example/flatfunctions/laws.FnExactCallsIn", spec := "fnExactCallsIn", inPlace := ["internal/reflectlite.ValueOf", "(internal/reflectlite.Value).Type", "(internal/reflectlite.Value).IsNil", "internal/reflectlite.TypeOf", "(internal/reflectlite.Value).Elem", "(internal/reflectlite.Value).Set"], unfollowed := true, recurses := true, named := ["errors.errorType"], apart := false, laid := [("errors.errorType", laid_errors_errorType)], narrowed := true }
def FnExactCallsInUptoSaid : Prop := fnExactCallsInUptoRow.holds Tryz.pinned (OpenSpec.upto fnExactCallsInSpec)

/-- 'laws.FnExactIsUsed', WHERE WHAT IT READS IS OF BULK AT MOST 1048576: true; the input reads as it did. -/
def fnExactIsUsedUptoRow : OpenClaim := { program := "ythjhpfcilaghgaagreatdoor", sum := "057ae893005a586a2c7f6d27f87899fc0f72950f78d78d04d63743a6241c127e", func := "loop.example/flatfunctions/laws.FnExactIsUsed", spec := "fnExactIsUsed", inPlace := ["internal/reflectlite.ValueOf", "(internal/reflectlite.Value).Type", "(internal/reflectlite.Value).IsNil", "internal/reflectlite.TypeOf", "(internal/reflectlite.Value).Elem", "(internal/reflectlite.Value).Set"], unfollowed := true, recurses := true, named := ["errors.errorType"], apart := false, laid := [("errors.errorType", laid_errors_errorType)], narrowed := true }
def FnExactIsUsedUptoSaid : Prop := fnExactIsUsedUptoRow.holds Tryz.pinned (OpenSpec.upto fnExactIsUsedSpec)

end Rows
end Go.Proofs.YthjhpfcilaghgaaGreatDoor
