/-
  NARROWER THAN 'FOR EVERY INPUT', by the rows' own cells (each row's printed sentence says how): FnLet: laid · FnNeverFault: laid · FnSeq: laid · FnChoose: laid · FnTwice: laid · FnConst: laid.
  DERIVED. THE GIVEN ROWS OF THIS SEAT. 6 by the template 'for every input the law returns true; each argument reads behind the call as it read before'; 0 by the template 'total and deterministic' (their statements: YtbdepjcndjcfoaaGreatDoorTotals.lean).
  GIVEN WITH THE SEED: the statements are not yours to turn. If you find one false, say at which input.
  Laid BY PROGRAM, IN A SANDBOX (cutbox-rows.mjs): the forced cells as the released guide's own fill.sh prints them over the translation 84069e3f3b4af139… (all of the seat's roots in one cut). By AI agents, Wed Nov 11 2026. No macro, syntax, notation, axiom, sorry.
-/
import Derived.Test.YtbdepjcndjcfoaaGreatDoorChecked
import GoSem.Claim
import GoSem.ClaimJoined
import GoSem.ClaimMapViews
import Derived.JoinedTies
import Derived.KernelRfl
namespace Go.Proofs.YtbdepjcndjcfoaaGreatDoor
/- THE CELL 'sum', in the pinned program and in every row, IS THE sha256 OF THE DUMP (.gsa) THAT YtbdepjcndjcfoaaGreatDoorProg.lean LOADS. Nothing in Lean hashes anything: it is a label: what it is worth is what the hold of that sum in a sandbox is worth. -/
noncomputable def Tryz.pinned : Pinned := { name := "ytbdepjcndjcfoaagreatdoor", sum := "84069e3f3b4af13942c76ac9c0d61a2d10e33f813f7388932b0bbb1cc4869093", checked := Tryz.checked }
namespace Rows
def none {H : Type} : Left H := { results := [], args := [] }

/- WHAT THE LISTED PACKAGE-LEVEL VARIABLES READ AS WHEN THE CALL BEGINS. Each datum BY PROGRAM (the guide's laid-datum.mjs) off the statement by which the dump's own 'gosem.cut.vars' lays the variable. In a bare row this is a premise. The card (YtbdepjcndjcfoaaGreatDoorCards.lean) ties it to the program's text. -/
def laid_errors_errorType {H : Type} : DataW H := .iface "internal/reflectlite.rtype" (.agg [.ptr (.lit (.string [101, 114, 114, 111, 114]))])

/-- 'laws.FnLet': WHATEVER THE INPUT: true; the input reads as it did. -/
def fnLetSpec : ChangeSpec := { name := "fnLet", fn := fun _ => fun
  | [d1, d2] => { results := [.lit (.bool true)], args := [d1, d2] }
  | _ => none }
def fnLetRow : OpenClaim := { program := "ytbdepjcndjcfoaagreatdoor", sum := "84069e3f3b4af13942c76ac9c0d61a2d10e33f813f7388932b0bbb1cc4869093", func := "loop.example/flatfunctions/laws.FnLet", spec := "fnLet", inPlace := ["internal/reflectlite.ValueOf", "(internal/reflectlite.Value).Type", "(internal/reflectlite.Value).IsNil", "internal/reflectlite.TypeOf", "(internal/reflectlite.Value).Elem", "(internal/reflectlite.Value).Set"], unfollowed := true, recurses := true, named := ["errors.errorType"], apart := false, laid := [("errors.errorType", laid_errors_errorType)] }
def FnLetSaid : Prop := fnLetRow.holds Tryz.pinned (OpenSpec.ofChange fnLetSpec)

/-- ITS FALSE NEIGHBOUR: 'it returns false'. Refute it at one input. -/
def fnLetWrong : ChangeSpec := { name := "fnLet", fn := fun _ => fun
  | [d1, d2] => { results := [.lit (.bool false)], args := [d1, d2] }
  | _ => none }
def FnLetWrongFalsely : Prop := fnLetRow.holds Tryz.pinned (OpenSpec.ofChange fnLetWrong)

/-- 'laws.FnNeverFault': WHATEVER THE INPUT: true; the input reads as it did. -/
def fnNeverFaultSpec : ChangeSpec := { name := "fnNeverFault", fn := fun _ => fun
  | [d] => { results := [.lit (.bool true)], args := [d] }
  | _ => none }
def fnNeverFaultRow : OpenClaim := { program := "ytbdepjcndjcfoaagreatdoor", sum := "84069e3f3b4af13942c76ac9c0d61a2d10e33f813f7388932b0bbb1cc4869093", func := "loop.example/flatfunctions/laws.FnNeverFault", spec := "fnNeverFault", inPlace := ["internal/reflectlite.ValueOf", "(internal/reflectlite.Value).Type", "(internal/reflectlite.Value).IsNil", "internal/reflectlite.TypeOf", "(internal/reflectlite.Value).Elem", "(internal/reflectlite.Value).Set"], unfollowed := true, recurses := true, named := ["errors.errorType"], apart := false, laid := [("errors.errorType", laid_errors_errorType)] }
def FnNeverFaultSaid : Prop := fnNeverFaultRow.holds Tryz.pinned (OpenSpec.ofChange fnNeverFaultSpec)

/-- ITS FALSE NEIGHBOUR: 'it returns false'. Refute it at one input. -/
def fnNeverFaultWrong : ChangeSpec := { name := "fnNeverFault", fn := fun _ => fun
  | [d] => { results := [.lit (.bool false)], args := [d] }
  | _ => none }
def FnNeverFaultWrongFalsely : Prop := fnNeverFaultRow.holds Tryz.pinned (OpenSpec.ofChange fnNeverFaultWrong)

/-- 'laws.FnSeq': WHATEVER THE INPUT: true; the input reads as it did. -/
def fnSeqSpec : ChangeSpec := { name := "fnSeq", fn := fun _ => fun
  | [d1, d2] => { results := [.lit (.bool true)], args := [d1, d2] }
  | _ => none }
def fnSeqRow : OpenClaim := { program := "ytbdepjcndjcfoaagreatdoor", sum := "84069e3f3b4af13942c76ac9c0d61a2d10e33f813f7388932b0bbb1cc4869093", func := "loop.example/flatfunctions/laws.FnSeq", spec := "fnSeq", inPlace := ["internal/reflectlite.ValueOf", "(internal/reflectlite.Value).Type", "(internal/reflectlite.Value).IsNil", "internal/reflectlite.TypeOf", "(internal/reflectlite.Value).Elem", "(internal/reflectlite.Value).Set"], unfollowed := true, recurses := true, named := ["errors.errorType"], apart := false, laid := [("errors.errorType", laid_errors_errorType)] }
def FnSeqSaid : Prop := fnSeqRow.holds Tryz.pinned (OpenSpec.ofChange fnSeqSpec)

/-- ITS FALSE NEIGHBOUR: 'it returns false'. Refute it at one input. -/
def fnSeqWrong : ChangeSpec := { name := "fnSeq", fn := fun _ => fun
  | [d1, d2] => { results := [.lit (.bool false)], args := [d1, d2] }
  | _ => none }
def FnSeqWrongFalsely : Prop := fnSeqRow.holds Tryz.pinned (OpenSpec.ofChange fnSeqWrong)

/-- 'laws.FnChoose': WHATEVER THE INPUT: true; the input reads as it did. -/
def fnChooseSpec : ChangeSpec := { name := "fnChoose", fn := fun _ => fun
  | [d1, d2] => { results := [.lit (.bool true)], args := [d1, d2] }
  | _ => none }
def fnChooseRow : OpenClaim := { program := "ytbdepjcndjcfoaagreatdoor", sum := "84069e3f3b4af13942c76ac9c0d61a2d10e33f813f7388932b0bbb1cc4869093", func := "loop.example/flatfunctions/laws.FnChoose", spec := "fnChoose", inPlace := ["internal/reflectlite.ValueOf", "(internal/reflectlite.Value).Type", "(internal/reflectlite.Value).IsNil", "internal/reflectlite.TypeOf", "(internal/reflectlite.Value).Elem", "(internal/reflectlite.Value).Set"], unfollowed := true, recurses := true, named := ["errors.errorType"], apart := false, laid := [("errors.errorType", laid_errors_errorType)] }
def FnChooseSaid : Prop := fnChooseRow.holds Tryz.pinned (OpenSpec.ofChange fnChooseSpec)

/-- ITS FALSE NEIGHBOUR: 'it returns false'. Refute it at one input. -/
def fnChooseWrong : ChangeSpec := { name := "fnChoose", fn := fun _ => fun
  | [d1, d2] => { results := [.lit (.bool false)], args := [d1, d2] }
  | _ => none }
def FnChooseWrongFalsely : Prop := fnChooseRow.holds Tryz.pinned (OpenSpec.ofChange fnChooseWrong)

/-- 'laws.FnTwice': WHATEVER THE INPUT: true; the input reads as it did. -/
def fnTwiceSpec : ChangeSpec := { name := "fnTwice", fn := fun _ => fun
  | [d] => { results := [.lit (.bool true)], args := [d] }
  | _ => none }
def fnTwiceRow : OpenClaim := { program := "ytbdepjcndjcfoaagreatdoor", sum := "84069e3f3b4af13942c76ac9c0d61a2d10e33f813f7388932b0bbb1cc4869093", func := "loop.example/flatfunctions/laws.FnTwice", spec := "fnTwice", inPlace := ["internal/reflectlite.ValueOf", "(internal/reflectlite.Value).Type", "(internal/reflectlite.Value).IsNil", "internal/reflectlite.TypeOf", "(internal/reflectlite.Value).Elem", "(internal/reflectlite.Value).Set"], unfollowed := true, recurses := true, named := ["errors.errorType"], apart := false, laid := [("errors.errorType", laid_errors_errorType)] }
def FnTwiceSaid : Prop := fnTwiceRow.holds Tryz.pinned (OpenSpec.ofChange fnTwiceSpec)

/-- ITS FALSE NEIGHBOUR: 'it returns false'. Refute it at one input. -/
def fnTwiceWrong : ChangeSpec := { name := "fnTwice", fn := fun _ => fun
  | [d] => { results := [.lit (.bool false)], args := [d] }
  | _ => none }
def FnTwiceWrongFalsely : Prop := fnTwiceRow.holds Tryz.pinned (OpenSpec.ofChange fnTwiceWrong)

/-- 'laws.FnConst': WHATEVER THE INPUT: true; the input reads as it did. -/
def fnConstSpec : ChangeSpec := { name := "fnConst", fn := fun _ => fun
  | [d] => { results := [.lit (.bool true)], args := [d] }
  | _ => none }
def fnConstRow : OpenClaim := { program := "ytbdepjcndjcfoaagreatdoor", sum := "84069e3f3b4af13942c76ac9c0d61a2d10e33f813f7388932b0bbb1cc4869093", func := "loop.example/flatfunctions/laws.FnConst", spec := "fnConst", inPlace := ["internal/reflectlite.ValueOf", "(internal/reflectlite.Value).Type", "(internal/reflectlite.Value).IsNil", "internal/reflectlite.TypeOf", "(internal/reflectlite.Value).Elem", "(internal/reflectlite.Value).Set"], unfollowed := true, recurses := true, named := ["errors.errorType"], apart := false, laid := [("errors.errorType", laid_errors_errorType)] }
def FnConstSaid : Prop := fnConstRow.holds Tryz.pinned (OpenSpec.ofChange fnConstSpec)

/-- ITS FALSE NEIGHBOUR: 'it returns false'. Refute it at one input. -/
def fnConstWrong : ChangeSpec := { name := "fnConst", fn := fun _ => fun
  | [d] => { results := [.lit (.bool false)], args := [d] }
  | _ => none }
def FnConstWrongFalsely : Prop := fnConstRow.holds Tryz.pinned (OpenSpec.ofChange fnConstWrong)

/- THE SECOND FORM. 'bulk': how many values and letters a reading holds, each counted each time it is reached (what is shared counts as often as it is met; a slice's spare places count too). A statement '..UptoSaid' is the law's where the arguments, and the package variables that the reading takes, are together of bulk at most 1048576: NARROWER than '..Said'. Prove '..Said' where nothing that the law and all that it calls make is longer than what came in: it says more and counts as full. Else prove '..UptoSaid'. A law counts once. -/
mutual
def uptoBulk {H : Type} : DataW H → Nat
  | .lit (.string bytes) => bytes.length + 1
  | .lit _ => 1
  | .nil => 1
  | .ptr d => uptoBulk d + 1
  | .slice elems spare => uptoBulkAll elems + uptoBulkAll spare + 1
  | .agg parts => uptoBulkAll parts + 1
  | .iface _ d => uptoBulk d + 1
  | .map entries => uptoBulkEntries entries + 1
  | .held _ => 1
def uptoBulkAll {H : Type} : List (DataW H) → Nat
  | [] => 0
  | d :: r => uptoBulk d + uptoBulkAll r
def uptoBulkEntries {H : Type} : List (Lit × DataW H) → Nat
  | [] => 0
  | x :: r => uptoBulkEntry x + uptoBulkEntries r
def uptoBulkEntry {H : Type} : Lit × DataW H → Nat
  | (.string bytes, d) => bytes.length + uptoBulk d + 1
  | (_, d) => uptoBulk d + 1
 end
def uptoSmall : (H : Type) → List (DataW H) → Bool := fun _ ds => decide (uptoBulkAll ds ≤ 1048576)
def OpenSpec.upto (s : _root_.Go.ChangeSpec) : _root_.Go.OpenSpec := { _root_.Go.OpenSpec.ofChange s with cond := some uptoSmall }

/-- 'laws.FnLet', WHERE WHAT IT READS IS OF BULK AT MOST 1048576: true; the input reads as it did. -/
def fnLetUptoRow : OpenClaim := { program := "ytbdepjcndjcfoaagreatdoor", sum := "84069e3f3b4af13942c76ac9c0d61a2d10e33f813f7388932b0bbb1cc4869093", func := "loop.example/flatfunctions/laws.FnLet", spec := "fnLet", inPlace := ["internal/reflectlite.ValueOf", "(internal/reflectlite.Value).Type", "(internal/reflectlite.Value).IsNil", "internal/reflectlite.TypeOf", "(internal/reflectlite.Value).Elem", "(internal/reflectlite.Value).Set"], unfollowed := true, recurses := true, named := ["errors.errorType"], apart := false, laid := [("errors.errorType", laid_errors_errorType)], narrowed := true }
def FnLetUptoSaid : Prop := fnLetUptoRow.holds Tryz.pinned (OpenSpec.upto fnLetSpec)

/-- 'laws.FnNeverFault', WHERE WHAT IT READS IS OF BULK AT MOST 1048576: true; the input reads as it did. -/
def fnNeverFaultUptoRow : OpenClaim := { program := "ytbdepjcndjcfoaagreatdoor", sum := "84069e3f3b4af13942c76ac9c0d61a2d10e33f813f7388932b0bbb1cc4869093", func := "loop.example/flatfunctions/laws.FnNeverFault", spec := "fnNeverFault", inPlace := ["internal/reflectlite.ValueOf", "(internal/reflectlite.Value).Type", "(internal/reflectlite.Value).IsNil", "internal/reflectlite.TypeOf", "(internal/reflectlite.Value).Elem", "(internal/reflectlite.Value).Set"], unfollowed := true, recurses := true, named := ["errors.errorType"], apart := false, laid := [("errors.errorType", laid_errors_errorType)], narrowed := true }
def FnNeverFaultUptoSaid : Prop := fnNeverFaultUptoRow.holds Tryz.pinned (OpenSpec.upto fnNeverFaultSpec)

/-- 'laws.FnSeq', WHERE WHAT IT READS IS OF BULK AT MOST 1048576: true; the input reads as it did. -/
def fnSeqUptoRow : OpenClaim := { program := "ytbdepjcndjcfoaagreatdoor", sum := "84069e3f3b4af13942c76ac9c0d61a2d10e33f813f7388932b0bbb1cc4869093", func := "loop.example/flatfunctions/laws.FnSeq", spec := "fnSeq", inPlace := ["internal/reflectlite.ValueOf", "(internal/reflectlite.Value).Type", "(internal/reflectlite.Value).IsNil", "internal/reflectlite.TypeOf", "(internal/reflectlite.Value).Elem", "(internal/reflectlite.Value).Set"], unfollowed := true, recurses := true, named := ["errors.errorType"], apart := false, laid := [("errors.errorType", laid_errors_errorType)], narrowed := true }
def FnSeqUptoSaid : Prop := fnSeqUptoRow.holds Tryz.pinned (OpenSpec.upto fnSeqSpec)

/-- 'laws.FnChoose', WHERE WHAT IT READS IS OF BULK AT MOST 1048576: true; the input reads as it did. -/
def fnChooseUptoRow : OpenClaim := { program := "ytbdepjcndjcfoaagreatdoor", sum := "84069e3f3b4af13942c76ac9c0d61a2d10e33f813f7388932b0bbb1cc4869093", func := "loop.example/flatfunctions/laws.FnChoose", spec := "fnChoose", inPlace := ["internal/reflectlite.ValueOf", "(internal/reflectlite.Value).Type", "(internal/reflectlite.Value).IsNil", "internal/reflectlite.TypeOf", "(internal/reflectlite.Value).Elem", "(internal/reflectlite.Value).Set"], unfollowed := true, recurses := true, named := ["errors.errorType"], apart := false, laid := [("errors.errorType", laid_errors_errorType)], narrowed := true }
def FnChooseUptoSaid : Prop := fnChooseUptoRow.holds Tryz.pinned (OpenSpec.upto fnChooseSpec)

/-- 'laws.FnTwice', WHERE WHAT IT READS IS OF BULK AT MOST 1048576: true; the input reads as it did. -/
def fnTwiceUptoRow : OpenClaim := { program := "ytbdepjcndjcfoaagreatdoor", sum := "84069e3f3b4af13942c76ac9c0d61a2d10e33f813f7388932b0bbb1cc4869093", func := "loop.example/flatfunctions/laws.FnTwice", spec := "fnTwice", inPlace := ["internal/reflectlite.ValueOf", "(internal/reflectlite.Value).Type", "(internal/reflectlite.Value).IsNil", "internal/reflectlite.TypeOf", "(internal/reflectlite.Value).Elem", "(internal/reflectlite.Value).Set"], unfollowed := true, recurses := true, named := ["errors.errorType"], apart := false, laid := [("errors.errorType", laid_errors_errorType)], narrowed := true }
def FnTwiceUptoSaid : Prop := fnTwiceUptoRow.holds Tryz.pinned (OpenSpec.upto fnTwiceSpec)

/-- 'laws.FnConst', WHERE WHAT IT READS IS OF BULK AT MOST 1048576: true; the input reads as it did. -/
def fnConstUptoRow : OpenClaim := { program := "ytbdepjcndjcfoaagreatdoor", sum := "84069e3f3b4af13942c76ac9c0d61a2d10e33f813f7388932b0bbb1cc4869093", func := "loop.example/flatfunctions/laws.FnConst", spec := "fnConst", inPlace := ["internal/reflectlite.ValueOf", "(internal/reflectlite.Value).Type", "(internal/reflectlite.Value).IsNil", "internal/reflectlite.TypeOf", "(internal/reflectlite.Value).Elem", "(internal/reflectlite.Value).Set"], unfollowed := true, recurses := true, named := ["errors.errorType"], apart := false, laid := [("errors.errorType", laid_errors_errorType)], narrowed := true }
def FnConstUptoSaid : Prop := fnConstUptoRow.holds Tryz.pinned (OpenSpec.upto fnConstSpec)

end Rows
end Go.Proofs.YtbdepjcndjcfoaaGreatDoor
