/-
  No cell of these rows narrows 'for every input' (looked for: loops, veiled, ifaces, maps, wideKeys, modest, calm, conditions, laid).
  DERIVED. THE GIVEN ROWS OF THIS SEAT. 4 by the template 'for every input the law returns true; each argument reads behind the call as it read before'; 0 by the template 'total and deterministic' (their statements: YtnfehnajcadlpaaTotals.lean).
  GIVEN WITH THE SEED: the statements are not yours to turn. If you find one false, say at which input.
  Laid BY PROGRAM, IN A SANDBOX (cutbox-rows.mjs): the forced cells as the released guide's own fill.sh prints them over the translation 333a4dd57d5f1ea4… (all of the seat's roots in one cut). By AI agents, Wed Nov 11 2026. No macro, syntax, notation, axiom, sorry.
-/
import Derived.Test.YtnfehnajcadlpaaChecked
import GoSem.Claim
import GoSem.ClaimJoined
import GoSem.ClaimMapViews
import Derived.JoinedTies
import Derived.KernelRfl
namespace Go.Proofs.Ytnfehnajcadlpaa
/- THE CELL 'sum', in the pinned program and in every row, IS THE sha256 OF THE DUMP (.gsa) THAT YtnfehnajcadlpaaProg.lean LOADS. Nothing in Lean hashes anything: it is a label: what it is worth is what the hold of that sum in a sandbox is worth. -/
noncomputable def Try.pinned : Pinned := { name := "ytnfehnajcadlpaa", sum := "333a4dd57d5f1ea4df1b49ea35657b746419a8afe366e60ebd800d4b8ed8c009", checked := Try.checked }
namespace Rows
def none {H : Type} : Left H := { results := [], args := [] }

/-- 'laws.FnCountFree': WHATEVER THE INPUT: true; the input reads as it did. -/
def fnCountFreeSpec : ChangeSpec := { name := "fnCountFree", fn := fun _ => fun
  | [d] => { results := [.lit (.bool true)], args := [d] }
  | _ => none }
def fnCountFreeRow : OpenClaim := { program := "ytnfehnajcadlpaa", sum := "333a4dd57d5f1ea4df1b49ea35657b746419a8afe366e60ebd800d4b8ed8c009", func := "loop.example/flatfunctions/laws.FnCountFree", spec := "fnCountFree", unfollowed := true, recurses := true, apart := false }
def FnCountFreeSaid : Prop := fnCountFreeRow.holds Try.pinned (OpenSpec.ofChange fnCountFreeSpec)

/-- ITS FALSE NEIGHBOUR: 'it returns false'. Refute it at one input. -/
def fnCountFreeWrong : ChangeSpec := { name := "fnCountFree", fn := fun _ => fun
  | [d] => { results := [.lit (.bool false)], args := [d] }
  | _ => none }
def FnCountFreeWrongFalsely : Prop := fnCountFreeRow.holds Try.pinned (OpenSpec.ofChange fnCountFreeWrong)

/-- 'laws.FnClosed': WHATEVER THE INPUT: true; the input reads as it did. -/
def fnClosedSpec : ChangeSpec := { name := "fnClosed", fn := fun _ => fun
  | [d] => { results := [.lit (.bool true)], args := [d] }
  | _ => none }
def fnClosedRow : OpenClaim := { program := "ytnfehnajcadlpaa", sum := "333a4dd57d5f1ea4df1b49ea35657b746419a8afe366e60ebd800d4b8ed8c009", func := "loop.example/flatfunctions/laws.FnClosed", spec := "fnClosed", unfollowed := true, recurses := true, apart := false }
def FnClosedSaid : Prop := fnClosedRow.holds Try.pinned (OpenSpec.ofChange fnClosedSpec)

/-- ITS FALSE NEIGHBOUR: 'it returns false'. Refute it at one input. -/
def fnClosedWrong : ChangeSpec := { name := "fnClosed", fn := fun _ => fun
  | [d] => { results := [.lit (.bool false)], args := [d] }
  | _ => none }
def FnClosedWrongFalsely : Prop := fnClosedRow.holds Try.pinned (OpenSpec.ofChange fnClosedWrong)

/-- 'laws.FnBind': WHATEVER THE INPUT: true; the input reads as it did. -/
def fnBindSpec : ChangeSpec := { name := "fnBind", fn := fun _ => fun
  | [d] => { results := [.lit (.bool true)], args := [d] }
  | _ => none }
def fnBindRow : OpenClaim := { program := "ytnfehnajcadlpaa", sum := "333a4dd57d5f1ea4df1b49ea35657b746419a8afe366e60ebd800d4b8ed8c009", func := "loop.example/flatfunctions/laws.FnBind", spec := "fnBind", unfollowed := true, recurses := true, apart := false }
def FnBindSaid : Prop := fnBindRow.holds Try.pinned (OpenSpec.ofChange fnBindSpec)

/-- ITS FALSE NEIGHBOUR: 'it returns false'. Refute it at one input. -/
def fnBindWrong : ChangeSpec := { name := "fnBind", fn := fun _ => fun
  | [d] => { results := [.lit (.bool false)], args := [d] }
  | _ => none }
def FnBindWrongFalsely : Prop := fnBindRow.holds Try.pinned (OpenSpec.ofChange fnBindWrong)

/-- 'laws.FnLetTerm': WHATEVER THE INPUT: true; the input reads as it did. -/
def fnLetTermSpec : ChangeSpec := { name := "fnLetTerm", fn := fun _ => fun
  | [d1, d2] => { results := [.lit (.bool true)], args := [d1, d2] }
  | _ => none }
def fnLetTermRow : OpenClaim := { program := "ytnfehnajcadlpaa", sum := "333a4dd57d5f1ea4df1b49ea35657b746419a8afe366e60ebd800d4b8ed8c009", func := "loop.example/flatfunctions/laws.FnLetTerm", spec := "fnLetTerm", unfollowed := true, recurses := true, apart := false }
def FnLetTermSaid : Prop := fnLetTermRow.holds Try.pinned (OpenSpec.ofChange fnLetTermSpec)

/-- ITS FALSE NEIGHBOUR: 'it returns false'. Refute it at one input. -/
def fnLetTermWrong : ChangeSpec := { name := "fnLetTerm", fn := fun _ => fun
  | [d1, d2] => { results := [.lit (.bool false)], args := [d1, d2] }
  | _ => none }
def FnLetTermWrongFalsely : Prop := fnLetTermRow.holds Try.pinned (OpenSpec.ofChange fnLetTermWrong)

/- THE SECOND FORM. 'bulk': how many values and letters a reading holds, each counted each time it is reached (what is shared counts as often as it is met; a slice's spare places count too). A statement '..UptoSaid' is the law's where the arguments, and the package variables that the reading takes, are together of bulk at most 1048576: NARROWER than '..Said'. Prove '..Said' where nothing that the law and all that it calls make is longer than what came in: it says more and counts as full. Else prove '..UptoSaid'. A law counts once. -/
mutual
def uptoBulk {H : Type} : DataW H → Nat
  | .lit (.string bytes) => bytes.length + 1
  | .lit _ => 1
  | .nil => 1
  | .ptr d => uptoBulk d + 1
  | .slice elems spare => uptoBulkAll elems + uptoBulkAll spare + 1
  | .agg parts => uptoBulkAll parts + 1
  | .iface _ d => uptoBulk d + 1
  | .map entries => uptoBulkEntries entries + 1
  | .held _ => 1
def uptoBulkAll {H : Type} : List (DataW H) → Nat
  | [] => 0
  | d :: r => uptoBulk d + uptoBulkAll r
def uptoBulkEntries {H : Type} : List (Lit × DataW H) → Nat
  | [] => 0
  | x :: r => uptoBulkEntry x + uptoBulkEntries r
def uptoBulkEntry {H : Type} : Lit × DataW H → Nat
  | (.string bytes, d) => bytes.length + uptoBulk d + 1
  | (_, d) => uptoBulk d + 1
 end
def uptoSmall : (H : Type) → List (DataW H) → Bool := fun _ ds => decide (uptoBulkAll ds ≤ 1048576)
def OpenSpec.upto (s : _root_.Go.ChangeSpec) : _root_.Go.OpenSpec := { _root_.Go.OpenSpec.ofChange s with cond := some uptoSmall }

/-- 'laws.FnCountFree', WHERE WHAT IT READS IS OF BULK AT MOST 1048576: true; the input reads as it did. -/
def fnCountFreeUptoRow : OpenClaim := { program := "ytnfehnajcadlpaa", sum := "333a4dd57d5f1ea4df1b49ea35657b746419a8afe366e60ebd800d4b8ed8c009", func := "loop.example/flatfunctions/laws.FnCountFree", spec := "fnCountFree", unfollowed := true, recurses := true, apart := false, narrowed := true }
def FnCountFreeUptoSaid : Prop := fnCountFreeUptoRow.holds Try.pinned (OpenSpec.upto fnCountFreeSpec)

/-- 'laws.FnClosed', WHERE WHAT IT READS IS OF BULK AT MOST 1048576: true; the input reads as it did. -/
def fnClosedUptoRow : OpenClaim := { program := "ytnfehnajcadlpaa", sum := "333a4dd57d5f1ea4df1b49ea35657b746419a8afe366e60ebd800d4b8ed8c009", func := "loop.example/flatfunctions/laws.FnClosed", spec := "fnClosed", unfollowed := true, recurses := true, apart := false, narrowed := true }
def FnClosedUptoSaid : Prop := fnClosedUptoRow.holds Try.pinned (OpenSpec.upto fnClosedSpec)

/-- 'laws.FnBind', WHERE WHAT IT READS IS OF BULK AT MOST 1048576: true; the input reads as it did. -/
def fnBindUptoRow : OpenClaim := { program := "ytnfehnajcadlpaa", sum := "333a4dd57d5f1ea4df1b49ea35657b746419a8afe366e60ebd800d4b8ed8c009", func := "loop.example/flatfunctions/laws.FnBind", spec := "fnBind", unfollowed := true, recurses := true, apart := false, narrowed := true }
def FnBindUptoSaid : Prop := fnBindUptoRow.holds Try.pinned (OpenSpec.upto fnBindSpec)

/-- 'laws.FnLetTerm', WHERE WHAT IT READS IS OF BULK AT MOST 1048576: true; the input reads as it did. -/
def fnLetTermUptoRow : OpenClaim := { program := "ytnfehnajcadlpaa", sum := "333a4dd57d5f1ea4df1b49ea35657b746419a8afe366e60ebd800d4b8ed8c009", func := "loop.example/flatfunctions/laws.FnLetTerm", spec := "fnLetTerm", unfollowed := true, recurses := true, apart := false, narrowed := true }
def FnLetTermUptoSaid : Prop := fnLetTermUptoRow.holds Try.pinned (OpenSpec.upto fnLetTermSpec)

end Rows
end Go.Proofs.Ytnfehnajcadlpaa
