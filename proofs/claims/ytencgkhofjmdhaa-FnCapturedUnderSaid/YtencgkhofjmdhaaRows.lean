/-
  No cell of these rows narrows 'for every input' (looked for: loops, veiled, ifaces, maps, wideKeys, modest, calm, conditions, laid).
  DERIVED. THE GIVEN ROWS OF THIS SEAT. 2 by the template 'for every input the law returns true; each argument reads behind the call as it read before'; 0 by the template 'total and deterministic' (their statements: YtencgkhofjmdhaaTotals.lean).
  GIVEN WITH THE SEED: the statements are not yours to turn. If you find one false, say at which input.
  Laid BY PROGRAM, IN A SANDBOX (cutbox-rows.mjs): the forced cells as the released guide's own fill.sh prints them over the translation 2d843891d5dd414a… (all of the seat's roots in one cut). By AI agents, Wed Nov 11 2026. No macro, syntax, notation, axiom, sorry.
-/
import Derived.Test.YtencgkhofjmdhaaChecked
import GoSem.Claim
import GoSem.ClaimJoined
import GoSem.ClaimMapViews
import Derived.JoinedTies
import Derived.KernelRfl
namespace Go.Proofs.Ytencgkhofjmdhaa
/- THE CELL 'sum', in the pinned program and in every row, IS THE sha256 OF THE DUMP (.gsa) THAT YtencgkhofjmdhaaProg.lean LOADS. Nothing in Lean hashes anything: it is a label: what it is worth is what the hold of that sum in a sandbox is worth. -/
noncomputable def Try.pinned : Pinned := { name := "ytencgkhofjmdhaa", sum := "2d843891d5dd414adb5c2aa75fc1f19577ce54b69704544c0d1fe9dcb4fcb8c5", checked := Try.checked }
namespace Rows
def none {H : Type} : Left H := { results := [], args := [] }

/-- 'laws.FnCaptured': WHATEVER THE INPUT: true; the input reads as it did. -/
def fnCapturedSpec : ChangeSpec := { name := "fnCaptured", fn := fun _ => fun
  | [d] => { results := [.lit (.bool true)], args := [d] }
  | _ => none }
def fnCapturedRow : OpenClaim := { program := "ytencgkhofjmdhaa", sum := "2d843891d5dd414adb5c2aa75fc1f19577ce54b69704544c0d1fe9dcb4fcb8c5", func := "loop.example/flatfunctions/laws.FnCaptured", spec := "fnCaptured", unfollowed := true, recurses := true, apart := false }
def FnCapturedSaid : Prop := fnCapturedRow.holds Try.pinned (OpenSpec.ofChange fnCapturedSpec)

/-- ITS FALSE NEIGHBOUR: 'it returns false'. Refute it at one input. -/
def fnCapturedWrong : ChangeSpec := { name := "fnCaptured", fn := fun _ => fun
  | [d] => { results := [.lit (.bool false)], args := [d] }
  | _ => none }
def FnCapturedWrongFalsely : Prop := fnCapturedRow.holds Try.pinned (OpenSpec.ofChange fnCapturedWrong)

/-- 'laws.FnCapturedUnder': WHATEVER THE INPUT: true; the input reads as it did. -/
def fnCapturedUnderSpec : ChangeSpec := { name := "fnCapturedUnder", fn := fun _ => fun
  | [d] => { results := [.lit (.bool true)], args := [d] }
  | _ => none }
def fnCapturedUnderRow : OpenClaim := { program := "ytencgkhofjmdhaa", sum := "2d843891d5dd414adb5c2aa75fc1f19577ce54b69704544c0d1fe9dcb4fcb8c5", func := "loop.example/flatfunctions/laws.FnCapturedUnder", spec := "fnCapturedUnder", unfollowed := true, recurses := true, apart := false }
def FnCapturedUnderSaid : Prop := fnCapturedUnderRow.holds Try.pinned (OpenSpec.ofChange fnCapturedUnderSpec)

/-- ITS FALSE NEIGHBOUR: 'it returns false'. Refute it at one input. -/
def fnCapturedUnderWrong : ChangeSpec := { name := "fnCapturedUnder", fn := fun _ => fun
  | [d] => { results := [.lit (.bool false)], args := [d] }
  | _ => none }
def FnCapturedUnderWrongFalsely : Prop := fnCapturedUnderRow.holds Try.pinned (OpenSpec.ofChange fnCapturedUnderWrong)

/- THE SECOND FORM. 'bulk': how many values and letters a reading holds, each counted each time it is reached (what is shared counts as often as it is met; a slice's spare places count too). A statement '..UptoSaid' is the law's where the arguments, and the package variables that the reading takes, are together of bulk at most 1048576: NARROWER than '..Said'. Prove '..Said' where nothing that the law and all that it calls make is longer than what came in: it says more and counts as full. Else prove '..UptoSaid'. A law counts once. -/
mutual
def uptoBulk {H : Type} : DataW H → Nat
  | .lit (.string bytes) => bytes.length + 1
  | .lit _ => 1
  | .nil => 1
  | .ptr d => uptoBulk d + 1
  | .slice elems spare => uptoBulkAll elems + uptoBulkAll spare + 1
  | .agg parts => uptoBulkAll parts + 1
  | .iface _ d => uptoBulk d + 1
  | .map entries => uptoBulkEntries entries + 1
  | .held _ => 1
def uptoBulkAll {H : Type} : List (DataW H) → Nat
  | [] => 0
  | d :: r => uptoBulk d + uptoBulkAll r
def uptoBulkEntries {H : Type} : List (Lit × DataW H) → Nat
  | [] => 0
  | x :: r => uptoBulkEntry x + uptoBulkEntries r
def uptoBulkEntry {H : Type} : Lit × DataW H → Nat
  | (.string bytes, d) => bytes.length + uptoBulk d + 1
  | (_, d) => uptoBulk d + 1
 end
def uptoSmall : (H : Type) → List (DataW H) → Bool := fun _ ds => decide (uptoBulkAll ds ≤ 1048576)
def OpenSpec.upto (s : _root_.Go.ChangeSpec) : _root_.Go.OpenSpec := { _root_.Go.OpenSpec.ofChange s with cond := some uptoSmall }

/-- 'laws.FnCaptured', WHERE WHAT IT READS IS OF BULK AT MOST 1048576: true; the input reads as it did. -/
def fnCapturedUptoRow : OpenClaim := { program := "ytencgkhofjmdhaa", sum := "2d843891d5dd414adb5c2aa75fc1f19577ce54b69704544c0d1fe9dcb4fcb8c5", func := "loop.example/flatfunctions/laws.FnCaptured", spec := "fnCaptured", unfollowed := true, recurses := true, apart := false, narrowed := true }
def FnCapturedUptoSaid : Prop := fnCapturedUptoRow.holds Try.pinned (OpenSpec.upto fnCapturedSpec)

/-- 'laws.FnCapturedUnder', WHERE WHAT IT READS IS OF BULK AT MOST 1048576: true; the input reads as it did. -/
def fnCapturedUnderUptoRow : OpenClaim := { program := "ytencgkhofjmdhaa", sum := "2d843891d5dd414adb5c2aa75fc1f19577ce54b69704544c0d1fe9dcb4fcb8c5", func := "loop.example/flatfunctions/laws.FnCapturedUnder", spec := "fnCapturedUnder", unfollowed := true, recurses := true, apart := false, narrowed := true }
def FnCapturedUnderUptoSaid : Prop := fnCapturedUnderUptoRow.holds Try.pinned (OpenSpec.upto fnCapturedUnderSpec)

end Rows
end Go.Proofs.Ytencgkhofjmdhaa
