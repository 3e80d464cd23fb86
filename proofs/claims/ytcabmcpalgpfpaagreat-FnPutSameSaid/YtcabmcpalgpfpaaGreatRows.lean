/-
  No cell of these rows narrows 'for every input' (looked for: loops, veiled, ifaces, maps, wideKeys, modest, calm, conditions, laid).
  DERIVED. THE GIVEN ROWS OF THIS SEAT. 3 by the template 'for every input the law returns true; each argument reads behind the call as it read before'; 0 by the template 'total and deterministic' (their statements: YtcabmcpalgpfpaaGreatTotals.lean).
  GIVEN WITH THE SEED: the statements are not yours to turn. If you find one false, say at which input.
  Laid BY PROGRAM, IN A SANDBOX (cutbox-rows.mjs): the forced cells as the released guide's own fill.sh prints them over the translation f4b06e931e8e87e7… (all of the seat's roots in one cut). By AI agents, Wed Nov 11 2026. No macro, syntax, notation, axiom, sorry.
-/
import Derived.Test.YtcabmcpalgpfpaaGreatChecked
import GoSem.Claim
import GoSem.ClaimJoined
import GoSem.ClaimMapViews
import Derived.JoinedTies
import Derived.KernelRfl
namespace Go.Proofs.YtcabmcpalgpfpaaGreat
/- THE CELL 'sum', in the pinned program and in every row, IS THE sha256 OF THE DUMP (.gsa) THAT YtcabmcpalgpfpaaGreatProg.lean LOADS. Nothing in Lean hashes anything: it is a label: what it is worth is what the hold of that sum in a sandbox is worth. -/
noncomputable def Tryz.pinned : Pinned := { name := "ytcabmcpalgpfpaagreat", sum := "f4b06e931e8e87e7085a332843b8cb7331390a1bd8a065574d61023cab07b24d", checked := Tryz.checked }
namespace Rows
def none {H : Type} : Left H := { results := [], args := [] }

/-- 'laws.FnRename': WHATEVER THE INPUT: true; the input reads as it did. -/
def fnRenameSpec : ChangeSpec := { name := "fnRename", fn := fun _ => fun
  | [d] => { results := [.lit (.bool true)], args := [d] }
  | _ => none }
def fnRenameRow : OpenClaim := { program := "ytcabmcpalgpfpaagreat", sum := "f4b06e931e8e87e7085a332843b8cb7331390a1bd8a065574d61023cab07b24d", func := "loop.example/flatfunctions/laws.FnRename", spec := "fnRename", unfollowed := true, recurses := true, apart := false }
def FnRenameSaid : Prop := fnRenameRow.holds Tryz.pinned (OpenSpec.ofChange fnRenameSpec)

/-- ITS FALSE NEIGHBOUR: 'it returns false'. Refute it at one input. -/
def fnRenameWrong : ChangeSpec := { name := "fnRename", fn := fun _ => fun
  | [d] => { results := [.lit (.bool false)], args := [d] }
  | _ => none }
def FnRenameWrongFalsely : Prop := fnRenameRow.holds Tryz.pinned (OpenSpec.ofChange fnRenameWrong)

/-- 'laws.FnPutSame': WHATEVER THE INPUT: true; the input reads as it did. -/
def fnPutSameSpec : ChangeSpec := { name := "fnPutSame", fn := fun _ => fun
  | [d1, d2] => { results := [.lit (.bool true)], args := [d1, d2] }
  | _ => none }
def fnPutSameRow : OpenClaim := { program := "ytcabmcpalgpfpaagreat", sum := "f4b06e931e8e87e7085a332843b8cb7331390a1bd8a065574d61023cab07b24d", func := "loop.example/flatfunctions/laws.FnPutSame", spec := "fnPutSame", unfollowed := true, recurses := true, apart := false }
def FnPutSameSaid : Prop := fnPutSameRow.holds Tryz.pinned (OpenSpec.ofChange fnPutSameSpec)

/-- ITS FALSE NEIGHBOUR: 'it returns false'. Refute it at one input. -/
def fnPutSameWrong : ChangeSpec := { name := "fnPutSame", fn := fun _ => fun
  | [d1, d2] => { results := [.lit (.bool false)], args := [d1, d2] }
  | _ => none }
def FnPutSameWrongFalsely : Prop := fnPutSameRow.holds Tryz.pinned (OpenSpec.ofChange fnPutSameWrong)

/-- 'laws.FnRenameUnique': WHATEVER THE INPUT: true; the input reads as it did. -/
def fnRenameUniqueSpec : ChangeSpec := { name := "fnRenameUnique", fn := fun _ => fun
  | [d] => { results := [.lit (.bool true)], args := [d] }
  | _ => none }
def fnRenameUniqueRow : OpenClaim := { program := "ytcabmcpalgpfpaagreat", sum := "f4b06e931e8e87e7085a332843b8cb7331390a1bd8a065574d61023cab07b24d", func := "loop.example/flatfunctions/laws.FnRenameUnique", spec := "fnRenameUnique", unfollowed := true, recurses := true, apart := false }
def FnRenameUniqueSaid : Prop := fnRenameUniqueRow.holds Tryz.pinned (OpenSpec.ofChange fnRenameUniqueSpec)

/-- ITS FALSE NEIGHBOUR: 'it returns false'. Refute it at one input. -/
def fnRenameUniqueWrong : ChangeSpec := { name := "fnRenameUnique", fn := fun _ => fun
  | [d] => { results := [.lit (.bool false)], args := [d] }
  | _ => none }
def FnRenameUniqueWrongFalsely : Prop := fnRenameUniqueRow.holds Tryz.pinned (OpenSpec.ofChange fnRenameUniqueWrong)

/- THE SECOND FORM. 'bulk': how many values and letters a reading holds, each counted each time it is reached (what is shared counts as often as it is met; a slice's spare places count too). A statement '..UptoSaid' is the law's where the arguments, and the package variables that the reading takes, are together of bulk at most 1048576: NARROWER than '..Said'. Prove '..Said' where nothing that the law and all that it calls make is longer than what came in: it says more and counts as full. Else prove '..UptoSaid'. A law counts once. -/
mutual
def uptoBulk {H : Type} : DataW H → Nat
  | .lit (.string bytes) => bytes.length + 1
  | .lit _ => 1
  | .nil => 1
  | .ptr d => uptoBulk d + 1
  | .slice elems spare => uptoBulkAll elems + uptoBulkAll spare + 1
  | .agg parts => uptoBulkAll parts + 1
  | .iface _ d => uptoBulk d + 1
  | .map entries => uptoBulkEntries entries + 1
  | .held _ => 1
def uptoBulkAll {H : Type} : List (DataW H) → Nat
  | [] => 0
  | d :: r => uptoBulk d + uptoBulkAll r
def uptoBulkEntries {H : Type} : List (Lit × DataW H) → Nat
  | [] => 0
  | x :: r => uptoBulkEntry x + uptoBulkEntries r
def uptoBulkEntry {H : Type} : Lit × DataW H → Nat
  | (.string bytes, d) => bytes.length + uptoBulk d + 1
  | (_, d) => uptoBulk d + 1
 end
def uptoSmall : (H : Type) → List (DataW H) → Bool := fun _ ds => decide (uptoBulkAll ds ≤ 1048576)
def OpenSpec.upto (s : _root_.Go.ChangeSpec) : _root_.Go.OpenSpec := { _root_.Go.OpenSpec.ofChange s with cond := some uptoSmall }

/-- 'laws.FnRename', WHERE WHAT IT READS IS OF BULK AT MOST 1048576: true; the input reads as it did. -/
def fnRenameUptoRow : OpenClaim := { program := "ytcabmcpalgpfpaagreat", sum := "f4b06e931e8e87e7085a332843b8cb7331390a1bd8a065574d61023cab07b24d", func := "loop.example/flatfunctions/laws.FnRename", spec := "fnRename", unfollowed := true, recurses := true, apart := false, narrowed := true }
def FnRenameUptoSaid : Prop := fnRenameUptoRow.holds Tryz.pinned (OpenSpec.upto fnRenameSpec)

/-- 'laws.FnPutSame', WHERE WHAT IT READS IS OF BULK AT MOST 1048576: true; the input reads as it did. -/
def fnPutSameUptoRow : OpenClaim := { program := "ytcabmcpalgpfpaagreat", sum := "f4b06e931e8e87e7085a332843b8cb7331390a1bd8a065574d61023cab07b24d", func := "loop.example/flatfunctions/laws.FnPutSame", spec := "fnPutSame", unfollowed := true, recurses := true, apart := false, narrowed := true }
def FnPutSameUptoSaid : Prop := fnPutSameUptoRow.holds Tryz.pinned (OpenSpec.upto fnPutSameSpec)

/-- 'laws.FnRenameUnique', WHERE WHAT IT READS IS OF BULK AT MOST 1048576: true; the input reads as it did. -/
def fnRenameUniqueUptoRow : OpenClaim := { program := "ytcabmcpalgpfpaagreat", sum := "f4b06e931e8e87e7085a332843b8cb7331390a1bd8a065574d61023cab07b24d", func := "loop.example/flatfunctions/laws.FnRenameUnique", spec := "fnRenameUnique", unfollowed := true, recurses := true, apart := false, narrowed := true }
def FnRenameUniqueUptoSaid : Prop := fnRenameUniqueUptoRow.holds Tryz.pinned (OpenSpec.upto fnRenameUniqueSpec)

end Rows
end Go.Proofs.YtcabmcpalgpfpaaGreat
