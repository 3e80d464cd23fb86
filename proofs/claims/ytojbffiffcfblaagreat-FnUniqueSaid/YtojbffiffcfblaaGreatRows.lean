/-
  No cell of these rows narrows 'for every input' (looked for: loops, veiled, ifaces, maps, wideKeys, modest, calm, conditions, laid).
  DERIVED. THE GIVEN ROWS OF THIS SEAT. 2 by the template 'for every input the law returns true; each argument reads behind the call as it read before'; 0 by the template 'total and deterministic' (their statements: YtojbffiffcfblaaGreatTotals.lean).
  GIVEN WITH THE SEED: the statements are not yours to turn. If you find one false, say at which input.
  Laid BY PROGRAM, IN A SANDBOX (cutbox-rows.mjs): the forced cells as the released guide's own fill.sh prints them over the translation 3b68c250a8f8abc4… (all of the seat's roots in one cut). By AI agents, Wed Nov 11 2026. No macro, syntax, notation, axiom, sorry.
-/
import Derived.Test.YtojbffiffcfblaaGreatChecked
import GoSem.Claim
import GoSem.ClaimJoined
import GoSem.ClaimMapViews
import Derived.JoinedTies
import Derived.KernelRfl
namespace Go.Proofs.YtojbffiffcfblaaGreat
/- THE CELL 'sum', in the pinned program and in every row, IS THE sha256 OF THE DUMP (.gsa) THAT YtojbffiffcfblaaGreatProg.lean LOADS. Nothing in Lean hashes anything: it is a label: what it is worth is what the hold of that sum in a sandbox is worth. -/
noncomputable def Tryz.pinned : Pinned := { name := "ytojbffiffcfblaagreat", sum := "3b68c250a8f8abc4836182b23df538866435cdc8d44c67a49a271699811bd492", checked := Tryz.checked }
namespace Rows
def none {H : Type} : Left H := { results := [], args := [] }

/-- 'laws.FnUnique': WHATEVER THE INPUT: true; the input reads as it did. -/
def fnUniqueSpec : ChangeSpec := { name := "fnUnique", fn := fun _ => fun
  | [d1, d2] => { results := [.lit (.bool true)], args := [d1, d2] }
  | _ => none }
def fnUniqueRow : OpenClaim := { program := "ytojbffiffcfblaagreat", sum := "3b68c250a8f8abc4836182b23df538866435cdc8d44c67a49a271699811bd492", func := "loop.example/flatfunctions/laws.FnUnique", spec := "fnUnique", unfollowed := true, recurses := true, apart := false }
def FnUniqueSaid : Prop := fnUniqueRow.holds Tryz.pinned (OpenSpec.ofChange fnUniqueSpec)

/-- ITS FALSE NEIGHBOUR: 'it returns false'. Refute it at one input. -/
def fnUniqueWrong : ChangeSpec := { name := "fnUnique", fn := fun _ => fun
  | [d1, d2] => { results := [.lit (.bool false)], args := [d1, d2] }
  | _ => none }
def FnUniqueWrongFalsely : Prop := fnUniqueRow.holds Tryz.pinned (OpenSpec.ofChange fnUniqueWrong)

/-- 'laws.FnPutSame': WHATEVER THE INPUT: true; the input reads as it did. -/
def fnPutSameSpec : ChangeSpec := { name := "fnPutSame", fn := fun _ => fun
  | [d1, d2] => { results := [.lit (.bool true)], args := [d1, d2] }
  | _ => none }
def fnPutSameRow : OpenClaim := { program := "ytojbffiffcfblaagreat", sum := "3b68c250a8f8abc4836182b23df538866435cdc8d44c67a49a271699811bd492", func := "loop.example/flatfunctions/laws.FnPutSame", spec := "fnPutSame", unfollowed := true, recurses := true, apart := false }
def FnPutSameSaid : Prop := fnPutSameRow.holds Tryz.pinned (OpenSpec.ofChange fnPutSameSpec)

/-- ITS FALSE NEIGHBOUR: 'it returns false'. Refute it at one input. -/
def fnPutSameWrong : ChangeSpec := { name := "fnPutSame", fn := fun _ => fun
  | [d1, d2] => { results := [.lit (.bool false)], args := [d1, d2] }
  | _ => none }
def FnPutSameWrongFalsely : Prop := fnPutSameRow.holds Tryz.pinned (OpenSpec.ofChange fnPutSameWrong)

/- THE SECOND FORM. 'bulk': how many values and letters a reading holds, each counted each time it is reached (what is shared counts as often as it is met; a slice's spare places count too). A statement '..UptoSaid' is the law's where the arguments, and the package variables that the reading takes, are together of bulk at most 1048576: NARROWER than '..Said'. Prove '..Said' where nothing that the law and all that it calls make is longer than what came in: it says more and counts as full. Else prove '..UptoSaid'. A law counts once. -/
mutual
def uptoBulk {H : Type} : DataW H → Nat
  | .lit (.string bytes) => bytes.length + 1
  | .lit _ => 1
  | .nil => 1
  | .ptr d => uptoBulk d + 1
  | .slice elems spare => uptoBulkAll elems + uptoBulkAll spare + 1
  | .agg parts => uptoBulkAll parts + 1
  | .iface _ d => uptoBulk d + 1
  | .map entries => uptoBulkEntries entries + 1
  | .held _ => 1
def uptoBulkAll {H : Type} : List (DataW H) → Nat
  | [] => 0
  | d :: r => uptoBulk d + uptoBulkAll r
def uptoBulkEntries {H : Type} : List (Lit × DataW H) → Nat
  | [] => 0
  | x :: r => uptoBulkEntry x + uptoBulkEntries r
def uptoBulkEntry {H : Type} : Lit × DataW H → Nat
  | (.string bytes, d) => bytes.length + uptoBulk d + 1
  | (_, d) => uptoBulk d + 1
 end
def uptoSmall : (H : Type) → List (DataW H) → Bool := fun _ ds => decide (uptoBulkAll ds ≤ 1048576)
def OpenSpec.upto (s : _root_.Go.ChangeSpec) : _root_.Go.OpenSpec := { _root_.Go.OpenSpec.ofChange s with cond := some uptoSmall }

/-- 'laws.FnUnique', WHERE WHAT IT READS IS OF BULK AT MOST 1048576: true; the input reads as it did. -/
def fnUniqueUptoRow : OpenClaim := { program := "ytojbffiffcfblaagreat", sum := "3b68c250a8f8abc4836182b23df538866435cdc8d44c67a49a271699811bd492", func := "loop.example/flatfunctions/laws.FnUnique", spec := "fnUnique", unfollowed := true, recurses := true, apart := false, narrowed := true }
def FnUniqueUptoSaid : Prop := fnUniqueUptoRow.holds Tryz.pinned (OpenSpec.upto fnUniqueSpec)

/-- 'laws.FnPutSame', WHERE WHAT IT READS IS OF BULK AT MOST 1048576: true; the input reads as it did. -/
def fnPutSameUptoRow : OpenClaim := { program := "ytojbffiffcfblaagreat", sum := "3b68c250a8f8abc4836182b23df538866435cdc8d44c67a49a271699811bd492", func := "loop.example/flatfunctions/laws.FnPutSame", spec := "fnPutSame", unfollowed := true, recurses := true, apart := false, narrowed := true }
def FnPutSameUptoSaid : Prop := fnPutSameUptoRow.holds Tryz.pinned (OpenSpec.upto fnPutSameSpec)

end Rows
end Go.Proofs.YtojbffiffcfblaaGreat
