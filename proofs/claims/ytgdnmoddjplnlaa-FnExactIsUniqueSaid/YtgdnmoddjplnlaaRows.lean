/-
  No cell of these rows narrows 'for every input' (looked for: loops, veiled, ifaces, maps, wideKeys, modest, calm, conditions, laid).
  DERIVED. THE GIVEN ROWS OF THIS SEAT. 3 by the template 'for every input the law returns true; each argument reads behind the call as it read before'; 0 by the template 'total and deterministic' (their statements: YtgdnmoddjplnlaaTotals.lean).
  GIVEN WITH THE SEED: the statements are not yours to turn. If you find one false, say at which input.
  Laid BY PROGRAM, IN A SANDBOX (cutbox-rows.mjs): the forced cells as the released guide's own fill.sh prints them over the translation 4b014ef05fc6b6d5… (all of the seat's roots in one cut). By AI agents, Wed Nov 11 2026. No macro, syntax, notation, axiom, sorry.
-/
import Derived.Test.YtgdnmoddjplnlaaChecked
import GoSem.Claim
import GoSem.ClaimJoined
import GoSem.ClaimMapViews
import Derived.JoinedTies
import Derived.KernelRfl
namespace Go.Proofs.Ytgdnmoddjplnlaa
/- THE CELL 'sum', in the pinned program and in every row, IS THE sha256 OF THE DUMP (.gsa) THAT YtgdnmoddjplnlaaProg.lean LOADS. Nothing in Lean hashes anything: it is a label: what it is worth is what the hold of that sum in a sandbox is worth. -/
noncomputable def Try.pinned : Pinned := { name := "ytgdnmoddjplnlaa", sum := "4b014ef05fc6b6d5ce8ab4685175e67ae80ca625e30fa2d264961f55adb6aa90", checked := Try.checked }
namespace Rows
def none {H : Type} : Left H := { results := [], args := [] }

/-- 'laws.FnExactIsUnique': WHATEVER THE INPUT: true; the input reads as it did. -/
def fnExactIsUniqueSpec : ChangeSpec := { name := "fnExactIsUnique", fn := fun _ => fun
  | [d] => { results := [.lit (.bool true)], args := [d] }
  | _ => none }
def fnExactIsUniqueRow : OpenClaim := { program := "ytgdnmoddjplnlaa", sum := "4b014ef05fc6b6d5ce8ab4685175e67ae80ca625e30fa2d264961f55adb6aa90", func := "loop.example/flatfunctions/laws.FnExactIsUnique", spec := "fnExactIsUnique", unfollowed := true, recurses := true, apart := false }
def FnExactIsUniqueSaid : Prop := fnExactIsUniqueRow.holds Try.pinned (OpenSpec.ofChange fnExactIsUniqueSpec)

/-- ITS FALSE NEIGHBOUR: 'it returns false'. Refute it at one input. -/
def fnExactIsUniqueWrong : ChangeSpec := { name := "fnExactIsUnique", fn := fun _ => fun
  | [d] => { results := [.lit (.bool false)], args := [d] }
  | _ => none }
def FnExactIsUniqueWrongFalsely : Prop := fnExactIsUniqueRow.holds Try.pinned (OpenSpec.ofChange fnExactIsUniqueWrong)

/-- 'laws.FnExactCapturedBy': WHATEVER THE INPUT: true; the input reads as it did. -/
def fnExactCapturedBySpec : ChangeSpec := { name := "fnExactCapturedBy", fn := fun _ => fun
  | [d] => { results := [.lit (.bool true)], args := [d] }
  | _ => none }
def fnExactCapturedByRow : OpenClaim := { program := "ytgdnmoddjplnlaa", sum := "4b014ef05fc6b6d5ce8ab4685175e67ae80ca625e30fa2d264961f55adb6aa90", func := "loop.example/flatfunctions/laws.FnExactCapturedBy", spec := "fnExactCapturedBy", unfollowed := true, recurses := true, apart := false }
def FnExactCapturedBySaid : Prop := fnExactCapturedByRow.holds Try.pinned (OpenSpec.ofChange fnExactCapturedBySpec)

/-- ITS FALSE NEIGHBOUR: 'it returns false'. Refute it at one input. -/
def fnExactCapturedByWrong : ChangeSpec := { name := "fnExactCapturedBy", fn := fun _ => fun
  | [d] => { results := [.lit (.bool false)], args := [d] }
  | _ => none }
def FnExactCapturedByWrongFalsely : Prop := fnExactCapturedByRow.holds Try.pinned (OpenSpec.ofChange fnExactCapturedByWrong)

/-- 'laws.FnExactNewName': WHATEVER THE INPUT: true; the input reads as it did. -/
def fnExactNewNameSpec : ChangeSpec := { name := "fnExactNewName", fn := fun _ => fun
  | [d] => { results := [.lit (.bool true)], args := [d] }
  | _ => none }
def fnExactNewNameRow : OpenClaim := { program := "ytgdnmoddjplnlaa", sum := "4b014ef05fc6b6d5ce8ab4685175e67ae80ca625e30fa2d264961f55adb6aa90", func := "loop.example/flatfunctions/laws.FnExactNewName", spec := "fnExactNewName", unfollowed := true, recurses := true, apart := false }
def FnExactNewNameSaid : Prop := fnExactNewNameRow.holds Try.pinned (OpenSpec.ofChange fnExactNewNameSpec)

/-- ITS FALSE NEIGHBOUR: 'it returns false'. Refute it at one input. -/
def fnExactNewNameWrong : ChangeSpec := { name := "fnExactNewName", fn := fun _ => fun
  | [d] => { results := [.lit (.bool false)], args := [d] }
  | _ => none }
def FnExactNewNameWrongFalsely : Prop := fnExactNewNameRow.holds Try.pinned (OpenSpec.ofChange fnExactNewNameWrong)

/- THE SECOND FORM. 'bulk': how many values and letters a reading holds, each counted each time it is reached (what is shared counts as often as it is met; a slice's spare places count too). A statement '..UptoSaid' is the law's where the arguments, and the package variables that the reading takes, are together of bulk at most 1048576: NARROWER than '..Said'. Prove '..Said' where nothing that the law and all that it calls make is longer than what came in: it says more and counts as full. Else prove '..UptoSaid'. A law counts once. -/
mutual
def uptoBulk {H : Type} : DataW H → Nat
  | .lit (.string bytes) => bytes.length + 1
  | .lit _ => 1
  | .nil => 1
  | .ptr d => uptoBulk d + 1
  | .slice elems spare => uptoBulkAll elems + uptoBulkAll spare + 1
  | .agg parts => uptoBulkAll parts + 1
  | .iface _ d => uptoBulk d + 1
  | .map entries => uptoBulkEntries entries + 1
  | .held _ => 1
def uptoBulkAll {H : Type} : List (DataW H) → Nat
  | [] => 0
  | d :: r => uptoBulk d + uptoBulkAll r
def uptoBulkEntries {H : Type} : List (Lit × DataW H) → Nat
  | [] => 0
  | x :: r => uptoBulkEntry x + uptoBulkEntries r
def uptoBulkEntry {H : Type} : Lit × DataW H → Nat
  | (.string bytes, d) => bytes.length + uptoBulk d + 1
  | (_, d) => uptoBulk d + 1
 end
def uptoSmall : (H : Type) → List (DataW H) → Bool := fun _ ds => decide (uptoBulkAll ds ≤ 1048576)
def OpenSpec.upto (s : _root_.Go.ChangeSpec) : _root_.Go.OpenSpec := { _root_.Go.OpenSpec.ofChange s with cond := some uptoSmall }

/-- 'laws.FnExactIsUnique', WHERE WHAT IT READS IS OF BULK AT MOST 1048576: true; the input reads as it did. -/
def fnExactIsUniqueUptoRow : OpenClaim := { program := "ytgdnmoddjplnlaa", sum := "4b014ef05fc6b6d5ce8ab4685175e67ae80ca625e30fa2d264961f55adb6aa90", func := "loop.example/flatfunctions/laws.FnExactIsUnique", spec := "fnExactIsUnique", unfollowed := true, recurses := true, apart := false, narrowed := true }
def FnExactIsUniqueUptoSaid : Prop := fnExactIsUniqueUptoRow.holds Try.pinned (OpenSpec.upto fnExactIsUniqueSpec)

/-- 'laws.FnExactCapturedBy', WHERE WHAT IT READS IS OF BULK AT MOST 1048576: true; the input reads as it did. -/
def fnExactCapturedByUptoRow : OpenClaim := { program := "ytgdnmoddjplnlaa", sum := "4b014ef05fc6b6d5ce8ab4685175e67ae80ca625e30fa2d264961f55adb6aa90", func := "loop.example/flatfunctions/laws.FnExactCapturedBy", spec := "fnExactCapturedBy", unfollowed := true, recurses := true, apart := false, narrowed := true }
def FnExactCapturedByUptoSaid : Prop := fnExactCapturedByUptoRow.holds Try.pinned (OpenSpec.upto fnExactCapturedBySpec)

/-- 'laws.FnExactNewName', WHERE WHAT IT READS IS OF BULK AT MOST 1048576: true; the input reads as it did. -/
def fnExactNewNameUptoRow : OpenClaim := { program := "ytgdnmoddjplnlaa", sum := "4b014ef05fc6b6d5ce8ab4685175e67ae80ca625e30fa2d264961f55adb6aa90", func := "loop.example/flatfunctions/laws.FnExactNewName", spec := "fnExactNewName", unfollowed := true, recurses := true, apart := false, narrowed := true }
def FnExactNewNameUptoSaid : Prop := fnExactNewNameUptoRow.holds Try.pinned (OpenSpec.upto fnExactNewNameSpec)

end Rows
end Go.Proofs.Ytgdnmoddjplnlaa
