/-
  No cell of these rows narrows 'for every input' (looked for: loops, veiled, ifaces, maps, wideKeys, modest, calm, conditions, laid).
  DERIVED. THE GIVEN ROWS OF THIS SEAT. 3 by the template 'for every input the law returns true; each argument reads behind the call as it read before'; 0 by the template 'total and deterministic' (their statements: YtpliofhphijdkaaTotals.lean).
  GIVEN WITH THE SEED: the statements are not yours to turn. If you find one false, say at which input.
  Laid BY PROGRAM, IN A SANDBOX (cutbox-rows.mjs): the forced cells as the released guide's own fill.sh prints them over the translation b70f4475f6914d8c… (all of the seat's roots in one cut). By AI agents, Wed Nov 11 2026. No macro, syntax, notation, axiom, sorry.
-/
import Derived.Test.YtpliofhphijdkaaChecked
import GoSem.Claim
import GoSem.ClaimJoined
import GoSem.ClaimMapViews
import Derived.JoinedTies
import Derived.KernelRfl
namespace Go.Proofs.Ytpliofhphijdkaa
/- THE CELL 'sum', in the pinned program and in every row, IS THE sha256 OF THE DUMP (.gsa) THAT YtpliofhphijdkaaProg.lean LOADS. Nothing in Lean hashes anything: it is a label: what it is worth is what the hold of that sum in a sandbox is worth. -/
noncomputable def Try.pinned : Pinned := { name := "ytpliofhphijdkaa", sum := "b70f4475f6914d8cd50dd572c12aea8ed09210c32900c8a9b4fbe52959fd4e34", checked := Try.checked }
namespace Rows
def none {H : Type} : Left H := { results := [], args := [] }

/-- 'verdererlaw20.PickPasses': WHATEVER THE INPUT: true; the input reads as it did. -/
def pickPassesSpec : ChangeSpec := { name := "pickPasses", fn := fun _ => fun
  | [d1, d2, d3] => { results := [.lit (.bool true)], args := [d1, d2, d3] }
  | _ => none }
def pickPassesRow : OpenClaim := { program := "ytpliofhphijdkaa", sum := "b70f4475f6914d8cd50dd572c12aea8ed09210c32900c8a9b4fbe52959fd4e34", func := "verderer/verdererlaw20.PickPasses", spec := "pickPasses", unfollowed := true, recurses := true, apart := false }
def PickPassesSaid : Prop := pickPassesRow.holds Try.pinned (OpenSpec.ofChange pickPassesSpec)

/-- ITS FALSE NEIGHBOUR: 'it returns false'. Refute it at one input. -/
def pickPassesWrong : ChangeSpec := { name := "pickPasses", fn := fun _ => fun
  | [d1, d2, d3] => { results := [.lit (.bool false)], args := [d1, d2, d3] }
  | _ => none }
def PickPassesWrongFalsely : Prop := pickPassesRow.holds Try.pinned (OpenSpec.ofChange pickPassesWrong)

/-- 'verdererlaw20.PickSums': WHATEVER THE INPUT: true; the input reads as it did. -/
def pickSumsSpec : ChangeSpec := { name := "pickSums", fn := fun _ => fun
  | [d1, d2] => { results := [.lit (.bool true)], args := [d1, d2] }
  | _ => none }
def pickSumsRow : OpenClaim := { program := "ytpliofhphijdkaa", sum := "b70f4475f6914d8cd50dd572c12aea8ed09210c32900c8a9b4fbe52959fd4e34", func := "verderer/verdererlaw20.PickSums", spec := "pickSums", unfollowed := true, recurses := true, apart := false }
def PickSumsSaid : Prop := pickSumsRow.holds Try.pinned (OpenSpec.ofChange pickSumsSpec)

/-- ITS FALSE NEIGHBOUR: 'it returns false'. Refute it at one input. -/
def pickSumsWrong : ChangeSpec := { name := "pickSums", fn := fun _ => fun
  | [d1, d2] => { results := [.lit (.bool false)], args := [d1, d2] }
  | _ => none }
def PickSumsWrongFalsely : Prop := pickSumsRow.holds Try.pinned (OpenSpec.ofChange pickSumsWrong)

/-- 'verdererlaw20.PickNil': WHATEVER THE INPUT: true; the input reads as it did. -/
def pickNilSpec : ChangeSpec := { name := "pickNil", fn := fun _ => fun
  | [d] => { results := [.lit (.bool true)], args := [d] }
  | _ => none }
def pickNilRow : OpenClaim := { program := "ytpliofhphijdkaa", sum := "b70f4475f6914d8cd50dd572c12aea8ed09210c32900c8a9b4fbe52959fd4e34", func := "verderer/verdererlaw20.PickNil", spec := "pickNil", unfollowed := true, recurses := true, apart := false }
def PickNilSaid : Prop := pickNilRow.holds Try.pinned (OpenSpec.ofChange pickNilSpec)

/-- ITS FALSE NEIGHBOUR: 'it returns false'. Refute it at one input. -/
def pickNilWrong : ChangeSpec := { name := "pickNil", fn := fun _ => fun
  | [d] => { results := [.lit (.bool false)], args := [d] }
  | _ => none }
def PickNilWrongFalsely : Prop := pickNilRow.holds Try.pinned (OpenSpec.ofChange pickNilWrong)

/- THE SECOND FORM. 'bulk': how many values and letters a reading holds, each counted each time it is reached (what is shared counts as often as it is met; a slice's spare places count too). A statement '..UptoSaid' is the law's where the arguments, and the package variables that the reading takes, are together of bulk at most 1048576: NARROWER than '..Said'. Prove '..Said' where nothing that the law and all that it calls make is longer than what came in: it says more and counts as full. Else prove '..UptoSaid'. A law counts once. -/
mutual
def uptoBulk {H : Type} : DataW H → Nat
  | .lit (.string bytes) => bytes.length + 1
  | .lit _ => 1
  | .nil => 1
  | .ptr d => uptoBulk d + 1
  | .slice elems spare => uptoBulkAll elems + uptoBulkAll spare + 1
  | .agg parts => uptoBulkAll parts + 1
  | .iface _ d => uptoBulk d + 1
  | .map entries => uptoBulkEntries entries + 1
  | .held _ => 1
def uptoBulkAll {H : Type} : List (DataW H) → Nat
  | [] => 0
  | d :: r => uptoBulk d + uptoBulkAll r
def uptoBulkEntries {H : Type} : List (Lit × DataW H) → Nat
  | [] => 0
  | x :: r => uptoBulkEntry x + uptoBulkEntries r
def uptoBulkEntry {H : Type} : Lit × DataW H → Nat
  | (.string bytes, d) => bytes.length + uptoBulk d + 1
  | (_, d) => uptoBulk d + 1
 end
def uptoSmall : (H : Type) → List (DataW H) → Bool := fun _ ds => decide (uptoBulkAll ds ≤ 1048576)
def OpenSpec.upto (s : _root_.Go.ChangeSpec) : _root_.Go.OpenSpec := { _root_.Go.OpenSpec.ofChange s with cond := some uptoSmall }

/-- 'verdererlaw20.PickPasses', WHERE WHAT IT READS IS OF BULK AT MOST 1048576: true; the input reads as it did. -/
def pickPassesUptoRow : OpenClaim := { program := "ytpliofhphijdkaa", sum := "b70f4475f6914d8cd50dd572c12aea8ed09210c32900c8a9b4fbe52959fd4e34", func := "verderer/verdererlaw20.PickPasses", spec := "pickPasses", unfollowed := true, recurses := true, apart := false, narrowed := true }
def PickPassesUptoSaid : Prop := pickPassesUptoRow.holds Try.pinned (OpenSpec.upto pickPassesSpec)

/-- 'verdererlaw20.PickSums', WHERE WHAT IT READS IS OF BULK AT MOST 1048576: true; the input reads as it did. -/
def pickSumsUptoRow : OpenClaim := { program := "ytpliofhphijdkaa", sum := "b70f4475f6914d8cd50dd572c12aea8ed09210c32900c8a9b4fbe52959fd4e34", func := "verderer/verdererlaw20.PickSums", spec := "pickSums", unfollowed := true, recurses := true, apart := false, narrowed := true }
def PickSumsUptoSaid : Prop := pickSumsUptoRow.holds Try.pinned (OpenSpec.upto pickSumsSpec)

/-- 'verdererlaw20.PickNil', WHERE WHAT IT READS IS OF BULK AT MOST 1048576: true; the input reads as it did. -/
def pickNilUptoRow : OpenClaim := { program := "ytpliofhphijdkaa", sum := "b70f4475f6914d8cd50dd572c12aea8ed09210c32900c8a9b4fbe52959fd4e34", func := "verderer/verdererlaw20.PickNil", spec := "pickNil", unfollowed := true, recurses := true, apart := false, narrowed := true }
def PickNilUptoSaid : Prop := pickNilUptoRow.holds Try.pinned (OpenSpec.upto pickNilSpec)

end Rows
end Go.Proofs.Ytpliofhphijdkaa
