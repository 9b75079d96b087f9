/-
  No cell of these rows narrows 'for every input' (looked for: loops, veiled, ifaces, maps, wideKeys, modest, calm, conditions, laid).
  DERIVED. THE GIVEN ROWS OF THIS SEAT. 8 by the template 'for every input the law returns true; each argument reads behind the call as it read before'; 0 by the template 'total and deterministic' (their statements: YtoeggpoeongnhaaTotals.lean).
  GIVEN WITH THE SEED: the statements are not yours to turn. If you find one false, say at which input.
  Laid BY PROGRAM, IN A SANDBOX (cutbox-rows.mjs): the forced cells as the released guide's own fill.sh prints them over the translation 2fc9bd5d804a46d6… (all of the seat's roots in one cut). By AI agents, Wed Nov 11 2026. No macro, syntax, notation, axiom, sorry.
-/
import Derived.Test.YtoeggpoeongnhaaChecked
import GoSem.Claim
import GoSem.ClaimJoined
import GoSem.ClaimMapViews
import Derived.JoinedTies
import Derived.KernelRfl
namespace Go.Proofs.Ytoeggpoeongnhaa
/- THE CELL 'sum', in the pinned program and in every row, IS THE sha256 OF THE DUMP (.gsa) THAT YtoeggpoeongnhaaProg.lean LOADS. Nothing in Lean hashes anything: it is a label: what it is worth is what the hold of that sum in a sandbox is worth. -/
noncomputable def Try.pinned : Pinned := { name := "ytoeggpoeongnhaa", sum := "2fc9bd5d804a46d62b901fa16d9381ae36bbfefd71a5aee0997458e247966830", checked := Try.checked }
namespace Rows
def none {H : Type} : Left H := { results := [], args := [] }

/-- 'verdererlaw08.StorePlays': WHATEVER THE INPUT: true; the input reads as it did. -/
def storePlaysSpec : ChangeSpec := { name := "storePlays", fn := fun _ => fun
  | [d1, d2] => { results := [.lit (.bool true)], args := [d1, d2] }
  | _ => none }
def storePlaysRow : OpenClaim := { program := "ytoeggpoeongnhaa", sum := "2fc9bd5d804a46d62b901fa16d9381ae36bbfefd71a5aee0997458e247966830", func := "verderer/verdererlaw08.StorePlays", spec := "storePlays", unfollowed := true, recurses := true, plainKeys := false, apart := false }
def StorePlaysSaid : Prop := storePlaysRow.holds Try.pinned (OpenSpec.ofChange storePlaysSpec)

/-- ITS FALSE NEIGHBOUR: 'it returns false'. Refute it at one input. -/
def storePlaysWrong : ChangeSpec := { name := "storePlays", fn := fun _ => fun
  | [d1, d2] => { results := [.lit (.bool false)], args := [d1, d2] }
  | _ => none }
def StorePlaysWrongFalsely : Prop := storePlaysRow.holds Try.pinned (OpenSpec.ofChange storePlaysWrong)

/-- 'verdererlaw08.StoreApart': WHATEVER THE INPUT: true; the input reads as it did. -/
def storeApartSpec : ChangeSpec := { name := "storeApart", fn := fun _ => fun
  | [d1, d2] => { results := [.lit (.bool true)], args := [d1, d2] }
  | _ => none }
def storeApartRow : OpenClaim := { program := "ytoeggpoeongnhaa", sum := "2fc9bd5d804a46d62b901fa16d9381ae36bbfefd71a5aee0997458e247966830", func := "verderer/verdererlaw08.StoreApart", spec := "storeApart", inPlace := ["maps.clone"], unfollowed := true, recurses := true, plainKeys := false, apart := false }
def StoreApartSaid : Prop := storeApartRow.holds Try.pinned (OpenSpec.ofChange storeApartSpec)

/-- ITS FALSE NEIGHBOUR: 'it returns false'. Refute it at one input. -/
def storeApartWrong : ChangeSpec := { name := "storeApart", fn := fun _ => fun
  | [d1, d2] => { results := [.lit (.bool false)], args := [d1, d2] }
  | _ => none }
def StoreApartWrongFalsely : Prop := storeApartRow.holds Try.pinned (OpenSpec.ofChange storeApartWrong)

/-- 'verdererlaw08.StoreVersions': WHATEVER THE INPUT: true; the input reads as it did. -/
def storeVersionsSpec : ChangeSpec := { name := "storeVersions", fn := fun _ => fun
  | [d] => { results := [.lit (.bool true)], args := [d] }
  | _ => none }
def storeVersionsRow : OpenClaim := { program := "ytoeggpoeongnhaa", sum := "2fc9bd5d804a46d62b901fa16d9381ae36bbfefd71a5aee0997458e247966830", func := "verderer/verdererlaw08.StoreVersions", spec := "storeVersions", unfollowed := true, recurses := true, plainKeys := false, apart := false }
def StoreVersionsSaid : Prop := storeVersionsRow.holds Try.pinned (OpenSpec.ofChange storeVersionsSpec)

/-- ITS FALSE NEIGHBOUR: 'it returns false'. Refute it at one input. -/
def storeVersionsWrong : ChangeSpec := { name := "storeVersions", fn := fun _ => fun
  | [d] => { results := [.lit (.bool false)], args := [d] }
  | _ => none }
def StoreVersionsWrongFalsely : Prop := storeVersionsRow.holds Try.pinned (OpenSpec.ofChange storeVersionsWrong)

/-- 'verdererlaw08.StoreNil': WHATEVER THE INPUT: true; the input reads as it did. -/
def storeNilSpec : ChangeSpec := { name := "storeNil", fn := fun _ => fun
  | [d] => { results := [.lit (.bool true)], args := [d] }
  | _ => none }
def storeNilRow : OpenClaim := { program := "ytoeggpoeongnhaa", sum := "2fc9bd5d804a46d62b901fa16d9381ae36bbfefd71a5aee0997458e247966830", func := "verderer/verdererlaw08.StoreNil", spec := "storeNil", inPlace := ["maps.clone"], unfollowed := true, recurses := true, plainKeys := false, apart := false }
def StoreNilSaid : Prop := storeNilRow.holds Try.pinned (OpenSpec.ofChange storeNilSpec)

/-- ITS FALSE NEIGHBOUR: 'it returns false'. Refute it at one input. -/
def storeNilWrong : ChangeSpec := { name := "storeNil", fn := fun _ => fun
  | [d] => { results := [.lit (.bool false)], args := [d] }
  | _ => none }
def StoreNilWrongFalsely : Prop := storeNilRow.holds Try.pinned (OpenSpec.ofChange storeNilWrong)

/-- 'verdererlaw09.TenantPlays': WHATEVER THE INPUT: true; the input reads as it did. -/
def tenantPlaysSpec : ChangeSpec := { name := "tenantPlays", fn := fun _ => fun
  | [d1, d2] => { results := [.lit (.bool true)], args := [d1, d2] }
  | _ => none }
def tenantPlaysRow : OpenClaim := { program := "ytoeggpoeongnhaa", sum := "2fc9bd5d804a46d62b901fa16d9381ae36bbfefd71a5aee0997458e247966830", func := "verderer/verdererlaw09.TenantPlays", spec := "tenantPlays", unfollowed := true, recurses := true, plainKeys := false, apart := false }
def TenantPlaysSaid : Prop := tenantPlaysRow.holds Try.pinned (OpenSpec.ofChange tenantPlaysSpec)

/-- ITS FALSE NEIGHBOUR: 'it returns false'. Refute it at one input. -/
def tenantPlaysWrong : ChangeSpec := { name := "tenantPlays", fn := fun _ => fun
  | [d1, d2] => { results := [.lit (.bool false)], args := [d1, d2] }
  | _ => none }
def TenantPlaysWrongFalsely : Prop := tenantPlaysRow.holds Try.pinned (OpenSpec.ofChange tenantPlaysWrong)

/-- 'verdererlaw09.TenantRight': WHATEVER THE INPUT: true; the input reads as it did. -/
def tenantRightSpec : ChangeSpec := { name := "tenantRight", fn := fun _ => fun
  | [d] => { results := [.lit (.bool true)], args := [d] }
  | _ => none }
def tenantRightRow : OpenClaim := { program := "ytoeggpoeongnhaa", sum := "2fc9bd5d804a46d62b901fa16d9381ae36bbfefd71a5aee0997458e247966830", func := "verderer/verdererlaw09.TenantRight", spec := "tenantRight", unfollowed := true, recurses := true, plainKeys := false, apart := false }
def TenantRightSaid : Prop := tenantRightRow.holds Try.pinned (OpenSpec.ofChange tenantRightSpec)

/-- ITS FALSE NEIGHBOUR: 'it returns false'. Refute it at one input. -/
def tenantRightWrong : ChangeSpec := { name := "tenantRight", fn := fun _ => fun
  | [d] => { results := [.lit (.bool false)], args := [d] }
  | _ => none }
def TenantRightWrongFalsely : Prop := tenantRightRow.holds Try.pinned (OpenSpec.ofChange tenantRightWrong)

/-- 'verdererlaw09.TenantApart': WHATEVER THE INPUT: true; the input reads as it did. -/
def tenantApartSpec : ChangeSpec := { name := "tenantApart", fn := fun _ => fun
  | [d1, d2] => { results := [.lit (.bool true)], args := [d1, d2] }
  | _ => none }
def tenantApartRow : OpenClaim := { program := "ytoeggpoeongnhaa", sum := "2fc9bd5d804a46d62b901fa16d9381ae36bbfefd71a5aee0997458e247966830", func := "verderer/verdererlaw09.TenantApart", spec := "tenantApart", inPlace := ["maps.clone"], unfollowed := true, recurses := true, plainKeys := false, apart := false }
def TenantApartSaid : Prop := tenantApartRow.holds Try.pinned (OpenSpec.ofChange tenantApartSpec)

/-- ITS FALSE NEIGHBOUR: 'it returns false'. Refute it at one input. -/
def tenantApartWrong : ChangeSpec := { name := "tenantApart", fn := fun _ => fun
  | [d1, d2] => { results := [.lit (.bool false)], args := [d1, d2] }
  | _ => none }
def TenantApartWrongFalsely : Prop := tenantApartRow.holds Try.pinned (OpenSpec.ofChange tenantApartWrong)

/-- 'verdererlaw09.TenantNil': WHATEVER THE INPUT: true; the input reads as it did. -/
def tenantNilSpec : ChangeSpec := { name := "tenantNil", fn := fun _ => fun
  | [d] => { results := [.lit (.bool true)], args := [d] }
  | _ => none }
def tenantNilRow : OpenClaim := { program := "ytoeggpoeongnhaa", sum := "2fc9bd5d804a46d62b901fa16d9381ae36bbfefd71a5aee0997458e247966830", func := "verderer/verdererlaw09.TenantNil", spec := "tenantNil", inPlace := ["maps.clone"], unfollowed := true, recurses := true, plainKeys := false, apart := false }
def TenantNilSaid : Prop := tenantNilRow.holds Try.pinned (OpenSpec.ofChange tenantNilSpec)

/-- ITS FALSE NEIGHBOUR: 'it returns false'. Refute it at one input. -/
def tenantNilWrong : ChangeSpec := { name := "tenantNil", fn := fun _ => fun
  | [d] => { results := [.lit (.bool false)], args := [d] }
  | _ => none }
def TenantNilWrongFalsely : Prop := tenantNilRow.holds Try.pinned (OpenSpec.ofChange tenantNilWrong)

/- THE SECOND FORM. 'bulk': how many values and letters a reading holds, each counted each time it is reached (what is shared counts as often as it is met; a slice's spare places count too). A statement '..UptoSaid' is the law's where the arguments, and the package variables that the reading takes, are together of bulk at most 1048576: NARROWER than '..Said'. Prove '..Said' where nothing that the law and all that it calls make is longer than what came in: it says more and counts as full. Else prove '..UptoSaid'. A law counts once. -/
mutual
def uptoBulk {H : Type} : DataW H → Nat
  | .lit (.string bytes) => bytes.length + 1
  | .lit _ => 1
  | .nil => 1
  | .ptr d => uptoBulk d + 1
  | .slice elems spare => uptoBulkAll elems + uptoBulkAll spare + 1
  | .agg parts => uptoBulkAll parts + 1
  | .iface _ d => uptoBulk d + 1
  | .map entries => uptoBulkEntries entries + 1
  | .held _ => 1
def uptoBulkAll {H : Type} : List (DataW H) → Nat
  | [] => 0
  | d :: r => uptoBulk d + uptoBulkAll r
def uptoBulkEntries {H : Type} : List (Lit × DataW H) → Nat
  | [] => 0
  | x :: r => uptoBulkEntry x + uptoBulkEntries r
def uptoBulkEntry {H : Type} : Lit × DataW H → Nat
  | (.string bytes, d) => bytes.length + uptoBulk d + 1
  | (_, d) => uptoBulk d + 1
 end
def uptoSmall : (H : Type) → List (DataW H) → Bool := fun _ ds => decide (uptoBulkAll ds ≤ 1048576)
def OpenSpec.upto (s : _root_.Go.ChangeSpec) : _root_.Go.OpenSpec := { _root_.Go.OpenSpec.ofChange s with cond := some uptoSmall }

/-- 'verdererlaw08.StorePlays', WHERE WHAT IT READS IS OF BULK AT MOST 1048576: true; the input reads as it did. -/
def storePlaysUptoRow : OpenClaim := { program := "ytoeggpoeongnhaa", sum := "2fc9bd5d804a46d62b901fa16d9381ae36bbfefd71a5aee0997458e247966830", func := "verderer/verdererlaw08.StorePlays", spec := "storePlays", unfollowed := true, recurses := true, plainKeys := false, apart := false, narrowed := true }
def StorePlaysUptoSaid : Prop := storePlaysUptoRow.holds Try.pinned (OpenSpec.upto storePlaysSpec)

/-- 'verdererlaw08.StoreApart', WHERE WHAT IT READS IS OF BULK AT MOST 1048576: true; the input reads as it did. -/
def storeApartUptoRow : OpenClaim := { program := "ytoeggpoeongnhaa", sum := "2fc9bd5d804a46d62b901fa16d9381ae36bbfefd71a5aee0997458e247966830", func := "verderer/verdererlaw08.StoreApart", spec := "storeApart", inPlace := ["maps.clone"], unfollowed := true, recurses := true, plainKeys := false, apart := false, narrowed := true }
def StoreApartUptoSaid : Prop := storeApartUptoRow.holds Try.pinned (OpenSpec.upto storeApartSpec)

/-- 'verdererlaw08.StoreVersions', WHERE WHAT IT READS IS OF BULK AT MOST 1048576: true; the input reads as it did. -/
def storeVersionsUptoRow : OpenClaim := { program := "ytoeggpoeongnhaa", sum := "2fc9bd5d804a46d62b901fa16d9381ae36bbfefd71a5aee0997458e247966830", func := "verderer/verdererlaw08.StoreVersions", spec := "storeVersions", unfollowed := true, recurses := true, plainKeys := false, apart := false, narrowed := true }
def StoreVersionsUptoSaid : Prop := storeVersionsUptoRow.holds Try.pinned (OpenSpec.upto storeVersionsSpec)

/-- 'verdererlaw08.StoreNil', WHERE WHAT IT READS IS OF BULK AT MOST 1048576: true; the input reads as it did. -/
def storeNilUptoRow : OpenClaim := { program := "ytoeggpoeongnhaa", sum := "2fc9bd5d804a46d62b901fa16d9381ae36bbfefd71a5aee0997458e247966830", func := "verderer/verdererlaw08.StoreNil", spec := "storeNil", inPlace := ["maps.clone"], unfollowed := true, recurses := true, plainKeys := false, apart := false, narrowed := true }
def StoreNilUptoSaid : Prop := storeNilUptoRow.holds Try.pinned (OpenSpec.upto storeNilSpec)

/-- 'verdererlaw09.TenantPlays', WHERE WHAT IT READS IS OF BULK AT MOST 1048576: true; the input reads as it did. -/
def tenantPlaysUptoRow : OpenClaim := { program := "ytoeggpoeongnhaa", sum := "2fc9bd5d804a46d62b901fa16d9381ae36bbfefd71a5aee0997458e247966830", func := "verderer/verdererlaw09.TenantPlays", spec := "tenantPlays", unfollowed := true, recurses := true, plainKeys := false, apart := false, narrowed := true }
def TenantPlaysUptoSaid : Prop := tenantPlaysUptoRow.holds Try.pinned (OpenSpec.upto tenantPlaysSpec)

/-- 'verdererlaw09.TenantRight', WHERE WHAT IT READS IS OF BULK AT MOST 1048576: true; the input reads as it did. -/
def tenantRightUptoRow : OpenClaim := { program := "ytoeggpoeongnhaa", sum := "2fc9bd5d804a46d62b901fa16d9381ae36bbfefd71a5aee0997458e247966830", func := "verderer/verdererlaw09.TenantRight", spec := "tenantRight", unfollowed := true, recurses := true, plainKeys := false, apart := false, narrowed := true }
def TenantRightUptoSaid : Prop := tenantRightUptoRow.holds Try.pinned (OpenSpec.upto tenantRightSpec)

/-- 'verdererlaw09.TenantApart', WHERE WHAT IT READS IS OF BULK AT MOST 1048576: true; the input reads as it did. -/
def tenantApartUptoRow : OpenClaim := { program := "ytoeggpoeongnhaa", sum := "2fc9bd5d804a46d62b901fa16d9381ae36bbfefd71a5aee0997458e247966830", func := "verderer/verdererlaw09.TenantApart", spec := "tenantApart", inPlace := ["maps.clone"], unfollowed := true, recurses := true, plainKeys := false, apart := false, narrowed := true }
def TenantApartUptoSaid : Prop := tenantApartUptoRow.holds Try.pinned (OpenSpec.upto tenantApartSpec)

/-- 'verdererlaw09.TenantNil', WHERE WHAT IT READS IS OF BULK AT MOST 1048576: true; the input reads as it did. -/
def tenantNilUptoRow : OpenClaim := { program := "ytoeggpoeongnhaa", sum := "2fc9bd5d804a46d62b901fa16d9381ae36bbfefd71a5aee0997458e247966830", func := "verderer/verdererlaw09.TenantNil", spec := "tenantNil", inPlace := ["maps.clone"], unfollowed := true, recurses := true, plainKeys := false, apart := false, narrowed := true }
def TenantNilUptoSaid : Prop := tenantNilUptoRow.holds Try.pinned (OpenSpec.upto tenantNilSpec)

end Rows
end Go.Proofs.Ytoeggpoeongnhaa
