/-
  The library's copy of a map, at objects: the numbers and facts of this program that its contract asks.
  No condition.
-/
import Derived.Shelf.SlLaysW
import Derived.Ground.SlmcProg
import Derived.Test.YtmiagdmfgebfdaaProg
namespace Go.Proofs
open Go.Shelf
def Try.clOb_ren : Go.Shelf.Ren := ⟨fun | 5 => 55 | 7 => 76 | n => n, fun | 23 => 82 | 25 => 86 | 3 => 36 | 4 => 4 | 20 => 20 | n => n, fun | n => n⟩
theorem Try.clOb : Go.Proofs.SlLaysW.n5 Try.prog Try.clOb_ren := {
  mixed := by kernel_rfl
  f5 := ⟨Try.f55.name, by decide, Try.func55.trans (congrArg some (by kernel_rfl))⟩
  f7 := Try.func76.trans (congrArg some (by kernel_rfl))
  t4 := Try.underlying4
  a4 := Try.isAgg4
  z4 := Try.sizeOf4
  v4 := Try.zeroValue4
  t20 := Try.underlying20
  a20 := Try.isAgg20
  z20 := Try.sizeOf20
  v20 := Try.zeroValue20
  t23 := Try.underlying82
  a23 := Try.isAgg82
  z23 := Try.sizeOf82
  v23 := Try.zeroValue82 }
end Go.Proofs
