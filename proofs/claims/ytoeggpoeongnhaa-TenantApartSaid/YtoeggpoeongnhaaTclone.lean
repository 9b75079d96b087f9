/-
  The library's copy of a map, at tenants and at objects: the numbers and facts of this program that its contract asks.
  No condition.
-/
import Derived.Shelf.SlLaysW
import Derived.Ground.SlmcProg
import Derived.Test.YtoeggpoeongnhaaProg
namespace Go.Proofs
open Go.Shelf
def Try.clTn_ren : Go.Shelf.Ren := ⟨fun | 5 => 86 | 7 => 98 | n => n, fun | 23 => 119 | 25 => 9 | 3 => 71 | 4 => 4 | 20 => 20 | n => n, fun | n => n⟩
theorem Try.clTn : Go.Proofs.SlLaysW.n5 Try.prog Try.clTn_ren := {
  mixed := by kernel_rfl
  f5 := ⟨Try.f86.name, by decide, Try.func86.trans (congrArg some (by kernel_rfl))⟩
  f7 := Try.func98.trans (congrArg some (by kernel_rfl))
  t4 := Try.underlying4
  a4 := Try.isAgg4
  z4 := Try.sizeOf4
  v4 := Try.zeroValue4
  t20 := Try.underlying20
  a20 := Try.isAgg20
  z20 := Try.sizeOf20
  v20 := Try.zeroValue20
  t23 := Try.underlying119
  a23 := Try.isAgg119
  z23 := Try.sizeOf119
  v23 := Try.zeroValue119 }
def Try.clOb_ren : Go.Shelf.Ren := ⟨fun | 5 => 65 | 7 => 98 | n => n, fun | 23 => 99 | 25 => 103 | 3 => 30 | 4 => 4 | 20 => 20 | n => n, fun | n => n⟩
theorem Try.clOb : Go.Proofs.SlLaysW.n5 Try.prog Try.clOb_ren := {
  mixed := by kernel_rfl
  f5 := ⟨Try.f65.name, by decide, Try.func65.trans (congrArg some (by kernel_rfl))⟩
  f7 := Try.func98.trans (congrArg some (by kernel_rfl))
  t4 := Try.underlying4
  a4 := Try.isAgg4
  z4 := Try.sizeOf4
  v4 := Try.zeroValue4
  t20 := Try.underlying20
  a20 := Try.isAgg20
  z20 := Try.sizeOf20
  v20 := Try.zeroValue20
  t23 := Try.underlying99
  a23 := Try.isAgg99
  z23 := Try.sizeOf99
  v23 := Try.zeroValue99 }
end Go.Proofs
