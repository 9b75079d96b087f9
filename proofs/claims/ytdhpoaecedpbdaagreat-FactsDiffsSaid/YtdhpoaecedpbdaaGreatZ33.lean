/-
  The library's copy of a map, at objects and at tenants: the numbers and facts of this program that its contract asks.
  No condition.
-/
import Derived.Test.YtdhpoaecedpbdaaGreatProg
import Derived.Shelf.SlLaysW
import Derived.Ground.SlmcProg
namespace Go.Proofs
open Go.Shelf
def Tryz.clOb_ren : Go.Shelf.Ren := ⟨fun | 5 => 51 | 7 => 94 | n => n, fun | 23 => 98 | 25 => 103 | 3 => 25 | 4 => 4 | 20 => 20 | n => n, fun | n => n⟩
theorem Tryz.clOb : Go.Proofs.SlLaysW.n5 Tryz.prog Tryz.clOb_ren := {
  mixed := by kernel_rfl
  f5 := ⟨Tryz.f51.name, by decide, Tryz.func51.trans (congrArg some (by kernel_rfl))⟩
  f7 := Tryz.func94.trans (congrArg some (by kernel_rfl))
  t4 := Tryz.underlying4
  a4 := Tryz.isAgg4
  z4 := Tryz.sizeOf4
  v4 := Tryz.zeroValue4
  t20 := Tryz.underlying20
  a20 := Tryz.isAgg20
  z20 := Tryz.sizeOf20
  v20 := Tryz.zeroValue20
  t23 := Tryz.underlying98
  a23 := Tryz.isAgg98
  z23 := Tryz.sizeOf98
  v23 := Tryz.zeroValue98 }
def Tryz.clTn_ren : Go.Shelf.Ren := ⟨fun | 5 => 52 | 7 => 94 | n => n, fun | 23 => 104 | 25 => 9 | 3 => 27 | 4 => 4 | 20 => 20 | n => n, fun | n => n⟩
theorem Tryz.clTn : Go.Proofs.SlLaysW.n5 Tryz.prog Tryz.clTn_ren := {
  mixed := by kernel_rfl
  f5 := ⟨Tryz.f52.name, by decide, Tryz.func52.trans (congrArg some (by kernel_rfl))⟩
  f7 := Tryz.func94.trans (congrArg some (by kernel_rfl))
  t4 := Tryz.underlying4
  a4 := Tryz.isAgg4
  z4 := Tryz.sizeOf4
  v4 := Tryz.zeroValue4
  t20 := Tryz.underlying20
  a20 := Tryz.isAgg20
  z20 := Tryz.sizeOf20
  v20 := Tryz.zeroValue20
  t23 := Tryz.underlying104
  a23 := Tryz.isAgg104
  z23 := Tryz.sizeOf104
  v23 := Tryz.zeroValue104 }
end Go.Proofs
