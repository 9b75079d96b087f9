/-
  The calls that compare two integers, two texts or two truths answer -1, 0 or 1 by the plain order, at every input and in every world, and change nothing.
  No condition.
-/
import Derived.Test.YtojpccngcicbmaaProg
import Derived.WalkKit
import Derived.WalkSpells
import Derived.WalkLawsBesides
import Derived.Lib.Hide
namespace Go.Proofs.Ytojpccngcicbmaa
open Go.RowKit

/-- -1, 0, 1: which of two numbers goes ahead. -/
def cmpI (a b : Int) : Int := if a < b then -1 else if b < a then 1 else 0
/-- -1, 0, 1: which of two texts goes ahead. -/
def cmpS (a b : ByteArray) : Int := if Op.bytesLess a.toList b.toList = true then -1 else if (a.toList == b.toList) = true then 0 else 1
/-- -1, 0, 1: which of two truths goes ahead. -/
def cmpB (a b : Bool) : Int := if a = b then 0 else if b = true then -1 else 1

set_option maxHeartbeats 400000 in
theorem isNaN_string (a : ByteArray) (w : World) : Calls Try.prog 65 #[.string a] w fun e w' => e = .returned (.bool false) ∧ w = w' := by
  go_enter Try.func65, Try.ntmps65
  go_wp2
  go_ret
  exact ⟨by simp, rfl⟩

end Go.Proofs.Ytojpccngcicbmaa
