/-
  The calls that compare two integers, two texts or two truths answer -1, 0 or 1 by the plain order, at every input and in every world, and change nothing.
  No condition.
-/
import Derived.Test.YtpliofhphijdkaaProg
import Derived.WalkKit
import Derived.WalkSpells
import Derived.WalkLawsBesides
import Derived.Lib.Hide
namespace Go.Proofs.Ytpliofhphijdkaa
open Go.RowKit

/-- -1, 0, 1: which of two numbers goes ahead. -/
def cmpI (a b : Int) : Int := if a < b then -1 else if b < a then 1 else 0
/-- -1, 0, 1: which of two texts goes ahead. -/
def cmpS (a b : ByteArray) : Int := if Op.bytesLess a.toList b.toList = true then -1 else if (a.toList == b.toList) = true then 0 else 1
/-- -1, 0, 1: which of two truths goes ahead. -/
def cmpB (a b : Bool) : Int := if a = b then 0 else if b = true then -1 else 1

set_option maxHeartbeats 400000 in
theorem isNaN_int (a : Int) (w : World) : Calls Try.prog 86 #[.int .i64 a] w fun e w' => e = .returned (.bool false) ∧ w = w' := by
  go_enter Try.func86, Try.ntmps86
  go_wp2
  go_ret
  exact ⟨by simp, rfl⟩
set_option maxHeartbeats 400000 in
theorem isNaN_int64 (a : Int) (w : World) : Calls Try.prog 87 #[.int .i64 a] w fun e w' => e = .returned (.bool false) ∧ w = w' := by
  go_enter Try.func87, Try.ntmps87
  go_wp2
  go_ret
  exact ⟨by simp, rfl⟩
set_option maxHeartbeats 400000 in
theorem isNaN_string (a : ByteArray) (w : World) : Calls Try.prog 88 #[.string a] w fun e w' => e = .returned (.bool false) ∧ w = w' := by
  go_enter Try.func88, Try.ntmps88
  go_wp2
  go_ret
  exact ⟨by simp, rfl⟩

set_option maxHeartbeats 400000 in
theorem cmp_int (a b : Int) (w : World) : Calls Try.prog 78 #[.int .i64 a, .int .i64 b] w fun e w' => e = .returned (.int .i64 (cmpI a b)) ∧ w = w' := by
  unfold cmpI
  go_enter Try.func78, Try.ntmps78
  go_wp2_with (go_at_call 86; refine (isNaN_int _ _).mono ?_; rintro e w' ⟨rfl, rfl⟩)
  all_goals go_ret
  all_goals exact ⟨by simp [*], rfl⟩
set_option maxHeartbeats 400000 in
theorem cmp_int64 (a b : Int) (w : World) : Calls Try.prog 80 #[.int .i64 a, .int .i64 b] w fun e w' => e = .returned (.int .i64 (cmpI a b)) ∧ w = w' := by
  unfold cmpI
  go_enter Try.func80, Try.ntmps80
  go_wp2_with (go_at_call 87; refine (isNaN_int64 _ _).mono ?_; rintro e w' ⟨rfl, rfl⟩)
  all_goals go_ret
  all_goals exact ⟨by simp [*], rfl⟩
set_option maxHeartbeats 400000 in
theorem cmp_string (a b : ByteArray) (w : World) : Calls Try.prog 81 #[.string a, .string b] w fun e w' => e = .returned (.int .i64 (cmpS a b)) ∧ w = w' := by
  have H : ∀ x y : Bool, Op.bytesLess a.toList b.toList = x → (a.toList == b.toList) = y → cmpS a b = if x = true then -1 else if y = true then 0 else 1 := by
    intro x y hx hy
    unfold cmpS
    rw [hx, hy]
  have H' := Lib.hid H
  clear H
  rcases Bool.eq_false_or_eq_true (Op.bytesLess a.toList b.toList) with h1 | h1 <;> rcases Bool.eq_false_or_eq_true (a.toList == b.toList) with h2 | h2
  all_goals
    go_enter Try.func81, Try.ntmps81
    go_wp2_with (go_at_call 88; refine (isNaN_string _ _).mono ?_; rintro e w' ⟨rfl, rfl⟩)
    go_ret
    exact ⟨by rw [H'.out _ _ h1 h2]; rfl, rfl⟩
set_option maxHeartbeats 400000 in
theorem cmp_flags (a b : Bool) (w : World) : Calls Try.prog 79 #[.bool a, .bool b] w fun e w' => e = .returned (.int .i64 (cmpB a b)) ∧ w = w' := by
  cases a <;> cases b
  all_goals
    go_enter Try.func79, Try.ntmps79
    go_wp2
    go_ret
    exact ⟨by simp [cmpB], rfl⟩
end Go.Proofs.Ytpliofhphijdkaa
