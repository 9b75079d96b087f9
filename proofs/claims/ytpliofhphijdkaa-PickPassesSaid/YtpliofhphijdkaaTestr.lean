/-
  Test of package value, and the document's own Test, tell the same of every two values and every comparison, known or not; nothing that was there is changed.
  No condition but that a text is no longer than a text can be.
-/
import Derived.Test.YtpliofhphijdkaaRref
import Derived.Test.YtpliofhphijdkaaOrder
namespace Go.Proofs.Ytpliofhphijdkaa
open Go.RowKit

/-- Does a comparison hold of what Compare answers? -/
def testI (op c : Int) : Bool :=
  if op = 1 then decide (c = 0) else if op = 2 then decide (c ≠ 0) else if op = 3 then decide (c < 0) else if op = 4 then decide (c ≤ 0) else if op = 5 then decide (c > 0) else if op = 6 then decide (c ≥ 0) else false

set_option maxHeartbeats 4000000 in
theorem test_val (op : Int) (a b : V) (w : World) : Calls Try.prog 58 #[.int .i64 op, a.val, b.val] w fun e w' => e = .returned (.bool (testI op (cmpV a b))) ∧ Below w.heap.size w w' := by
  have HC := Lib.hid (fun W => cmp_val a b W)
  obtain ⟨c, hc⟩ : ∃ c, c = cmpV a b := ⟨_, rfl⟩
  have hr := cmpV_ordered.rng a b
  rw [← hc] at hr
  rw [← hc]
  have HE := Lib.hid hc
  clear hc
  obtain ⟨k, f, n, t⟩ := a
  obtain ⟨k', f', n', t'⟩ := b
  show Calls Try.prog 58 #[.int .i64 op, .agg #[.int .i64 k, .bool f, .int .i64 n, .string t], .agg #[.int .i64 k', .bool f', .int .i64 n', .string t']] w _
  by_cases hop : op = 1 ∨ op = 2 ∨ op = 3 ∨ op = 4 ∨ op = 5 ∨ op = 6
  · rcases hr with rfl | rfl | rfl <;> rcases hop with rfl | rfl | rfl | rfl | rfl | rfl
    all_goals
      go_enter Try.func58, Try.ntmps58
      go_wp2_with (go_at_call 67; refine (HC.out _).mono ?_; rintro e w1 ⟨rfl, hb1⟩; rw [← HE.out])
      go_ret
      exact ⟨ret_bool (by decide), (two_new _ _ _).trans (hb1.mono (by simp; omega))⟩
  · have h1 : ¬ op = 1 := by omega
    have h2 : ¬ op = 2 := by omega
    have h3 : ¬ op = 3 := by omega
    have h4 : ¬ op = 4 := by omega
    have h5 : ¬ op = 5 := by omega
    have h6 : ¬ op = 6 := by omega
    have HT : Hid (testI op c = false) := Lib.hid (by simp [testI, h1, h2, h3, h4, h5, h6])
    clear hop hr
    go_enter Try.func58, Try.ntmps58
    go_wp2_with (go_at_call 67; refine (HC.out _).mono ?_; rintro e w1 ⟨rfl, hb1⟩; rw [← HE.out])
    go_ret
    exact ⟨ret_bool HT.out.symm, (two_new _ _ _).trans (hb1.mono (by simp; omega))⟩

set_option maxHeartbeats 4000000 in
theorem ref_test (op : Int) (a b : V) (w : World) (ha : a.t.size ≤ maxLen) : Calls Try.prog 46 #[.int .i64 op, a.val, b.val] w fun e w' => e = .returned (.bool (testI op (cmpV a b))) ∧ Below w.heap.size w w' := by
  have HC := Lib.hid (fun W => ref_cmp a b W ha)
  clear ha
  obtain ⟨c, hc⟩ : ∃ c, c = cmpV a b := ⟨_, rfl⟩
  have hr := cmpV_ordered.rng a b
  rw [← hc] at hr
  rw [← hc]
  have HE := Lib.hid hc
  clear hc
  obtain ⟨k, f, n, t⟩ := a
  obtain ⟨k', f', n', t'⟩ := b
  show Calls Try.prog 46 #[.int .i64 op, .agg #[.int .i64 k, .bool f, .int .i64 n, .string t], .agg #[.int .i64 k', .bool f', .int .i64 n', .string t']] w _
  by_cases hop : op = 1 ∨ op = 2 ∨ op = 3 ∨ op = 4 ∨ op = 5 ∨ op = 6
  · rcases hr with rfl | rfl | rfl <;> rcases hop with rfl | rfl | rfl | rfl | rfl | rfl
    all_goals
      go_enter Try.func46, Try.ntmps46
      go_wp2_with (go_at_call 59; refine (HC.out _).mono ?_; rintro e w1 ⟨rfl, hb1⟩; rw [← HE.out])
      go_ret
      exact ⟨ret_bool (by decide), (two_new _ _ _).trans (hb1.mono (by simp; omega))⟩
  · have h1 : ¬ op = 1 := by omega
    have h2 : ¬ op = 2 := by omega
    have h3 : ¬ op = 3 := by omega
    have h4 : ¬ op = 4 := by omega
    have h5 : ¬ op = 5 := by omega
    have h6 : ¬ op = 6 := by omega
    have HT : Hid (testI op c = false) := Lib.hid (by simp [testI, h1, h2, h3, h4, h5, h6])
    clear hop hr
    go_enter Try.func46, Try.ntmps46
    go_wp2_with (go_at_call 59; refine (HC.out _).mono ?_; rintro e w1 ⟨rfl, hb1⟩; rw [← HE.out])
    go_ret
    exact ⟨ret_bool HT.out.symm, (two_new _ _ _).trans (hb1.mono (by simp; omega))⟩
end Go.Proofs.Ytpliofhphijdkaa
