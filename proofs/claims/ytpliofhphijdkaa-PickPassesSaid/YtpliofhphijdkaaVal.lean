/-
  Compare of package value, and the document's own comparison beside it, answer the plain order of two values, at every two values and in every world; nothing that was there is changed.
  No condition.
-/
import Derived.Test.YtpliofhphijdkaaCmp
import Derived.Deep.QuietTactic
import Derived.BigQuiet
namespace Go.Proofs.Ytpliofhphijdkaa
open Go.RowKit

/-- A value: its kind, its truth, its number, its text. -/
structure V where
  k : Int
  f : Bool
  n : Int
  t : ByteArray

/-- A value as the program holds it. -/
abbrev V.val (v : V) : Value := .agg #[.int .i64 v.k, .bool v.f, .int .i64 v.n, .string v.t]

/-- -1, 0, 1: which of two values goes ahead. -/
def cmpV (a b : V) : Int := if a.k < b.k then -1 else if b.k < a.k then 1 else if a.k = 1 then cmpB a.f b.f else if a.k = 2 then cmpI a.n b.n else if a.k = 3 then cmpS a.t b.t else 0

theorem one_new (w : World) (o : Obj) : Below w.heap.size w (w.alloc o) := (Below.refl _ _).alloc (Nat.le_refl _) _
theorem two_new (w : World) (o p : Obj) : Below w.heap.size w ((w.alloc o).alloc p) := (one_new w o).alloc (by simp) _
theorem below_drewN' {B : Nat} {a w : World} (h : Below B a w) (n : Nat) : Below B a (w.drewN n) := ⟨h.os, h.tape, h.output, h.size, h.block⟩

theorem ret_int {k : IntKind} {a b : Int} (h : a = b) : Ending.returned (.int k a) = .returned (.int k b) := by rw [h]
theorem ret_bool {a b : Bool} (h : a = b) : Ending.returned (.bool a) = .returned (.bool b) := by rw [h]

set_option maxHeartbeats 400000 in
theorem cmp_val (a b : V) (w : World) : Calls Try.prog 67 #[a.val, b.val] w fun e w' => e = .returned (.int .i64 (cmpV a b)) ∧ Below w.heap.size w w' := by
  obtain ⟨k, f, n, t⟩ := a
  obtain ⟨k', f', n', t'⟩ := b
  show Calls Try.prog 67 #[.agg #[.int .i64 k, .bool f, .int .i64 n, .string t], .agg #[.int .i64 k', .bool f', .int .i64 n', .string t']] w _
  by_cases hk : k = k'
  · subst hk
    by_cases h1 : k = 1
    · subst h1
      go_enter Try.func67, Try.ntmps67
      go_wp2_with (go_at_call 79; refine (cmp_flags _ _ _).mono ?_; rintro e w' ⟨rfl, rfl⟩)
      go_ret
      exact ⟨ret_int (by simp [cmpV]), two_new _ _ _⟩
    · by_cases h2 : k = 2
      · subst h2
        clear h1
        go_enter Try.func67, Try.ntmps67
        go_wp2_with (go_at_call 80; refine (cmp_int64 _ _ _).mono ?_; rintro e w' ⟨rfl, rfl⟩)
        go_ret
        exact ⟨ret_int (by simp [cmpV]), two_new _ _ _⟩
      · by_cases h3 : k = 3
        · subst h3
          clear h1 h2
          go_enter Try.func67, Try.ntmps67
          go_wp2_with (go_at_call 81; refine (cmp_string _ _ _).mono ?_; rintro e w' ⟨rfl, rfl⟩)
          go_ret
          exact ⟨ret_int (by simp [cmpV]), two_new _ _ _⟩
        · go_enter Try.func67, Try.ntmps67
          go_wp2
          go_ret
          exact ⟨ret_int (by simp [cmpV, h1, h2, h3]), two_new _ _ _⟩
  · go_enter Try.func67, Try.ntmps67
    go_wp2_with (go_at_call 78; refine (cmp_int _ _ _).mono ?_; rintro e w' ⟨rfl, rfl⟩)
    go_ret
    refine ⟨ret_int ?_, two_new _ _ _⟩
    unfold cmpI cmpV
    by_cases h : k < k'
    · simp [h]
    · have h' : k' < k := by omega
      simp [h, h']
end Go.Proofs.Ytpliofhphijdkaa
