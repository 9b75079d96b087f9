/-
  The fixed calls that every statement of package safe makes answer as they must, in every world; nothing that was there is changed.
  No condition.
-/
import Derived.Test.YtdlimephkjihbaaSsum
namespace Go.Proofs.Ytdlimephkjihbaa
open Go.RowKit

theorem s_put' (g : Nat) (z n t y : Int) (hn : N64 n) (ht : many t = false) (hy : z + n * t = y) (w : World) (hs : SumAt w g z) : Calls Try.prog 24 #[.pointer (some ⟨g, 0, none⟩), .int .i64 n, .int .i64 t] w (Puts w g y) := by
  subst hy
  exact s_put g z n t hn ht w hs

set_option maxHeartbeats 1000000 in
theorem known (w : World) : Calls Try.prog 23 #[] w fun e w' => e = .returned (.bool true) ∧ Below w.heap.size w w' := by
  have v1 : fitV 18446744073709551616 = 0 := by decide
  have v2 : fitE 18446744073709551616 = 10 := by decide
  have v3 : fitV 4611686018427387904 = 4611686018427387904 := by decide
  have v4 : fitE 4611686018427387904 = 0 := by decide
  have v5 : sgnV 4611686018427387904 = 1 := by decide
  have V := Lib.hid (And.intro v1 (And.intro v2 (And.intro v3 (And.intro v4 v5))))
  clear v1 v2 v3 v4 v5
  go_enter Try.func23, Try.ntmps23
  go_wp2_with fail
  refine (s_put' w.heap.size 0 4611686018427387904 4 18446744073709551616 (by unfold N64; omega) (by decide) (by decide) _ (SumAt.new w _ rfl)).mono ?_
  rintro e w1 ⟨rfl, hs1, hb1, _⟩
  have HS1 := Lib.hid hs1
  have HB1 := Lib.hid ((one_new w _).trans (hb1 w.heap.size (Nat.le_refl _)))
  clear hs1 hb1
  go_wp2_with fail
  refine (s_value w.heap.size 18446744073709551616 (by unfold Near; omega) _ HS1.out).mono ?_
  rintro e w2 ⟨rfl, hb2⟩
  rw [V.out.1, V.out.2.1]
  have HS2 := Lib.hid (HS1.out.below hb2 HS1.out.lt)
  have HB2 := Lib.hid (HB1.out.trans (hb2.mono HB1.out.size))
  clear hb2
  go_wp2_with fail
  refine (s_put' w.heap.size 18446744073709551616 4611686018427387904 (-3) 4611686018427387904 (by unfold N64; omega) (by decide) (by decide) _ HS2.out).mono ?_
  rintro e w3 ⟨rfl, hs3, hb3, _⟩
  have HS3 := Lib.hid hs3
  have HB3 := Lib.hid (HB2.out.trans (hb3 w.heap.size (Nat.le_refl _)))
  clear hs3 hb3
  go_wp2_with fail
  refine (s_value w.heap.size 4611686018427387904 (by unfold Near; omega) _ HS3.out).mono ?_
  rintro e w4 ⟨rfl, hb4⟩
  rw [V.out.2.2.1, V.out.2.2.2.1]
  have HS4 := Lib.hid (HS3.out.below hb4 HS3.out.lt)
  have HB4 := Lib.hid (HB3.out.trans (hb4.mono HB3.out.size))
  clear hb4
  go_wp2_with fail
  refine (s_sign w.heap.size 4611686018427387904 (by unfold Near; omega) _ HS4.out).mono ?_
  rintro e w5 ⟨rfl, hb5⟩
  rw [V.out.2.2.2.2]
  have HB5 := Lib.hid (HB4.out.trans (hb5.mono HB4.out.size))
  clear hb5
  go_wp2
  go_ret
  exact ⟨rfl, HB5.out⟩

set_option maxHeartbeats 1000000 in
theorem safeNil_all (n : Int) (w : World) : Calls Try.prog 7 #[.int .i64 n] w fun e w' => e = .returned (.bool true) ∧ Below w.heap.size w w' := by
  go_enter Try.func7, Try.ntmps7
  go_wp2_with fail
  refine (s_value_nil _).mono ?_
  rintro e w1 ⟨rfl, hb1⟩
  have HB1 := Lib.hid hb1
  clear hb1
  go_wp2_with fail
  refine (s_put_nil n 1 _).mono ?_
  rintro e w2 ⟨rfl, hb2⟩
  have HB2 := Lib.hid (HB1.out.trans (hb2.mono HB1.out.size))
  clear hb2
  go_wp2_with fail
  refine (s_sign_nil _).mono ?_
  rintro e w3 ⟨rfl, hb3⟩
  have HB3 := Lib.hid (HB2.out.trans (hb3.mono HB2.out.size))
  clear hb3
  go_wp2_with fail
  refine (known _).mono ?_
  rintro e w4 ⟨rfl, hb4⟩
  have HB4 := Lib.hid (HB3.out.trans (hb4.mono HB3.out.size))
  clear hb4
  go_wp2
  go_ret
  exact ⟨rfl, HB4.out⟩
end Go.Proofs.Ytdlimephkjihbaa
