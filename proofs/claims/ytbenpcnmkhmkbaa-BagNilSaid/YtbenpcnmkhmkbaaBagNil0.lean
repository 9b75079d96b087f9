/-
  BagNil of verdererlaw05 answers true at every row and number, in every world, and changes nothing that was there.
  No condition.
-/
import Derived.Test.YtbenpcnmkhmkbaaBknown
namespace Go.Proofs.Ytbenpcnmkhmkbaa
open Go.RowKit

set_option maxHeartbeats 400000 in
theorem nil_add (A : Option Addr) (n c : Nat) (k : Int) (w : World) : Calls Try.prog 19 #[.pointer none, .slice A n c, .int .i64 k] w fun e w' => e = .returned (.int .i64 1) ∧ w = w' := by
  go_enter Try.func19, Try.ntmps19
  go_wp2
  go_ret
  exact ⟨rfl, rfl⟩
set_option maxHeartbeats 400000 in
theorem nil_tfrom (A : Option Addr) (n c : Nat) (w : World) : Calls Try.prog 70 #[.pointer none, .slice A n c] w fun e w' => e = .returned (.pointer none) ∧ w = w' := by
  go_enter Try.func70, Try.ntmps70
  go_wp2
  go_loop [0, 5] (fun a b => a = .pointer none ∧ b = .pointer none) (fun _ _ => 0)
  case atStart => exact ⟨rfl, rfl⟩
  case round =>
    obtain ⟨rfl, rfl⟩ := hrel
    go_wp2
    go_ret
    exact ⟨rfl, rfl⟩
set_option maxHeartbeats 400000 in
theorem nil_tmany (A : Option Addr) (n c : Nat) (w : World) : Calls Try.prog 68 #[.pointer none, .slice A n c] w fun e w' => e = .returned (.int .i64 0) ∧ w = w' := by
  go_enter Try.func68, Try.ntmps68
  go_wp2_with fail
  refine (nil_tfrom _ _ _ _).mono ?_
  rintro e w' ⟨rfl, rfl⟩
  go_wp2
  go_ret
  exact ⟨rfl, rfl⟩
set_option maxHeartbeats 400000 in
theorem nil_many (A : Option Addr) (n c : Nat) (w : World) : Calls Try.prog 21 #[.pointer none, .slice A n c] w fun e w' => e = .returned (.int .i64 0) ∧ w = w' := by
  go_enter Try.func21, Try.ntmps21
  go_wp2_with fail
  refine (top_nil _).mono ?_
  rintro e w' ⟨rfl, rfl⟩
  go_wp2_with fail
  refine (nil_tmany _ _ _ _).mono ?_
  rintro e w' ⟨rfl, rfl⟩
  go_wp2
  go_ret
  exact ⟨rfl, rfl⟩
set_option maxHeartbeats 400000 in
theorem nil_tell (q : Option Addr) (w : World) : Calls Try.prog 69 #[.pointer none, .pointer q] w fun e w' => e = .returned (.tuple #[.slice none 0 0, .int .i64 1]) ∧ w = w' := by
  go_enter Try.func69, Try.ntmps69
  go_wp2
  go_ret2
  exact ⟨rfl, rfl⟩
set_option maxHeartbeats 400000 in
theorem nil_from (A : Option Addr) (n c : Nat) (w : World) : Calls Try.prog 23 #[.pointer none, .slice A n c] w fun e w' => e = .returned (.tuple #[.slice none 0 0, .int .i64 1]) ∧ w = w' := by
  go_enter Try.func23, Try.ntmps23
  go_wp2_with fail
  refine (top_nil _).mono ?_
  rintro e w' ⟨rfl, rfl⟩
  go_wp2_with fail
  refine (nil_tfrom _ _ _ _).mono ?_
  rintro e w' ⟨rfl, rfl⟩
  go_wp2_with fail
  refine (nil_tell _ _).mono ?_
  rintro e w' ⟨rfl, rfl⟩
  go_wp2
  go_ret2
  exact ⟨rfl, rfl⟩
theorem nil_bag (w : World) (Q : Nat → Prop) : BagP w Q none [] := Or.inl ⟨rfl, rfl⟩
set_option maxRecDepth 100000 in
set_option maxHeartbeats 1000000 in
theorem bagNil_all (A : Option Addr) (n c : Nat) (k : Int) (w : World) : Calls Try.prog 7 #[.slice A n c, .int .i64 k] w fun e w' => e = .returned (.bool true) ∧ Below w.heap.size w w' := by
  go_enter Try.func7, Try.ntmps7
  go_wp2_with fail
  refine (nil_from _ _ _ _).mono ?_
  rintro e w1 ⟨rfl, rfl⟩
  go_wp2_with fail
  refine (b_least (fun _ => True) none [] _ (fun _ _ => trivial) (nil_bag _ _)).mono ?_
  rintro e w1 ⟨u1, rfl, hu1, hb1⟩
  obtain ⟨_, A1, c1, rfl, _, _⟩ := hu1
  have HB1 := Lib.hid hb1
  clear hb1
  go_wp2_with fail
  refine (b_most (fun _ => True) none [] _ (fun _ _ => trivial) (nil_bag _ _)).mono ?_
  rintro e w2 ⟨u2, rfl, hu2, hb2⟩
  obtain ⟨_, A2, c2, rfl, _, _⟩ := hu2
  have HB2 := Lib.hid (HB1.out.trans (hb2.mono HB1.out.size))
  clear hb2
  go_wp2_with fail
  refine (nil_add _ _ _ _ _).mono ?_
  rintro e w3 ⟨rfl, rfl⟩
  go_wp2_with fail
  refine (nil_many _ _ _ _).mono ?_
  rintro e w3 ⟨rfl, rfl⟩
  go_wp2_with fail
  refine (b_len (fun _ => True) none [] _ (nil_bag _ _)).mono ?_
  rintro e w3 ⟨rfl, rfl⟩
  go_wp2_with fail
  refine (b_rows (fun _ => True) none [] _ (fun _ _ => trivial) (nil_bag _ _) (by simp)).mono ?_
  rintro e w3 ⟨L3, c3, rfl, _, _, hb3⟩
  have HB3 := Lib.hid (HB2.out.trans (hb3.mono HB2.out.size))
  clear hb3
  go_wp2_with fail
  refine (b_new _).mono ?_
  rintro e w4 ⟨rfl, rfl⟩
  have HB4 := Lib.hid (HB3.out.trans ((one_new w3 (.cells #[.pointer none] 84)).mono HB3.out.size))
  go_wp2_with fail
  refine (b_merge_nil _ _ _).mono ?_
  rintro e w5 ⟨rfl, hb5⟩
  have HB5 := Lib.hid (HB4.out.trans (hb5.mono HB4.out.size))
  clear hb5
  go_wp2_with fail
  refine (b_copy_nil _).mono ?_
  rintro e w6 ⟨rfl, rfl⟩
  go_wp2_with fail
  refine (b_new _).mono ?_
  rintro e w6 ⟨rfl, rfl⟩
  have hn6 := bag_new (fun _ => True) w5
  have HB6 := Lib.hid (HB5.out.trans ((one_new w5 (.cells #[.pointer none] 84)).mono HB5.out.size))
  have HN6 := Lib.hid hn6
  clear hn6
  go_wp2_with fail
  refine (b_same (fun _ => True) none (some ⟨w5.heap.size, 0, none⟩) [] [] _ (nil_bag _ _) (Or.inr ⟨_, rfl, HN6.out⟩)).mono ?_
  rintro e w7 ⟨rfl, hb7⟩
  have HB7 := Lib.hid (HB6.out.trans (hb7.mono HB6.out.size))
  clear hb7
  have hsl : sameL [] [] = true := rfl
  rw [hsl]
  clear hsl
  go_wp2_with fail
  refine (b_new _).mono ?_
  rintro e w8 ⟨rfl, rfl⟩
  have HB8 := Lib.hid (HB7.out.trans ((one_new w7 (.cells #[.pointer none] 84)).mono HB7.out.size))
  go_wp2_with fail
  refine (b_merge_nil2 _ _ _).mono ?_
  rintro e w9 ⟨rfl, hb9⟩
  have HB9 := Lib.hid (HB8.out.trans (hb9.mono HB8.out.size))
  clear hb9
  go_wp2_with fail
  refine (known5 _).mono ?_
  rintro e wa ⟨rfl, hba⟩
  have HBa := Lib.hid (HB9.out.trans (hba.mono HB9.out.size))
  clear hba
  go_wp2
  go_ret
  exact ⟨rfl, HBa.out⟩
end Go.Proofs.Ytbenpcnmkhmkbaa
