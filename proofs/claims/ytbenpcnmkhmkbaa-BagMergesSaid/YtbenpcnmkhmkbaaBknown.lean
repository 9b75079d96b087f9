/-
  The fixed calls that every statement of package bag makes answer as they must, in every world; nothing that was there is changed.
  No condition.
-/
import Derived.Test.YtbenpcnmkhmkbaaRadd
import Derived.Test.YtbenpcnmkhmkbaaBrows
namespace Go.Proofs.Ytbenpcnmkhmkbaa
open Go.RowKit

theorem lit_row (w : World) (Q : Nat → Prop) (hQ : ∀ k, w.heap.size ≤ k → Q k) (v : V) : IsRow (w.alloc (.cells #[.int .i64 v.k, .bool v.f, .int .i64 v.n, .string v.t] 71)) Q (.slice (some ⟨w.heap.size, 0, none⟩) 1 1) [v] := by
  have h := row_lit1 w v
  refine ⟨by simp, some ⟨w.heap.size, 0, none⟩, 1, rfl, (fun h => (by cases h)), fun i u hi => ?_⟩
  obtain ⟨a, ha, _, hv⟩ := h i u hi
  injection ha with ha
  subst ha
  refine ⟨_, rfl, hQ _ ?_, hv⟩
  rw [show ((⟨w.heap.size, 0, none⟩ : Addr).add (i * 4)).block = w.heap.size from by unfold Addr.add; split <;> rfl]
  exact Nat.le_refl _

def kva : V := ⟨2, false, 1, ⟨#[]⟩⟩
def kvc : V := ⟨2, false, 2, ⟨#[]⟩⟩
theorem kn1 : addL [kva] 2 [] = ([([kva], 2)], 0) := by kernel_rfl
theorem kn2 : addL [kvc] 1 [([kva], 2)] = ([([kva], 2), ([kvc], 1)], 0) := by kernel_rfl
theorem kn3 : addL [kva] (-2) [([kva], 2), ([kvc], 1)] = ([([kvc], 1)], 0) := by kernel_rfl
theorem kn4 : manyL [kvc] [([kvc], 1)] = 1 := by kernel_rfl
theorem kn5 : manyL [kva] [([kvc], 1)] = 0 := by kernel_rfl

set_option maxRecDepth 100000 in
set_option maxHeartbeats 1000000 in
theorem known5 (w : World) : Calls Try.prog 17 #[] w fun e w' => e = .returned (.bool true) ∧ Below w.heap.size w w' := by
  have hQ : ∀ W : World, w.heap.size < W.heap.size → ∀ k, W.heap.size ≤ k → (fun k => k ≠ w.heap.size) k := fun W hW k hk => by show k ≠ w.heap.size; omega
  have HQ := Lib.hid hQ
  have hg : ¬ (fun k => k ≠ w.heap.size) w.heap.size := by simp
  have HG := Lib.hid hg
  have K := Lib.hid (And.intro kn1 (And.intro kn2 (And.intro kn3 (And.intro kn4 kn5))))
  clear hQ hg
  go_enter Try.func17, Try.ntmps17
  go_wp2_with fail
  refine (b_new _).mono ?_
  rintro e w1 ⟨rfl, rfl⟩
  have hb0 := bag_new (fun k => k ≠ w.heap.size) w
  have ha : IsRow ((w.alloc (.cells #[.pointer none] 84)).alloc (.cells #[.int .i64 2, .bool false, .int .i64 1, .string ⟨#[]⟩] 71)) (fun k => k ≠ w.heap.size) (.slice (some ⟨(w.alloc (.cells #[.pointer none] 84)).heap.size, 0, none⟩) 1 1) [kva] := lit_row (w.alloc (.cells #[.pointer none] 84)) (fun k => k ≠ w.heap.size) (fun k hk => by simp at hk; omega) kva
  have hc : IsRow (((w.alloc (.cells #[.pointer none] 84)).alloc (.cells #[.int .i64 2, .bool false, .int .i64 1, .string ⟨#[]⟩] 71)).alloc (.cells #[.int .i64 2, .bool false, .int .i64 2, .string ⟨#[]⟩] 71)) (fun k => k ≠ w.heap.size) (.slice (some ⟨((w.alloc (.cells #[.pointer none] 84)).alloc (.cells #[.int .i64 2, .bool false, .int .i64 1, .string ⟨#[]⟩] 71)).heap.size, 0, none⟩) 1 1) [kvc] := lit_row ((w.alloc (.cells #[.pointer none] 84)).alloc (.cells #[.int .i64 2, .bool false, .int .i64 1, .string ⟨#[]⟩] 71)) (fun k => k ≠ w.heap.size) (fun k hk => by simp at hk; omega) kvc
  have hb1 := (hb0.below (one_new _ (.cells #[.int .i64 2, .bool false, .int .i64 1, .string ⟨#[]⟩] 71))).below (one_new _ (.cells #[.int .i64 2, .bool false, .int .i64 2, .string ⟨#[]⟩] 71))
  have ha1 := ha.below (one_new _ (.cells #[.int .i64 2, .bool false, .int .i64 2, .string ⟨#[]⟩] 71))
  have hw1 := ((one_new w (.cells #[.pointer none] 84)).trans ((one_new _ (.cells #[.int .i64 2, .bool false, .int .i64 1, .string ⟨#[]⟩] 71)).mono (by simp))).trans ((one_new _ (.cells #[.int .i64 2, .bool false, .int .i64 2, .string ⟨#[]⟩] 71)).mono (by simp; omega))
  have hws : w.heap.size < (((w.alloc (.cells #[.pointer none] 84)).alloc (.cells #[.int .i64 2, .bool false, .int .i64 1, .string ⟨#[]⟩] 71)).alloc (.cells #[.int .i64 2, .bool false, .int .i64 2, .string ⟨#[]⟩] 71)).heap.size := by simp; omega
  rw [World.size_alloc] at ha1
  rw [World.size_alloc, World.size_alloc] at hc
  go_wp2_with fail
  generalize (((w.alloc (.cells #[.pointer none] 84)).alloc (.cells #[.int .i64 2, .bool false, .int .i64 1, .string ⟨#[]⟩] 71)).alloc (.cells #[.int .i64 2, .bool false, .int .i64 2, .string ⟨#[]⟩] 71)) = w0 at *
  have HB0 := Lib.hid hb1
  have HA0 := Lib.hid ha1
  have HC0 := Lib.hid hc
  have HW0 := Lib.hid hw1
  clear hb0 ha hc hb1 ha1 hw1
  refine (b_add _ _ [kva] 2 (fun k => k ≠ w.heap.size) w.heap.size [] _ (by omega) (HQ.out _ hws) HG.out HA0.out HB0.out (by simp)).mono ?_
  rintro e w1 ⟨rfl, hb1, ho1⟩
  rw [K.out.1] at hb1 ⊢
  have HB1 := Lib.hid hb1
  have HA1 := Lib.hid (HA0.out.keep (ho1.keepQ HG.out))
  have HC1 := Lib.hid (HC0.out.keep (ho1.keepQ HG.out))
  have HW1 := Lib.hid (HW0.out.trans (ho1.1.mono (Nat.le_refl _)))
  have hs1 := Nat.lt_of_lt_of_le hws ho1.1.size
  clear hb1 ho1 hws
  go_wp2_with fail
  refine (b_add _ _ [kvc] 1 (fun k => k ≠ w.heap.size) w.heap.size [([kva], 2)] _ (by omega) (HQ.out _ hs1) HG.out HC1.out HB1.out (by simp)).mono ?_
  rintro e w2 ⟨rfl, hb2, ho2⟩
  rw [K.out.2.1] at hb2 ⊢
  have HB2 := Lib.hid hb2
  have HA2 := Lib.hid (HA1.out.keep (ho2.keepQ HG.out))
  have HC2 := Lib.hid (HC1.out.keep (ho2.keepQ HG.out))
  have HW2 := Lib.hid (HW1.out.trans (ho2.1.mono (Nat.le_refl _)))
  have hs2 := Nat.lt_of_lt_of_le hs1 ho2.1.size
  clear hb2 ho2
  go_wp2_with fail
  refine (b_add _ _ [kva] (-2) (fun k => k ≠ w.heap.size) w.heap.size [([kva], 2), ([kvc], 1)] _ (by omega) (HQ.out _ hs2) HG.out HA2.out HB2.out (by simp)).mono ?_
  rintro e w3 ⟨rfl, hb3, ho3⟩
  rw [K.out.2.2.1] at hb3 ⊢
  have HB3 := Lib.hid hb3
  have HA3 := Lib.hid (HA2.out.keep (ho3.keepQ HG.out))
  have HC3 := Lib.hid (HC2.out.keep (ho3.keepQ HG.out))
  have HW3 := Lib.hid (HW2.out.trans (ho3.1.mono (Nat.le_refl _)))
  have hs3 := Nat.lt_of_lt_of_le hs2 ho3.1.size
  clear hb3 ho3
  go_wp2_with fail
  refine (b_least (fun k => k ≠ w.heap.size) _ [([kvc], 1)] _ (HQ.out _ hs3) (Or.inr ⟨_, rfl, HB3.out⟩)).mono ?_
  rintro e w4 ⟨u, rfl, hu, hb4⟩
  have hu2 : IsRow w4 (fun k => k ≠ w.heap.size) u [kvc] := hu
  have HU := Lib.hid hu2
  obtain ⟨_, Au, cu, rfl, _, _⟩ := hu2
  have HB4 := Lib.hid (HB3.out.below hb4)
  have HA4 := Lib.hid (HA3.out.below hb4)
  have HC4 := Lib.hid (HC3.out.below hb4)
  have HW4 := Lib.hid (HW3.out.trans (hb4.mono (Nat.le_of_lt hs3)))
  have hs4 := Nat.lt_of_lt_of_le hs3 hb4.size
  clear hu hb4
  go_wp2_with fail
  refine (b_len (fun k => k ≠ w.heap.size) _ [([kvc], 1)] _ (Or.inr ⟨_, rfl, HB4.out⟩)).mono ?_
  rintro e w5 ⟨rfl, rfl⟩
  go_wp2_with fail
  refine (b_many _ _ [kvc] (fun k => k ≠ w.heap.size) _ [([kvc], 1)] _ HC4.out (Or.inr ⟨_, rfl, HB4.out⟩)).mono ?_
  rintro e w5 ⟨rfl, hb5⟩
  rw [K.out.2.2.2.1]
  have HB5 := Lib.hid (HB4.out.below hb5)
  have HA5 := Lib.hid (HA4.out.below hb5)
  have HC5 := Lib.hid (HC4.out.below hb5)
  have HU5 := Lib.hid (HU.out.below hb5)
  have HW5 := Lib.hid (HW4.out.trans (hb5.mono (Nat.le_of_lt hs4)))
  have hs5 := Nat.lt_of_lt_of_le hs4 hb5.size
  clear hb5
  go_wp2_with fail
  refine (b_many _ _ [kva] (fun k => k ≠ w.heap.size) _ [([kvc], 1)] _ HA5.out (Or.inr ⟨_, rfl, HB5.out⟩)).mono ?_
  rintro e w6 ⟨rfl, hb6⟩
  rw [K.out.2.2.2.2]
  have HC6 := Lib.hid (HC5.out.below hb6)
  have HU6 := Lib.hid (HU5.out.below hb6)
  have HW6 := Lib.hid (HW5.out.trans (hb6.mono (Nat.le_of_lt hs5)))
  clear hb6
  go_wp2_with fail
  refine (ref_equal_rows _ _ _ _ [kvc] [kvc] _ HU6.out HC6.out).mono ?_
  rintro e w7 ⟨rfl, nd, rfl⟩
  rw [eqR_self]
  go_wp2
  go_ret
  exact ⟨rfl, below_drewN' HW6.out _⟩
end Go.Proofs.Ytbenpcnmkhmkbaa
