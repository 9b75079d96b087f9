/-
  The fixed calls that every statement of package index makes answer as they must, in every world; nothing that was there is changed.
  No condition.
-/
import Derived.Test.YtgifkigamebofaaIknown
namespace Go.Proofs.Ytgifkigamebofaa
open Go.RowKit Go.Maps

set_option maxRecDepth 100000 in
set_option maxHeartbeats 1000000 in
theorem known6 (w : World) : Calls Try.prog 22 #[] w fun e w' => e = .returned (.bool true) ∧ Below w.heap.size w w' := by
  have hnew := i_new (some ⟨w.heap.size, 0, none⟩) [1] 1 1 (w.alloc (.cells #[.int .i64 1] 3)) rfl (fun h => by cases h) (by simp) (lit_ints6 w #[.int .i64 1] [1] w.heap.size rfl rfl) (by kernel_rfl)
  have HNEW := Lib.hid hnew
  clear hnew
  go_enter Try.func22, Try.ntmps22
  go_wp2_with fail
  refine HNEW.out.mono ?_
  rintro e w1 ⟨hb1, x, b, rfl, hx, hb, D, A, c, hI⟩
  have hb0 : Below w.heap.size w w1 := (one_new w _).trans (hb1.mono (by simp))
  have hz := hb0.size
  rw [World.size_alloc] at hx hb
  obtain ⟨W1, hW1⟩ : ∃ W1, W1 = w1.alloc (.cells #[.int .i64 2, .bool false, .int .i64 1, .string ⟨#[]⟩, .int .i64 3, .bool false, .int .i64 0, .string ⟨#[97]⟩] 52) := ⟨_, rfl⟩
  obtain ⟨W2, hW2⟩ : ∃ W2, W2 = W1.alloc (.cells #[.int .i64 2, .bool false, .int .i64 2, .string ⟨#[]⟩, .int .i64 3, .bool false, .int .i64 0, .string ⟨#[97]⟩] 52) := ⟨_, rfl⟩
  have hn1 : Below w1.heap.size w1 W1 := by rw [hW1]; exact one_new _ _
  have hn2 : Below W1.heap.size W1 W2 := by rw [hW2]; exact one_new _ _
  have hz1 : W1.heap.size = w1.heap.size + 1 := by rw [hW1]; simp
  have hz2 : W2.heap.size = w1.heap.size + 2 := by rw [hW2, World.size_alloc, hz1]
  have ra : IsRow W1 (fun k => k = w1.heap.size ∨ k = w1.heap.size + 1) (.slice (some ⟨w1.heap.size, 0, none⟩) 2 2) ka6 := by
    rw [hW1]
    exact lit_row6 w1 _ ka6 _ _ rfl (.inl rfl) rfl (by simp [ka6])
  have rb : IsRow W2 (fun k => k = w1.heap.size ∨ k = w1.heap.size + 1) (.slice (some ⟨w1.heap.size + 1, 0, none⟩) 2 2) kb6 := by
    rw [hW2]
    exact lit_row6 W1 _ kb6 _ _ hz1.symm (.inr rfl) rfl (by simp [kb6])
  have hml := hI.2.2.2.2.2.1
  have hk : K6 w.heap.size x b w1.heap.size (w1.heap.size + 1) [] W2 := by
    refine ⟨D, A, c, (hI.below hn1).below hn2, ra.below hn2, rb, fun hm => ?_, fun hm => ?_, by omega, by omega, by omega, fun k hk => ?_⟩
    · have := hml _ hm; omega
    · have := hml _ hm; omega
    · simp [mus] at hk; omega
  have HK := Lib.hid hk
  have HBZ := Lib.hid (hb0.trans ((hn1.mono hz).trans (hn2.mono (by omega))))
  have HW := Lib.hid (And.intro hW1 hW2)
  clear hb1 hI hW1 hW2 hn1 hn2 ra rb hml hk hb0
  go_wp2_with fail
  rw [← HW.out.1, ← HW.out.2]
  refine (k6_add1 _ _ _ _ _ _ HK.out).mono ?_
  rintro e w2 ⟨rfl, hb2, s, g, hk2⟩
  have HK2 := Lib.hid hk2
  have HB2 := Lib.hid (HBZ.out.trans hb2)
  clear hb2 hk2
  go_wp2_with fail
  refine (k6_add2 _ _ _ _ _ _ _ _ HK2.out).mono ?_
  rintro e w3 ⟨rfl, hb3, hk3⟩
  have HK3 := Lib.hid hk3
  have HB3 := Lib.hid (HB2.out.trans hb3)
  have h3 := HB3.out.size
  clear hb3 hk3
  go_wp2_with fail
  refine (k6_find _ _ _ _ _ _ _ _ HK3.out).mono ?_
  rintro e w4 ⟨L, c2, rfl, hb4⟩
  have HK4 := Lib.hid (HK3.out.below hb4)
  have HB4 := Lib.hid (HB3.out.trans (hb4.mono h3))
  have h4 := HB4.out.size
  clear hb4
  go_wp2_with fail
  refine (k6_has _ _ _ _ _ _ _ _ HK4.out).mono ?_
  rintro e w5 ⟨rfl, hb5⟩
  have HK5 := Lib.hid (HK4.out.below hb5)
  have HB5 := Lib.hid (HB4.out.trans (hb5.mono h4))
  have h5 := HB5.out.size
  clear hb5
  go_wp2_with fail
  refine (k6_keys _ _ _ _ _ _ _ _ HK5.out).mono ?_
  rintro e w6 ⟨rfl, rfl⟩
  go_wp2_with fail
  refine (k6_len _ _ _ _ _ _ _ _ HK5.out).mono ?_
  rintro e w6 ⟨rfl, hb6⟩
  have HB6 := Lib.hid (HB5.out.trans (hb6.mono h5))
  clear hb6
  go_wp2
  go_ret
  exact ⟨rfl, HB6.out⟩
end Go.Proofs.Ytgifkigamebofaa
