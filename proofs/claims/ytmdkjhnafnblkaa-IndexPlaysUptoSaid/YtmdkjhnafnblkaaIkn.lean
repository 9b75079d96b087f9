/-
  The fixed calls that every statement of package index makes answer as they must, in every world; nothing that was there is changed.
  No condition.
  The fixed calls that every statement of package index makes answer as they must, in every world; nothing that was there is changed.
  No condition.
-/
import Derived.Test.YtmdkjhnafnblkaaIxl
namespace Go.Proofs.Ytmdkjhnafnblkaa
open Go.RowKit Go.Maps

def kt6 : V := ⟨3, false, 0, ⟨#[97]⟩⟩
def ka6 : List V := [⟨2, false, 1, ⟨#[]⟩⟩, kt6]
def kb6 : List V := [⟨2, false, 2, ⟨#[]⟩⟩, kt6]
theorem i6_1 : addL ka6 1 [] = ([(ka6, 1)], 0) := by kernel_rfl
theorem i6_2 : addL kb6 1 [(ka6, 1)] = ([(ka6, 1), (kb6, 1)], 0) := by kernel_rfl
theorem i6_3 : pickR ka6 [1] = ([kt6], 0) := by kernel_rfl
theorem i6_4 : pickR kb6 [1] = ([kt6], 0) := by kernel_rfl
theorem i6_w : WideR [kt6] := by
  intro v hv
  rw [List.mem_singleton.1 hv]
  unfold Wide kt6
  simp

theorem lit_ints6 (w : World) (cs : Array Value) (zs : List Int) (g : Nat) (hg : g = w.heap.size) (h : cs.toList = zs.map (Value.int .i64)) : IntsAt (w.alloc (.cells cs 3)) (w.alloc (.cells cs 3)).heap.size (some ⟨g, 0, none⟩) zs := by
  subst hg
  intro i z hi
  have hb : ((⟨w.heap.size, 0, none⟩ : Addr).add i).block = w.heap.size := by unfold Addr.add; split <;> rfl
  have ha : (⟨w.heap.size, 0, none⟩ : Addr).add i = ⟨w.heap.size, i, none⟩ := by unfold Addr.add; split <;> simp_all
  refine ⟨_, rfl, by rw [hb]; simp, ?_⟩
  rw [ha, cell_of_row _ w.heap.size i cs 3 (0, 0) (heap_alloc_new w _), ← Array.getElem?_toList, h, List.getElem?_map, hi]
  rfl
theorem lit_row6 (w : World) (cs : Array Value) (xs : List V) (g : Nat) (Q : Nat → Prop) (hg : g = w.heap.size) (hQ : Q g) (h : cs.toList = flat xs) (hl : xs.length ≤ 1000000) : IsRow (w.alloc (.cells cs 113)) Q (.slice (some ⟨g, 0, none⟩) xs.length xs.length) xs := by
  subst hg
  have hs : cs.size = xs.length * 4 := by
    rw [← flat_length, ← h]
    simp
  have ho : Own (w.alloc (.cells cs 113)) w.heap.size (.slice (some ⟨w.heap.size, 0, none⟩) xs.length xs.length) xs := by
    unfold Own
    rw [← h]
    exact World.ownsRow_lit w cs xs.length (Nat.le_refl _) (by unfold maxLen; omega) hs
  obtain ⟨A, c, hv, _, hr⟩ := ho.row
  injection hv with hA _ _
  subst hA
  refine ⟨hl, some ⟨w.heap.size, 0, none⟩, xs.length, rfl, (fun h => (by cases h)), fun i u hi => ?_⟩
  obtain ⟨a, ha, _, hv⟩ := hr i u hi
  injection ha with ha
  subst ha
  refine ⟨_, rfl, ?_, hv⟩
  rw [show ((⟨w.heap.size, 0, none⟩ : Addr).add (i * 4)).block = w.heap.size from by unfold Addr.add; split <;> rfl]
  exact hQ

/-- The memory of the fixed calls: the index, and two rows beside it. -/
def K6 (h x b ga gb : Nat) (S : List Sh) (W : World) : Prop :=
  ∃ D A c, IdxB W x b D A c [1] S ∧ IsRow W (fun k => k = ga ∨ k = gb) (.slice (some ⟨ga, 0, none⟩) 2 2) ka6 ∧ IsRow W (fun k => k = ga ∨ k = gb) (.slice (some ⟨gb, 0, none⟩) 2 2) kb6 ∧
    ga ∉ mus x b S ∧ gb ∉ mus x b S ∧ ga < W.heap.size ∧ gb < W.heap.size ∧ h ≤ W.heap.size ∧ ∀ k ∈ mus x b S, h ≤ k
theorem K6.below {h x b ga gb : Nat} {S : List Sh} {W W' : World} (k : K6 h x b ga gb S W) (hb : Below W.heap.size W W') : K6 h x b ga gb S W' := by
  obtain ⟨D, A, c, k1, k2, k3, k4, k5, k6, k7, k8, k9⟩ := k
  have := hb.size
  exact ⟨D, A, c, k1.below hb, k2.below hb, k3.below hb, k4, k5, by omega, by omega, by omega, k9⟩
theorem K6.tail {h x b ga gb : Nat} {S : List Sh} {W : World} (k : K6 h x b ga gb S W) : RowAt W W.heap.size (some ⟨ga, 4, none⟩) [kt6] := by
  obtain ⟨D, A, c, k1, ⟨_, A1, c1, hv, _, k2⟩, k3, k4, k5, k6, k7, k8, k9⟩ := k
  injection hv with hA _ _
  subst hA
  intro i v hi
  match i, hi with
  | 0, hi =>
    obtain ⟨a, ha, _, hat⟩ := k2 1 v hi
    injection ha with ha
    subst ha
    exact ⟨_, rfl, k6, hat⟩
  | i + 1, hi => simp at hi

set_option maxHeartbeats 1000000 in
theorem k6_add1 (h x b ga gb : Nat) (w : World) (k : K6 h x b ga gb [] w) :
    Calls Try.prog 21 #[.pointer (some ⟨x, 0, none⟩), .slice (some ⟨ga, 0, none⟩) 2 2, .int .i64 1] w fun e w' => e = .returned (.int .i64 0) ∧ Below h w w' ∧ ∃ s g, K6 h x b ga gb [⟨markB [kt6], s, g, 1, [(ka6, 1)]⟩] w' := by
  obtain ⟨D, A, c, k1, k2, k3, k4, k5, k6, k7, k8, k9⟩ := k
  refine (i_add x b D A c [1] [] _ _ ka6 [kt6] 1 w (fun W e w' => e = .returned (.int .i64 0) ∧ OnlyM (mus x b []) W w' ∧
      ∃ D' s g, W.heap.size ≤ s ∧ W.heap.size ≤ g ∧ IdxB w' x b D' A c [1] ([] ++ [⟨markB [kt6], s, g, 1, [(ka6, 1)]⟩])) k1 (by simp) k2 i6_3 (by simp) i6_w ?_).mono ?_
  · intro W hW
    refine (i_put_new x b D A c [1] [] (markB [kt6]) _ _ ka6 1 [(ka6, 1)] W (mark_size _ (by simp)) (k1.below hW) rfl (k2.below hW) i6_1 (by simp) (by simp)).mono ?_
    rintro e w' ⟨rfl, h1, h2⟩
    exact ⟨0, rfl, rfl, h1, h2⟩
  · rintro e w' ⟨W, hW, rfl, om, D', s, g, hs, hg, hI⟩
    have hz := hW.size
    have hz2 := om.1.size
    have hkq : KeepQ (fun k => k = ga ∨ k = gb) W w' := om.keepQ (fun k hk hm => by rcases hk with rfl | rfl; exact k4 hm; exact k5 hm)
    refine ⟨rfl, (hW.mono k8).trans (om.back (Nat.le_trans k8 hz) k9), s, g, D', A, c, hI, (k2.below hW).keep hkq, (k3.below hW).keep hkq, ?_, ?_, by omega, by omega, by omega, ?_⟩
    · intro hm; simp [mus] at hm k4; omega
    · intro hm; simp [mus] at hm k5; omega
    · intro j hj
      have hx := k9 x (by simp [mus])
      have hb := k9 b (by simp [mus])
      simp [mus] at hj
      omega

set_option maxHeartbeats 1000000 in
theorem k6_add2 (h x b ga gb s g : Nat) (w : World) (k : K6 h x b ga gb [⟨markB [kt6], s, g, 1, [(ka6, 1)]⟩] w) :
    Calls Try.prog 21 #[.pointer (some ⟨x, 0, none⟩), .slice (some ⟨gb, 0, none⟩) 2 2, .int .i64 1] w fun e w' => e = .returned (.int .i64 0) ∧ Below h w w' ∧ K6 h x b ga gb [⟨markB [kt6], s, g, 2, [(ka6, 1), (kb6, 1)]⟩] w' := by
  obtain ⟨D, A, c, k1, k2, k3, k4, k5, k6, k7, k8, k9⟩ := k
  refine (i_add x b D A c [1] _ _ _ kb6 [kt6] 1 w (fun W e w' => e = .returned (.int .i64 0) ∧ OnlyM (mus x b [⟨markB [kt6], s, g, 1, [(ka6, 1)]⟩]) W w' ∧
      ∃ D', IdxB w' x b D' A c [1] (updS [⟨markB [kt6], s, g, 1, [(ka6, 1)]⟩] ⟨markB [kt6], s, g, 1 + 1, [(ka6, 1), (kb6, 1)]⟩)) k1 (by simp) k3 i6_4 (by simp) i6_w ?_).mono ?_
  · intro W hW
    refine (i_put_hit x b D A c [1] _ (markB [kt6]) s g 1 [(ka6, 1)] _ _ kb6 1 [(ka6, 1), (kb6, 1)] W (mark_size _ (by simp)) (k1.below hW) (by simp [findK]) (k3.below hW) i6_2 (by simp) (by simp) (by simp) (by omega) (by omega)).mono ?_
    rintro e w' ⟨rfl, h1, h2⟩
    exact ⟨0, rfl, rfl, h1, h2⟩
  · rintro e w' ⟨W, hW, rfl, om, D', hI⟩
    have hz := hW.size
    have hz2 := om.1.size
    have hu : updS [⟨markB [kt6], s, g, 1, [(ka6, 1)]⟩] ⟨markB [kt6], s, g, 1 + 1, [(ka6, 1), (kb6, 1)]⟩ = [⟨markB [kt6], s, g, 2, [(ka6, 1), (kb6, 1)]⟩] := by simp [updS]
    rw [hu] at hI
    have hkq : KeepQ (fun k => k = ga ∨ k = gb) W w' := om.keepQ (fun k hk hm => by rcases hk with rfl | rfl; exact k4 hm; exact k5 hm)
    exact ⟨rfl, (hW.mono k8).trans (om.back (Nat.le_trans k8 hz) k9), D', A, c, hI, (k2.below hW).keep hkq, (k3.below hW).keep hkq, k4, k5, by omega, by omega, by omega, k9⟩
theorem k6_find (h x b ga gb s g : Nat) (w : World) (k : K6 h x b ga gb [⟨markB [kt6], s, g, 2, [(ka6, 1), (kb6, 1)]⟩] w) :
    Calls Try.prog 25 #[.pointer (some ⟨x, 0, none⟩), .slice (some ⟨ga, 4, none⟩) 1 1] w fun e w' => ∃ L c2, e = .returned (.slice L 2 c2) ∧ Below w.heap.size w w' := by
  have ht := k.tail
  obtain ⟨D, A, c, k1, -⟩ := k
  refine (i_find_hit x b D A c [1] _ ⟨markB [kt6], s, g, 2, [(ka6, 1), (kb6, 1)]⟩ _ [kt6] 1 1 w k1 (by simp [findK]) rfl (by simp) i6_w ht (by simp)).mono ?_
  rintro e w' ⟨L, c2, rfl, _, _, hb⟩
  exact ⟨L, c2, rfl, hb⟩
theorem k6_has (h x b ga gb s g : Nat) (w : World) (k : K6 h x b ga gb [⟨markB [kt6], s, g, 2, [(ka6, 1), (kb6, 1)]⟩] w) :
    Calls Try.prog 27 #[.pointer (some ⟨x, 0, none⟩), .slice (some ⟨ga, 4, none⟩) 1 1] w fun e w' => e = .returned (.int .i64 2) ∧ Below w.heap.size w w' := by
  have ht := k.tail
  obtain ⟨D, A, c, k1, -⟩ := k
  exact i_has_hit x b D A c [1] _ ⟨markB [kt6], s, g, 2, [(ka6, 1), (kb6, 1)]⟩ _ [kt6] 1 1 w k1 (by simp [findK]) rfl (by simp) i6_w ht
theorem k6_keys (h x b ga gb s g : Nat) (w : World) (k : K6 h x b ga gb [⟨markB [kt6], s, g, 2, [(ka6, 1), (kb6, 1)]⟩] w) :
    Calls Try.prog 29 #[.pointer (some ⟨x, 0, none⟩)] w fun e w' => e = .returned (.int .i64 1) ∧ w = w' := by
  obtain ⟨D, A, c, k1, -⟩ := k
  exact i_keys x b D A c [1] _ w k1
theorem k6_len (h x b ga gb s g : Nat) (w : World) (k : K6 h x b ga gb [⟨markB [kt6], s, g, 2, [(ka6, 1), (kb6, 1)]⟩] w) :
    Calls Try.prog 23 #[.pointer (some ⟨x, 0, none⟩)] w fun e w' => e = .returned (.int .i64 2) ∧ Below w.heap.size w w' := by
  obtain ⟨D, A, c, k1, -⟩ := k
  exact i_len x b D A c [1] _ w k1 (by simp [totL])

set_option maxRecDepth 100000 in
set_option maxHeartbeats 1000000 in
theorem known6 (w : World) : Calls Try.prog 20 #[] w fun e w' => e = .returned (.bool true) ∧ Below w.heap.size w w' := by
  have hnew := i_new (some ⟨w.heap.size, 0, none⟩) [1] 1 1 (w.alloc (.cells #[.int .i64 1] 3)) rfl (fun h => by cases h) (by simp) (lit_ints6 w #[.int .i64 1] [1] w.heap.size rfl rfl) (by kernel_rfl)
  have HNEW := Lib.hid hnew
  clear hnew
  go_enter Try.func20, Try.ntmps20
  go_wp2_with fail
  refine HNEW.out.mono ?_
  rintro e w1 ⟨hb1, x, b, rfl, hx, hb, D, A, c, hI⟩
  have hb0 : Below w.heap.size w w1 := (one_new w _).trans (hb1.mono (by simp))
  have hz := hb0.size
  rw [World.size_alloc] at hx hb
  obtain ⟨W1, hW1⟩ : ∃ W1, W1 = w1.alloc (.cells #[.int .i64 2, .bool false, .int .i64 1, .string ⟨#[]⟩, .int .i64 3, .bool false, .int .i64 0, .string ⟨#[97]⟩] 113) := ⟨_, rfl⟩
  obtain ⟨W2, hW2⟩ : ∃ W2, W2 = W1.alloc (.cells #[.int .i64 2, .bool false, .int .i64 2, .string ⟨#[]⟩, .int .i64 3, .bool false, .int .i64 0, .string ⟨#[97]⟩] 113) := ⟨_, rfl⟩
  have hn1 : Below w1.heap.size w1 W1 := by rw [hW1]; exact one_new _ _
  have hn2 : Below W1.heap.size W1 W2 := by rw [hW2]; exact one_new _ _
  have hz1 : W1.heap.size = w1.heap.size + 1 := by rw [hW1]; simp
  have hz2 : W2.heap.size = w1.heap.size + 2 := by rw [hW2, World.size_alloc, hz1]
  have ra : IsRow W1 (fun k => k = w1.heap.size ∨ k = w1.heap.size + 1) (.slice (some ⟨w1.heap.size, 0, none⟩) 2 2) ka6 := by
    rw [hW1]
    exact lit_row6 w1 _ ka6 _ _ rfl (.inl rfl) rfl (by simp [ka6])
  have rb : IsRow W2 (fun k => k = w1.heap.size ∨ k = w1.heap.size + 1) (.slice (some ⟨w1.heap.size + 1, 0, none⟩) 2 2) kb6 := by
    rw [hW2]
    exact lit_row6 W1 _ kb6 _ _ hz1.symm (.inr rfl) rfl (by simp [kb6])
  have hml := hI.2.2.2.2.2.1
  have hk : K6 w.heap.size x b w1.heap.size (w1.heap.size + 1) [] W2 := by
    refine ⟨D, A, c, (hI.below hn1).below hn2, ra.below hn2, rb, fun hm => ?_, fun hm => ?_, by omega, by omega, by omega, fun k hk => ?_⟩
    · have := hml _ hm; omega
    · have := hml _ hm; omega
    · simp [mus] at hk; omega
  have HK := Lib.hid hk
  have HBZ := Lib.hid (hb0.trans ((hn1.mono hz).trans (hn2.mono (by omega))))
  have HW := Lib.hid (And.intro hW1 hW2)
  clear hb1 hI hW1 hW2 hn1 hn2 ra rb hml hk hb0
  go_wp2_with fail
  rw [← HW.out.1, ← HW.out.2]
  refine (k6_add1 _ _ _ _ _ _ HK.out).mono ?_
  rintro e w2 ⟨rfl, hb2, s, g, hk2⟩
  have HK2 := Lib.hid hk2
  have HB2 := Lib.hid (HBZ.out.trans hb2)
  clear hb2 hk2
  go_wp2_with fail
  refine (k6_add2 _ _ _ _ _ _ _ _ HK2.out).mono ?_
  rintro e w3 ⟨rfl, hb3, hk3⟩
  have HK3 := Lib.hid hk3
  have HB3 := Lib.hid (HB2.out.trans hb3)
  have h3 := HB3.out.size
  clear hb3 hk3
  go_wp2_with fail
  refine (k6_find _ _ _ _ _ _ _ _ HK3.out).mono ?_
  rintro e w4 ⟨L, c2, rfl, hb4⟩
  have HK4 := Lib.hid (HK3.out.below hb4)
  have HB4 := Lib.hid (HB3.out.trans (hb4.mono h3))
  have h4 := HB4.out.size
  clear hb4
  go_wp2_with fail
  refine (k6_has _ _ _ _ _ _ _ _ HK4.out).mono ?_
  rintro e w5 ⟨rfl, hb5⟩
  have HK5 := Lib.hid (HK4.out.below hb5)
  have HB5 := Lib.hid (HB4.out.trans (hb5.mono h4))
  have h5 := HB5.out.size
  clear hb5
  go_wp2_with fail
  refine (k6_keys _ _ _ _ _ _ _ _ HK5.out).mono ?_
  rintro e w6 ⟨rfl, rfl⟩
  go_wp2_with fail
  refine (k6_len _ _ _ _ _ _ _ _ HK5.out).mono ?_
  rintro e w6 ⟨rfl, hb6⟩
  have HB6 := Lib.hid (HB5.out.trans (hb6.mono h5))
  clear hb6
  go_wp2
  go_ret
  exact ⟨rfl, HB6.out⟩
end Go.Proofs.Ytmdkjhnafnblkaa
