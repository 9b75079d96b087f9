/-
  The fixed calls that every statement of package store makes answer as they must, in every world.
  No condition.
-/
import Derived.Test.YtoeggpoeongnhaaStk
namespace Go.Proofs.Ytoeggpoeongnhaa
open Go.RowKit Go.Maps

def bA8 : ByteArray := ⟨#[97]⟩
def bB8 : ByteArray := ⟨#[98]⟩
def ky8 : Ky := (bHost, bA8, bB8)
def cell8 : List V := [⟨1, false, 0, ⟨#[]⟩⟩]
theorem k8_ok : kOk ky8 := by unfold kOk; decide +kernel
theorem k8_ins : insR KL8 [] ky8 cell8 = 0 := by decide +kernel
theorem k8_up1 : updR KL8 [⟨ky8, 1, cell8⟩] ky8 1 cell8 = 0 := by decide +kernel
theorem k8_up2 : updR KL8 [⟨ky8, 2, cell8⟩] ky8 1 cell8 = 15 := by decide +kernel
theorem lit_row8 (w : World) (T : TypeId) (g : Nat) (hg : g = w.heap.size) : IsRow (w.alloc (.cells #[.int .i64 1, .bool false, .int .i64 0, .string ⟨#[]⟩] T)) (fun k => k = w.heap.size) (.slice (some ⟨g, 0, none⟩) 1 1) cell8 := by
  subst hg
  refine ⟨by decide, _, 1, rfl, (fun h => by cases h), fun i x hi => ?_⟩
  match i, hi with
  | 0, hi =>
    have e : x = ⟨1, false, 0, ⟨#[]⟩⟩ := by simpa [cell8] using hi.symm
    subst e
    have h := World.alloc_heap_new w (.cells #[.int .i64 1, .bool false, .int .i64 0, .string ⟨#[]⟩] T)
    exact ⟨_, rfl, rfl, cell_of_row _ w.heap.size 0 _ _ _ h, cell_of_row _ w.heap.size 1 _ _ _ h, cell_of_row _ w.heap.size 2 _ _ _ h, cell_of_row _ w.heap.size 3 _ _ _ h⟩
  | i + 1, hi => simp [cell8] at hi

set_option maxRecDepth 100000 in
set_option maxHeartbeats 4000000 in
theorem known8 (w : World) : Calls Try.prog 13 #[] w fun e w' => e = .returned (.bool true) ∧ Below w.heap.size w w' := by
  go_enter Try.func13, Try.ntmps13
  go_wp2_with fail
  refine (l_made w).mono ?_
  rintro e w1 ⟨s, b, r, kv, rfl, hS, hRf, n1, n2, n3, n4, n5, hb1⟩
  have HB1 := Lib.hid hb1
  have hl1 := hS.lt
  have hr1 := (Array.getElem?_eq_some_iff.1 hRf.1).1
  have hon := one_new w1 (.cells #[.int .i64 1, .bool false, .int .i64 0, .string ⟨#[]⟩] 95)
  have hon2 := one_new (w1.alloc (.cells #[.int .i64 1, .bool false, .int .i64 0, .string ⟨#[]⟩] 95)) (.cells #[.string bHost, .string bA8, .string bB8, .int .i64 0, .slice (some ⟨w1.heap.size, 0, none⟩) 1 1] 30)
  have hrow := (lit_row8 w1 95 w1.heap.size rfl).keep (Below.keepQ hon2 _)
  have hxo := alloc2_new w1 (.cells #[.int .i64 1, .bool false, .int .i64 0, .string ⟨#[]⟩] 95) (.cells #[.string bHost, .string bA8, .string bB8, .int .i64 0, .slice (some ⟨w1.heap.size, 0, none⟩) 1 1] 30)
  have hon3 := hon.trans (hon2.mono (by simp))
  have hS2 := (hS.imp (Q' := fun k => k ≠ s ∧ k ≠ b ∧ k ≠ r ∧ k ≠ w1.heap.size + 1) (fun k hk h => ⟨h.1, h.2.1, h.2.2, by omega⟩) (by simp) (by simp)).below hon3
  have hsz2 : ((w1.alloc (.cells #[.int .i64 1, .bool false, .int .i64 0, .string ⟨#[]⟩] 95)).alloc (.cells #[.string bHost, .string bA8, .string bB8, .int .i64 0, .slice (some ⟨w1.heap.size, 0, none⟩) 1 1] 30)).heap.size = w1.heap.size + 2 := by simp
  have HIN := Lib.hid (o_insert _ (fun k => k = w1.heap.size) s b [] 0 KL8 ⟨ky8, 0, .slice (some ⟨w1.heap.size, 0, none⟩) 1 1⟩ cell8 0 _ hS2 (fun k hk => by rw [hsz2] at hk; exact ⟨by omega, by omega, by omega, by omega⟩) hrow (by omega) k8_ok (Nat.zero_le _) (by simp) (by omega) (by omega))
  unfold oV at HIN
  simp only [ky8] at HIN
  have HRW := Lib.hid hrow
  have HXO := Lib.hid hxo
  have HON := Lib.hid hon3
  clear hS hb1 hon hon2 hrow hxo hon3 hS2 hRf
  go_wp2_with fail
  refine HIN.out.mono ?_
  rintro e w2 (⟨h0, -, -⟩ | ⟨-, rfl, hS3, ho3⟩)
  · exact absurd k8_ins h0
  · have hx2 := (ho3.2 (w1.heap.size + 1) (by rw [hsz2]; omega) (by omega) (by omega)).trans HXO.out
    have hr2 := HRW.out.keep (w' := w2) (fun k hk hkl => ho3.2 k hkl (by omega) (by omega))
    have hbw1 := HB1.out.size
    have hb2 : Below w.heap.size w w2 := (HB1.out.trans (HON.out.mono hbw1)).trans (ho3.below n1 n2 (by rw [hsz2]; omega))
    have hs23 := ho3.1.size
    rw [hsz2] at hs23
    obtain ⟨a0, a1, a2, a3, a4⟩ := five_cells hx2
    obtain ⟨f0, f1, f2, f3, f4⟩ := five_thaw hx2
    have hx3 := heap_setCell_same w2 (w1.heap.size + 1) 3 _ _ (.int .i64 1) hx2
    have hfar : ∀ k, k ≠ w1.heap.size + 1 → (w2.setCell ⟨w1.heap.size + 1, 3, none⟩ (.int .i64 1)).heap[k]? = w2.heap[k]? := fun k hk => Below.heap_setCell w2 ⟨w1.heap.size + 1, 3, none⟩ _ k hk
    have hz3 : (w2.setCell ⟨w1.heap.size + 1, 3, none⟩ (.int .i64 1)).heap.size = w2.heap.size := by simp [World.setCell]
    have hS3' := hS3.keep (w' := w2.setCell ⟨w1.heap.size + 1, 3, none⟩ (.int .i64 1)) (fun k hk _ => hfar k hk.2.2.2) (hfar s (by omega)) (hfar b (by omega)) (by rw [hz3]; exact Nat.le_refl _)
    have hr3 := hr2.keep (w' := w2.setCell ⟨w1.heap.size + 1, 3, none⟩ (.int .i64 1)) (fun k hk _ => hfar k (by omega))
    have hb3 : Below w.heap.size w (w2.setCell ⟨w1.heap.size + 1, 3, none⟩ (.int .i64 1)) := hb2.setCell (p := ⟨w1.heap.size + 1, 3, none⟩) (by show w.heap.size ≤ w1.heap.size + 1; omega) _
    have HX3 := Lib.hid hx3
    have HS3 := Lib.hid hS3'
    have HR3 := Lib.hid hr3
    have HB3 := Lib.hid hb3
    have HZ3 := Lib.hid hz3
    clear hx2 hr2 hb2 hS3 ho3 hx3 hS3' hr3 hb3 hfar HRW HXO HON HIN hz3
    go_upto_region 5 with (fail)
    generalize (w2.setCell ⟨w1.heap.size + 1, 3, none⟩ (.int .i64 1)) = w3 at *
    clear a0 a1 a2 a3 a4 f0 f1 f2 f3 f4
    have HUP := Lib.hid (o_update _ (fun k => k = w1.heap.size) s b [⟨ky8, 1, cell8⟩] 1 KL8 ⟨ky8, 1, .slice (some ⟨w1.heap.size, 0, none⟩) 1 1⟩ cell8 0 w3 HS3.out (fun k hk => by rw [HZ3.out] at hk; exact ⟨by omega, by omega, by omega, by omega⟩) HR3.out (by omega) k8_ok (fun x hx => ⟨by simp, _, rfl, rfl⟩) (by simp) (by omega) (by omega))
    unfold oV at HUP
    simp only [ky8] at HUP
    obtain ⟨a0, a1, a2, a3, a4⟩ := five_cells HX3.out
    go_wp2_with fail
    refine HUP.out.mono ?_
    rintro e w4 (⟨h0, -, -⟩ | ⟨-, rfl, hS4, ho4⟩)
    · exact absurd k8_up1 h0
    · have hl3 := (Array.getElem?_eq_some_iff.1 HX3.out).1
      have hx4 := (ho4.2 (w1.heap.size + 1) hl3 (by omega) (by omega)).trans HX3.out
      have hr4 := HR3.out.keep (w' := w4) (fun k hk hkl => ho4.2 k hkl (by omega) (by omega))
      have hb4 : Below w.heap.size w w4 := HB3.out.trans (ho4.below n1 n2 HB3.out.size)
      have HUP2 := Lib.hid (o_update _ (fun k => k = w1.heap.size) s b [⟨ky8, 2, cell8⟩] 2 KL8 ⟨ky8, 1, .slice (some ⟨w1.heap.size, 0, none⟩) 1 1⟩ cell8 0 w4 hS4 (fun k hk => by have h1 := HZ3.out; have h2 := ho4.1.size; exact ⟨by omega, by omega, by omega, by omega⟩) hr4 (by omega) k8_ok (fun x hx => ⟨by simp, _, rfl, rfl⟩) (by simp) (by omega) (by omega))
      unfold oV at HUP2
      simp only [ky8] at HUP2
      obtain ⟨b0, b1, b2, b3, b4⟩ := five_cells hx4
      have HS4 := Lib.hid hS4
      have HB4 := Lib.hid hb4
      clear a0 a1 a2 a3 a4 HX3 HR3 HB3 HS3 hx4 hr4 hb4 hS4 ho4 HUP
      go_wp2_with fail
      refine HUP2.out.mono ?_
      rintro e w5 (⟨-, rfl, hb5⟩ | ⟨h0, -, -⟩)
      · have hu2 : updR KL8 [⟨(bHost, bA8, bB8), 2, cell8⟩] (bHost, bA8, bB8) 1 cell8 = 15 := k8_up2
        rw [hu2]
        have HS5 := Lib.hid (HS4.out.below hb5)
        have HB5 := Lib.hid (HB4.out.trans (hb5.mono HB4.out.size))
        clear hb5 hu2 HUP2
        go_wp2_with fail
        refine (o_new_nil w5).mono ?_
        rintro e w6 ⟨rfl, hb6⟩
        have HS6 := Lib.hid (HS5.out.below hb6)
        have HB6 := Lib.hid (HB5.out.trans (hb6.mono HB5.out.size))
        clear hb6
        have HLN := Lib.hid (o_len _ s b _ _ KL8 w6 HS6.out)
        go_wp2_with fail
        refine HLN.out.mono ?_
        rintro e w7 ⟨rfl, hb7⟩
        have HB7 := Lib.hid (HB6.out.trans (hb7.mono HB6.out.size))
        clear hb7
        go_wp2
        go_ret
        exact ⟨rfl, HB7.out⟩
      · exact absurd h0 (by rw [show updR KL8 [⟨(bHost, bA8, bB8), 2, cell8⟩] (bHost, bA8, bB8) 1 cell8 = 15 from k8_up2]; decide)
end Go.Proofs.Ytoeggpoeongnhaa
