/-
  The two kinds that every statement of package store uses; a store of the program and the document's, made of them.
  No condition.
  The fixed calls that every statement of package store makes answer as they must, in every world.
  No condition.
-/
import Derived.Test.YtmiagdmfgebfdaaStj
namespace Go.Proofs.Ytmiagdmfgebfdaa
section
open Go.RowKit Go.Maps

def bPod : ByteArray := ⟨#[112, 111, 100]⟩
def bHost : ByteArray := ⟨#[104, 111, 115, 116]⟩
def bImage : ByteArray := ⟨#[105, 109, 97, 103, 101]⟩
def bCpu : ByteArray := ⟨#[99, 112, 117]⟩
def bNode : ByteArray := ⟨#[110, 111, 100, 101]⟩
def bUp : ByteArray := ⟨#[117, 112]⟩
def KL8 : List Sc := [⟨bPod, [⟨bImage, 3, false⟩, ⟨bCpu, 2, false⟩, ⟨bNode, 3, true⟩]⟩, ⟨bHost, [⟨bUp, 1, false⟩]⟩]
theorem KL8_fault : faultR KL8 = 0 := by decide +kernel
theorem lit_cellsQ (w : World) (cs : Array Value) (t : TypeId) (Q : Nat → Prop) (hq : Q w.heap.size) : CellsQ (w.alloc (.cells cs t)) Q (some ⟨w.heap.size, 0, none⟩) cs.toList := by
  intro j u hj
  have ha : (⟨w.heap.size, 0, none⟩ : Addr).add j = ⟨w.heap.size, j, none⟩ := by unfold Addr.add; split <;> simp_all
  refine ⟨_, rfl, by rw [ha]; exact hq, ?_⟩
  rw [ha]
  exact (alloc_new_cells w cs t j).trans (by rw [← Array.getElem?_toList]; exact hj)
theorem podF : flatC [⟨bImage, 3, false⟩, ⟨bCpu, 2, false⟩, ⟨bNode, 3, true⟩] = [.string bImage, .int .i64 3, .bool false, .string bCpu, .int .i64 2, .bool false, .string bNode, .int .i64 3, .bool true] := rfl
theorem hostF : flatC [⟨bUp, 1, false⟩] = [.string bUp, .int .i64 1, .bool false] := rfl
set_option maxRecDepth 100000 in
set_option maxHeartbeats 1000000 in
theorem l_kinds (w : World) : Calls Try.prog 37 #[] w fun r w' => ∃ v, r = .returned v ∧ IsKinds w' (Behind w) v KL8 ∧ Below w.heap.size w w' := by
  go_enter Try.func37, Try.ntmps37
  go_wp2
  go_ret
  have c1 := lit_cellsQ w #[.string bImage, .int .i64 3, .bool false, .string bCpu, .int .i64 2, .bool false, .string bNode, .int .i64 3, .bool true] 105 (Behind w) (Nat.le_refl _)
  have c2 := lit_cellsQ (w.alloc (.cells #[.string bImage, .int .i64 3, .bool false, .string bCpu, .int .i64 2, .bool false, .string bNode, .int .i64 3, .bool true] 105)) #[.string bUp, .int .i64 1, .bool false] 105 (Behind w) (by simp [Behind])
  have c3 := lit_cellsQ ((w.alloc (.cells #[.string bImage, .int .i64 3, .bool false, .string bCpu, .int .i64 2, .bool false, .string bNode, .int .i64 3, .bool true] 105)).alloc (.cells #[.string bUp, .int .i64 1, .bool false] 105)) #[.string bPod, .slice (some ⟨w.heap.size, 0, none⟩) 3 3, .string bHost, .slice (some ⟨w.heap.size + 1, 0, none⟩) 1 1] 89 (Behind w) (by simp [Behind]; omega)
  rw [World.size_alloc] at c2
  rw [World.size_alloc, World.size_alloc] at c3
  have k1 := (c1.keep (Below.keepQ (one_new _ (.cells #[.string bUp, .int .i64 1, .bool false] 105)) _)).keep (Below.keepQ (one_new _ (.cells #[.string bPod, .slice (some ⟨w.heap.size, 0, none⟩) 3 3, .string bHost, .slice (some ⟨w.heap.size + 1, 0, none⟩) 1 1] 89)) _)
  have k2 := c2.keep (Below.keepQ (one_new _ (.cells #[.string bPod, .slice (some ⟨w.heap.size, 0, none⟩) 3 3, .string bHost, .slice (some ⟨w.heap.size + 1, 0, none⟩) 1 1] 89)) _)
  refine ⟨.slice (some ⟨w.heap.size + 1 + 1, 0, none⟩) 2 2, rfl, ⟨by decide, _, 2, rfl, fun h => (by cases h), by decide, [(bPod, .slice (some ⟨w.heap.size, 0, none⟩) 3 3), (bHost, .slice (some ⟨w.heap.size + 1, 0, none⟩) 1 1)], ⟨rfl, ⟨by decide, _, 3, rfl, fun h => (by cases h), by decide, (by rw [podF]; exact k1)⟩, rfl, ⟨by decide, _, 1, rfl, fun h => (by cases h), by decide, (by rw [hostF]; exact k2)⟩, trivial⟩, c3⟩, (one_new w _).trans (((one_new _ _).trans ((one_new _ _).mono (by simp))).mono (by simp))⟩

/-- A store of the program at s, one of the document at r. -/
def RefS (w : World) (Q : Nat → Prop) (r : Nat) (kv lv : Value) (last : Int) (KL : List Sc) : Prop := w.heap[r]? = some (.cells #[kv, lv, .int .i64 last] 72 (0, 0)) ∧ IsKinds w Q kv KL ∧ ¬ Q r
theorem StoB.imp {w : World} {Q Q' : Nat → Prop} {s b : Nat} {os : List Ob} {last : Int} {KL : List Sc} (h : StoB w Q s b os last KL) (hq : ∀ k, k < w.heap.size → Q k → Q' k) (hs : ¬ Q' s) (hb : ¬ Q' b) : StoB w Q' s b os last KL := by
  obtain ⟨kv, D, es, h1, h2, h3, h4, h5, h6, h7, _, _⟩ := h
  exact ⟨kv, D, es, h1, h2.imp hq, h3, h4, h5.imp hq, h6, h7, hs, hb⟩
set_option maxRecDepth 100000 in
set_option maxHeartbeats 2000000 in
theorem l_made (w : World) : Calls Try.prog 11 #[] w fun e w' => ∃ s b r kv, e = .returned (.tuple #[.pointer (some ⟨s, 0, none⟩), .pointer (some ⟨r, 0, none⟩)]) ∧ StoB w' (fun k => k ≠ s ∧ k ≠ b ∧ k ≠ r) s b [] 0 KL8 ∧ RefS w' (fun k => k ≠ s ∧ k ≠ b ∧ k ≠ r) r kv (.slice none 0 0) 0 KL8 ∧ w.heap.size ≤ s ∧ w.heap.size ≤ b ∧ w.heap.size ≤ r ∧ r ≠ s ∧ r ≠ b ∧ Below w.heap.size w w' := by
  go_enter Try.func11, Try.ntmps11
  go_wp2_with fail
  refine (l_kinds w).mono ?_
  rintro e w1 ⟨v1, rfl, hk1, hb1⟩
  have HB1 := Lib.hid hb1
  have HNW := Lib.hid (s_new (Behind w) v1 KL8 w1 hk1)
  clear hk1 hb1
  go_wp2_with fail
  refine HNW.out.mono ?_
  rintro e w2 ⟨hb2, ⟨_, g, rfl, hs2⟩ | ⟨hno, _⟩⟩
  · have HB2 := Lib.hid (HB1.out.trans (hb2.mono HB1.out.size))
    have HS2 := Lib.hid hs2
    clear hs2 hb2
    go_wp2_with fail
    refine (o_new _ g KL8 w2 HS2.out).mono ?_
    rintro e w3 ⟨rfl, hS3, hb3⟩
    have HS3 := Lib.hid hS3
    have HB3 := Lib.hid (HB2.out.trans (hb3.mono HB2.out.size))
    have hl3 := hS3.lt
    clear hS3 hb3
    go_wp2_with fail
    refine (l_kinds w3).mono ?_
    rintro e w4 ⟨v4, rfl, hk4, hb4⟩
    have HK4 := Lib.hid hk4
    have HS4 := Lib.hid (HS3.out.below hb4)
    have HB4 := Lib.hid (HB3.out.trans (hb4.mono HB3.out.size))
    have hl4 := HS4.out.lt
    have hsz4 := hb4.size
    obtain ⟨_, A4, c4, rfl, _, _⟩ := hk4
    have hon := one_new w4 (.cells #[.slice A4 KL8.length c4, .slice none 0 0, .int .i64 0] 72)
    have HON := Lib.hid hon
    have hw2 := HB2.out.size
    clear hb4 hon
    go_wp2
    go_ret2
    refine ⟨w2.heap.size + 1, w2.heap.size, w4.heap.size, .slice A4 KL8.length c4, rfl, (HS4.out.imp (Q' := fun k => k ≠ w2.heap.size + 1 ∧ k ≠ w2.heap.size ∧ k ≠ w4.heap.size) (fun k hk h => ⟨h.2, h.1, by omega⟩) (by simp) (by simp)).below HON.out, ⟨World.alloc_heap_new w4 _, (HK4.out.imp (Q' := fun k => k ≠ w2.heap.size + 1 ∧ k ≠ w2.heap.size ∧ k ≠ w4.heap.size) (fun k hk h => by unfold Behind at h; exact ⟨by omega, by omega, by omega⟩)).below HON.out, by simp⟩, by omega, by omega, by omega, by omega, by omega, HB4.out.trans (HON.out.mono HB4.out.size)⟩
  · exact absurd KL8_fault hno
end
section
open Go.RowKit Go.Maps

def bA8 : ByteArray := ⟨#[97]⟩
def bB8 : ByteArray := ⟨#[98]⟩
def ky8 : Ky := (bHost, bA8, bB8)
def cell8 : List V := [⟨1, false, 0, ⟨#[]⟩⟩]
theorem k8_ok : kOk ky8 := by unfold kOk; decide +kernel
theorem k8_ins : insR KL8 [] ky8 cell8 = 0 := by decide +kernel
theorem k8_up1 : updR KL8 [⟨ky8, 1, cell8⟩] ky8 1 cell8 = 0 := by decide +kernel
theorem k8_up2 : updR KL8 [⟨ky8, 2, cell8⟩] ky8 1 cell8 = 15 := by decide +kernel
theorem lit_row8 (w : World) (T : TypeId) (g : Nat) (hg : g = w.heap.size) : IsRow (w.alloc (.cells #[.int .i64 1, .bool false, .int .i64 0, .string ⟨#[]⟩] T)) (fun k => k = w.heap.size) (.slice (some ⟨g, 0, none⟩) 1 1) cell8 := by
  subst hg
  refine ⟨by decide, _, 1, rfl, (fun h => by cases h), fun i x hi => ?_⟩
  match i, hi with
  | 0, hi =>
    have e : x = ⟨1, false, 0, ⟨#[]⟩⟩ := by simpa [cell8] using hi.symm
    subst e
    have h := World.alloc_heap_new w (.cells #[.int .i64 1, .bool false, .int .i64 0, .string ⟨#[]⟩] T)
    exact ⟨_, rfl, rfl, cell_of_row _ w.heap.size 0 _ _ _ h, cell_of_row _ w.heap.size 1 _ _ _ h, cell_of_row _ w.heap.size 2 _ _ _ h, cell_of_row _ w.heap.size 3 _ _ _ h⟩
  | i + 1, hi => simp [cell8] at hi

set_option maxRecDepth 100000 in
set_option maxHeartbeats 4000000 in
theorem known8 (w : World) : Calls Try.prog 13 #[] w fun e w' => e = .returned (.bool true) ∧ Below w.heap.size w w' := by
  go_enter Try.func13, Try.ntmps13
  go_wp2_with fail
  refine (l_made w).mono ?_
  rintro e w1 ⟨s, b, r, kv, rfl, hS, hRf, n1, n2, n3, n4, n5, hb1⟩
  have HB1 := Lib.hid hb1
  have hl1 := hS.lt
  have hr1 := (Array.getElem?_eq_some_iff.1 hRf.1).1
  have hon := one_new w1 (.cells #[.int .i64 1, .bool false, .int .i64 0, .string ⟨#[]⟩] 51)
  have hon2 := one_new (w1.alloc (.cells #[.int .i64 1, .bool false, .int .i64 0, .string ⟨#[]⟩] 51)) (.cells #[.string bHost, .string bA8, .string bB8, .int .i64 0, .slice (some ⟨w1.heap.size, 0, none⟩) 1 1] 36)
  have hrow := (lit_row8 w1 51 w1.heap.size rfl).keep (Below.keepQ hon2 _)
  have hxo := alloc2_new w1 (.cells #[.int .i64 1, .bool false, .int .i64 0, .string ⟨#[]⟩] 51) (.cells #[.string bHost, .string bA8, .string bB8, .int .i64 0, .slice (some ⟨w1.heap.size, 0, none⟩) 1 1] 36)
  have hon3 := hon.trans (hon2.mono (by simp))
  have hS2 := (hS.imp (Q' := fun k => k ≠ s ∧ k ≠ b ∧ k ≠ r ∧ k ≠ w1.heap.size + 1) (fun k hk h => ⟨h.1, h.2.1, h.2.2, by omega⟩) (by simp) (by simp)).below hon3
  have hsz2 : ((w1.alloc (.cells #[.int .i64 1, .bool false, .int .i64 0, .string ⟨#[]⟩] 51)).alloc (.cells #[.string bHost, .string bA8, .string bB8, .int .i64 0, .slice (some ⟨w1.heap.size, 0, none⟩) 1 1] 36)).heap.size = w1.heap.size + 2 := by simp
  have HIN := Lib.hid (o_insert _ (fun k => k = w1.heap.size) s b [] 0 KL8 ⟨ky8, 0, .slice (some ⟨w1.heap.size, 0, none⟩) 1 1⟩ cell8 0 _ hS2 (fun k hk => by rw [hsz2] at hk; exact ⟨by omega, by omega, by omega, by omega⟩) hrow (by omega) k8_ok (Nat.zero_le _) (by simp) (by omega) (by omega))
  unfold oV at HIN
  simp only [ky8] at HIN
  have HRW := Lib.hid hrow
  have HXO := Lib.hid hxo
  have HON := Lib.hid hon3
  clear hS hb1 hon hon2 hrow hxo hon3 hS2 hRf
  go_wp2_with fail
  refine HIN.out.mono ?_
  rintro e w2 (⟨h0, -, -⟩ | ⟨-, rfl, hS3, ho3⟩)
  · exact absurd k8_ins h0
  · have hx2 := (ho3.2 (w1.heap.size + 1) (by rw [hsz2]; omega) (by omega) (by omega)).trans HXO.out
    have hr2 := HRW.out.keep (w' := w2) (fun k hk hkl => ho3.2 k hkl (by omega) (by omega))
    have hbw1 := HB1.out.size
    have hb2 : Below w.heap.size w w2 := (HB1.out.trans (HON.out.mono hbw1)).trans (ho3.below n1 n2 (by rw [hsz2]; omega))
    have hs23 := ho3.1.size
    rw [hsz2] at hs23
    obtain ⟨a0, a1, a2, a3, a4⟩ := five_cells hx2
    obtain ⟨f0, f1, f2, f3, f4⟩ := five_thaw hx2
    have hx3 := heap_setCell_same w2 (w1.heap.size + 1) 3 _ _ (.int .i64 1) hx2
    have hfar : ∀ k, k ≠ w1.heap.size + 1 → (w2.setCell ⟨w1.heap.size + 1, 3, none⟩ (.int .i64 1)).heap[k]? = w2.heap[k]? := fun k hk => Below.heap_setCell w2 ⟨w1.heap.size + 1, 3, none⟩ _ k hk
    have hz3 : (w2.setCell ⟨w1.heap.size + 1, 3, none⟩ (.int .i64 1)).heap.size = w2.heap.size := by simp [World.setCell]
    have hS3' := hS3.keep (w' := w2.setCell ⟨w1.heap.size + 1, 3, none⟩ (.int .i64 1)) (fun k hk _ => hfar k hk.2.2.2) (hfar s (by omega)) (hfar b (by omega)) (by rw [hz3]; exact Nat.le_refl _)
    have hr3 := hr2.keep (w' := w2.setCell ⟨w1.heap.size + 1, 3, none⟩ (.int .i64 1)) (fun k hk _ => hfar k (by omega))
    have hb3 : Below w.heap.size w (w2.setCell ⟨w1.heap.size + 1, 3, none⟩ (.int .i64 1)) := hb2.setCell (p := ⟨w1.heap.size + 1, 3, none⟩) (by show w.heap.size ≤ w1.heap.size + 1; omega) _
    have HX3 := Lib.hid hx3
    have HS3 := Lib.hid hS3'
    have HR3 := Lib.hid hr3
    have HB3 := Lib.hid hb3
    have HZ3 := Lib.hid hz3
    clear hx2 hr2 hb2 hS3 ho3 hx3 hS3' hr3 hb3 hfar HRW HXO HON HIN hz3
    go_upto_region 5 with (fail)
    generalize (w2.setCell ⟨w1.heap.size + 1, 3, none⟩ (.int .i64 1)) = w3 at *
    clear a0 a1 a2 a3 a4 f0 f1 f2 f3 f4
    have HUP := Lib.hid (o_update _ (fun k => k = w1.heap.size) s b [⟨ky8, 1, cell8⟩] 1 KL8 ⟨ky8, 1, .slice (some ⟨w1.heap.size, 0, none⟩) 1 1⟩ cell8 0 w3 HS3.out (fun k hk => by rw [HZ3.out] at hk; exact ⟨by omega, by omega, by omega, by omega⟩) HR3.out (by omega) k8_ok (fun x hx => ⟨by simp, _, rfl, rfl⟩) (by simp) (by omega) (by omega))
    unfold oV at HUP
    simp only [ky8] at HUP
    obtain ⟨a0, a1, a2, a3, a4⟩ := five_cells HX3.out
    go_wp2_with fail
    refine HUP.out.mono ?_
    rintro e w4 (⟨h0, -, -⟩ | ⟨-, rfl, hS4, ho4⟩)
    · exact absurd k8_up1 h0
    · have hl3 := (Array.getElem?_eq_some_iff.1 HX3.out).1
      have hx4 := (ho4.2 (w1.heap.size + 1) hl3 (by omega) (by omega)).trans HX3.out
      have hr4 := HR3.out.keep (w' := w4) (fun k hk hkl => ho4.2 k hkl (by omega) (by omega))
      have hb4 : Below w.heap.size w w4 := HB3.out.trans (ho4.below n1 n2 HB3.out.size)
      have HUP2 := Lib.hid (o_update _ (fun k => k = w1.heap.size) s b [⟨ky8, 2, cell8⟩] 2 KL8 ⟨ky8, 1, .slice (some ⟨w1.heap.size, 0, none⟩) 1 1⟩ cell8 0 w4 hS4 (fun k hk => by have h1 := HZ3.out; have h2 := ho4.1.size; exact ⟨by omega, by omega, by omega, by omega⟩) hr4 (by omega) k8_ok (fun x hx => ⟨by simp, _, rfl, rfl⟩) (by simp) (by omega) (by omega))
      unfold oV at HUP2
      simp only [ky8] at HUP2
      obtain ⟨b0, b1, b2, b3, b4⟩ := five_cells hx4
      have HS4 := Lib.hid hS4
      have HB4 := Lib.hid hb4
      clear a0 a1 a2 a3 a4 HX3 HR3 HB3 HS3 hx4 hr4 hb4 hS4 ho4 HUP
      go_wp2_with fail
      refine HUP2.out.mono ?_
      rintro e w5 (⟨-, rfl, hb5⟩ | ⟨h0, -, -⟩)
      · have hu2 : updR KL8 [⟨(bHost, bA8, bB8), 2, cell8⟩] (bHost, bA8, bB8) 1 cell8 = 15 := k8_up2
        rw [hu2]
        have HS5 := Lib.hid (HS4.out.below hb5)
        have HB5 := Lib.hid (HB4.out.trans (hb5.mono HB4.out.size))
        clear hb5 hu2 HUP2
        go_wp2_with fail
        refine (o_new_nil w5).mono ?_
        rintro e w6 ⟨rfl, hb6⟩
        have HS6 := Lib.hid (HS5.out.below hb6)
        have HB6 := Lib.hid (HB5.out.trans (hb6.mono HB5.out.size))
        clear hb6
        have HLN := Lib.hid (o_len _ s b _ _ KL8 w6 HS6.out)
        go_wp2_with fail
        refine HLN.out.mono ?_
        rintro e w7 ⟨rfl, hb7⟩
        have HB7 := Lib.hid (HB6.out.trans (hb7.mono HB6.out.size))
        clear hb7
        go_wp2
        go_ret
        exact ⟨rfl, HB7.out⟩
      · exact absurd h0 (by rw [show updR KL8 [⟨(bHost, bA8, bB8), 2, cell8⟩] (bHost, bA8, bB8) 1 cell8 = 15 from k8_up2]; decide)
end
end Go.Proofs.Ytmiagdmfgebfdaa
