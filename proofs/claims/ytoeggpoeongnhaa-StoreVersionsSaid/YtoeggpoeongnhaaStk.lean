/-
  The two kinds that every statement of package store uses; a store of the program and the document's, made of them.
  No condition.
-/
import Derived.Test.YtoeggpoeongnhaaStj
namespace Go.Proofs.Ytoeggpoeongnhaa
open Go.RowKit Go.Maps

def bPod : ByteArray := ⟨#[112, 111, 100]⟩
def bHost : ByteArray := ⟨#[104, 111, 115, 116]⟩
def bImage : ByteArray := ⟨#[105, 109, 97, 103, 101]⟩
def bCpu : ByteArray := ⟨#[99, 112, 117]⟩
def bNode : ByteArray := ⟨#[110, 111, 100, 101]⟩
def bUp : ByteArray := ⟨#[117, 112]⟩
def KL8 : List Sc := [⟨bPod, [⟨bImage, 3, false⟩, ⟨bCpu, 2, false⟩, ⟨bNode, 3, true⟩]⟩, ⟨bHost, [⟨bUp, 1, false⟩]⟩]
theorem KL8_fault : faultR KL8 = 0 := by decide +kernel
theorem lit_cellsQ (w : World) (cs : Array Value) (t : TypeId) (Q : Nat → Prop) (hq : Q w.heap.size) : CellsQ (w.alloc (.cells cs t)) Q (some ⟨w.heap.size, 0, none⟩) cs.toList := by
  intro j u hj
  have ha : (⟨w.heap.size, 0, none⟩ : Addr).add j = ⟨w.heap.size, j, none⟩ := by unfold Addr.add; split <;> simp_all
  refine ⟨_, rfl, by rw [ha]; exact hq, ?_⟩
  rw [ha]
  exact (alloc_new_cells w cs t j).trans (by rw [← Array.getElem?_toList]; exact hj)
theorem podF : flatC [⟨bImage, 3, false⟩, ⟨bCpu, 2, false⟩, ⟨bNode, 3, true⟩] = [.string bImage, .int .i64 3, .bool false, .string bCpu, .int .i64 2, .bool false, .string bNode, .int .i64 3, .bool true] := rfl
theorem hostF : flatC [⟨bUp, 1, false⟩] = [.string bUp, .int .i64 1, .bool false] := rfl
set_option maxRecDepth 100000 in
set_option maxHeartbeats 1000000 in
theorem l_kinds (w : World) : Calls Try.prog 28 #[] w fun r w' => ∃ v, r = .returned v ∧ IsKinds w' (Behind w) v KL8 ∧ Below w.heap.size w w' := by
  go_enter Try.func28, Try.ntmps28
  go_wp2
  go_ret
  have c1 := lit_cellsQ w #[.string bImage, .int .i64 3, .bool false, .string bCpu, .int .i64 2, .bool false, .string bNode, .int .i64 3, .bool true] 117 (Behind w) (Nat.le_refl _)
  have c2 := lit_cellsQ (w.alloc (.cells #[.string bImage, .int .i64 3, .bool false, .string bCpu, .int .i64 2, .bool false, .string bNode, .int .i64 3, .bool true] 117)) #[.string bUp, .int .i64 1, .bool false] 117 (Behind w) (by simp [Behind])
  have c3 := lit_cellsQ ((w.alloc (.cells #[.string bImage, .int .i64 3, .bool false, .string bCpu, .int .i64 2, .bool false, .string bNode, .int .i64 3, .bool true] 117)).alloc (.cells #[.string bUp, .int .i64 1, .bool false] 117)) #[.string bPod, .slice (some ⟨w.heap.size, 0, none⟩) 3 3, .string bHost, .slice (some ⟨w.heap.size + 1, 0, none⟩) 1 1] 52 (Behind w) (by simp [Behind]; omega)
  rw [World.size_alloc] at c2
  rw [World.size_alloc, World.size_alloc] at c3
  have k1 := (c1.keep (Below.keepQ (one_new _ (.cells #[.string bUp, .int .i64 1, .bool false] 117)) _)).keep (Below.keepQ (one_new _ (.cells #[.string bPod, .slice (some ⟨w.heap.size, 0, none⟩) 3 3, .string bHost, .slice (some ⟨w.heap.size + 1, 0, none⟩) 1 1] 52)) _)
  have k2 := c2.keep (Below.keepQ (one_new _ (.cells #[.string bPod, .slice (some ⟨w.heap.size, 0, none⟩) 3 3, .string bHost, .slice (some ⟨w.heap.size + 1, 0, none⟩) 1 1] 52)) _)
  refine ⟨.slice (some ⟨w.heap.size + 1 + 1, 0, none⟩) 2 2, rfl, ⟨by decide, _, 2, rfl, fun h => (by cases h), by decide, [(bPod, .slice (some ⟨w.heap.size, 0, none⟩) 3 3), (bHost, .slice (some ⟨w.heap.size + 1, 0, none⟩) 1 1)], ⟨rfl, ⟨by decide, _, 3, rfl, fun h => (by cases h), by decide, (by rw [podF]; exact k1)⟩, rfl, ⟨by decide, _, 1, rfl, fun h => (by cases h), by decide, (by rw [hostF]; exact k2)⟩, trivial⟩, c3⟩, (one_new w _).trans (((one_new _ _).trans ((one_new _ _).mono (by simp))).mono (by simp))⟩

/-- A store of the program at s, one of the document at r. -/
def RefS (w : World) (Q : Nat → Prop) (r : Nat) (kv lv : Value) (last : Int) (KL : List Sc) : Prop := w.heap[r]? = some (.cells #[kv, lv, .int .i64 last] 93 (0, 0)) ∧ IsKinds w Q kv KL ∧ ¬ Q r
theorem StoB.imp {w : World} {Q Q' : Nat → Prop} {s b : Nat} {os : List Ob} {last : Int} {KL : List Sc} (h : StoB w Q s b os last KL) (hq : ∀ k, k < w.heap.size → Q k → Q' k) (hs : ¬ Q' s) (hb : ¬ Q' b) : StoB w Q' s b os last KL := by
  obtain ⟨kv, D, es, h1, h2, h3, h4, h5, h6, h7, _, _⟩ := h
  exact ⟨kv, D, es, h1, h2.imp hq, h3, h4, h5.imp hq, h6, h7, hs, hb⟩
set_option maxRecDepth 100000 in
set_option maxHeartbeats 2000000 in
theorem l_made (w : World) : Calls Try.prog 11 #[] w fun e w' => ∃ s b r kv, e = .returned (.tuple #[.pointer (some ⟨s, 0, none⟩), .pointer (some ⟨r, 0, none⟩)]) ∧ StoB w' (fun k => k ≠ s ∧ k ≠ b ∧ k ≠ r) s b [] 0 KL8 ∧ RefS w' (fun k => k ≠ s ∧ k ≠ b ∧ k ≠ r) r kv (.slice none 0 0) 0 KL8 ∧ w.heap.size ≤ s ∧ w.heap.size ≤ b ∧ w.heap.size ≤ r ∧ r ≠ s ∧ r ≠ b ∧ Below w.heap.size w w' := by
  go_enter Try.func11, Try.ntmps11
  go_wp2_with fail
  refine (l_kinds w).mono ?_
  rintro e w1 ⟨v1, rfl, hk1, hb1⟩
  have HB1 := Lib.hid hb1
  have HNW := Lib.hid (s_new (Behind w) v1 KL8 w1 hk1)
  clear hk1 hb1
  go_wp2_with fail
  refine HNW.out.mono ?_
  rintro e w2 ⟨hb2, ⟨_, g, rfl, hs2⟩ | ⟨hno, _⟩⟩
  · have HB2 := Lib.hid (HB1.out.trans (hb2.mono HB1.out.size))
    have HS2 := Lib.hid hs2
    clear hs2 hb2
    go_wp2_with fail
    refine (o_new _ g KL8 w2 HS2.out).mono ?_
    rintro e w3 ⟨rfl, hS3, hb3⟩
    have HS3 := Lib.hid hS3
    have HB3 := Lib.hid (HB2.out.trans (hb3.mono HB2.out.size))
    have hl3 := hS3.lt
    clear hS3 hb3
    go_wp2_with fail
    refine (l_kinds w3).mono ?_
    rintro e w4 ⟨v4, rfl, hk4, hb4⟩
    have HK4 := Lib.hid hk4
    have HS4 := Lib.hid (HS3.out.below hb4)
    have HB4 := Lib.hid (HB3.out.trans (hb4.mono HB3.out.size))
    have hl4 := HS4.out.lt
    have hsz4 := hb4.size
    obtain ⟨_, A4, c4, rfl, _, _⟩ := hk4
    have hon := one_new w4 (.cells #[.slice A4 KL8.length c4, .slice none 0 0, .int .i64 0] 93)
    have HON := Lib.hid hon
    have hw2 := HB2.out.size
    clear hb4 hon
    go_wp2
    go_ret2
    refine ⟨w2.heap.size + 1, w2.heap.size, w4.heap.size, .slice A4 KL8.length c4, rfl, (HS4.out.imp (Q' := fun k => k ≠ w2.heap.size + 1 ∧ k ≠ w2.heap.size ∧ k ≠ w4.heap.size) (fun k hk h => ⟨h.2, h.1, by omega⟩) (by simp) (by simp)).below HON.out, ⟨World.alloc_heap_new w4 _, (HK4.out.imp (Q' := fun k => k ≠ w2.heap.size + 1 ∧ k ≠ w2.heap.size ∧ k ≠ w4.heap.size) (fun k hk h => by unfold Behind at h; exact ⟨by omega, by omega, by omega⟩)).below HON.out, by simp⟩, by omega, by omega, by omega, by omega, by omega, HB4.out.trans (HON.out.mono HB4.out.size)⟩
  · exact absurd KL8_fault hno
end Go.Proofs.Ytoeggpoeongnhaa
