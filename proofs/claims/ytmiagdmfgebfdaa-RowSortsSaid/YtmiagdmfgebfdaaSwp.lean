/-
  A row of places in memory, as a function of its index; slices.swapRangeCmpFunc at []int changes two ranges of one row for each other and writes nothing else.
  At every row of fewer than 2^40 places; the ranges lie apart and within the row.
-/
import Derived.Test.YtmiagdmfgebfdaaMerge
import Derived.Test.YtmiagdmfgebfdaaOwn
import Derived.RegionTactic
import Derived.BigRegion
namespace Go.Proofs.Ytmiagdmfgebfdaa
open Go.RowKit

/-- The block g holds the n places f 0, f 1, ... -/
def PAt (w : World) (g n : Nat) (f : Nat → Nat) : Prop := w.heap[g]? = some (.cells ((List.range n).map (fun i => Value.int .i64 (f i : Nat))).toArray 3 (0, 0))
theorem PAt.lt {w : World} {g n : Nat} {f : Nat → Nat} (h : PAt w g n f) : g < w.heap.size := (Array.getElem?_eq_some_iff.1 h).1
theorem PAt.below {w w' : World} {g n B : Nat} {f : Nat → Nat} (h : PAt w g n f) (hb : Below B w w') (hg : g < B) : PAt w' g n f := (hb.block g hg).trans h
theorem PAt.drewN {w : World} {g n : Nat} {f : Nat → Nat} (h : PAt w g n f) (k : Nat) : PAt (w.drewN k) g n f := h
theorem PAt.cell {w : World} {g n : Nat} {f : Nat → Nat} (h : PAt w g n f) (i : Nat) (hi : i < n) : w.cell? { block := g, off := i } = some (.int .i64 (f i : Nat)) := by
  rw [cell_of_row w g i _ _ _ h, ← Array.getElem?_toList]
  show ((List.range n).map (fun i => Value.int .i64 (f i : Nat)))[i]? = _
  rw [List.getElem?_map, List.getElem?_range hi]
  rfl
theorem PAt.free {w : World} {g n : Nat} {f : Nat → Nat} (h : PAt w g n f) (i : Nat) : w.frozen? { block := g, off := i } = false := frozen_of_row w g i _ _ h
def upd (f : Nat → Nat) (i v : Nat) : Nat → Nat := fun j => if j = i then v else f j
theorem PAt.set {w : World} {g n : Nat} {f : Nat → Nat} (h : PAt w g n f) (i v : Nat) : PAt (w.setCell { block := g, off := i } (.int .i64 (v : Int))) g n (upd f i v) := by
  have h1 := heap_setCell_same w g i _ _ (.int .i64 (v : Int)) h
  unfold PAt
  rw [h1]
  congr 2
  rw [← Array.toList_inj]
  simp only [Array.toList_setIfInBounds]
  apply List.ext_getElem
  · simp
  · intro j h2 h3
    rw [List.getElem_set]
    simp only [List.getElem_map, List.getElem_range]
    unfold upd
    by_cases e : i = j
    · rw [if_pos e, if_pos e.symm]
    · rw [if_neg e, if_neg (fun h => e h.symm)]
theorem PAt.same {w : World} {g n : Nat} {f f' : Nat → Nat} (h : PAt w g n f) (e : f = f') : PAt w g n f' := by
  rw [← e]
  exact h

/-- Two ranges of k places change for each other. -/
def swp (f : Nat → Nat) (a b k : Nat) : Nat → Nat := fun i => if a ≤ i ∧ i < a + k then f (b + (i - a)) else if b ≤ i ∧ i < b + k then f (a + (i - b)) else f i
theorem swp_zero (f : Nat → Nat) (a b : Nat) : swp f a b 0 = f := by
  funext i
  unfold swp
  rw [if_neg (by omega), if_neg (by omega)]
theorem swp_at_a (f : Nat → Nat) (a b k : Nat) (h : a + k < b) : swp f a b k (a + k) = f (a + k) := by
  unfold swp
  rw [if_neg (by omega), if_neg (by omega)]
theorem swp_at_b (f : Nat → Nat) (a b k : Nat) (h : a + k < b) : swp f a b k (b + k) = f (b + k) := by
  unfold swp
  rw [if_neg (by omega), if_neg (by omega)]
theorem swp_step (f : Nat → Nat) (a b k : Nat) (h : a + k < b) : upd (upd (swp f a b k) (a + k) (f (b + k))) (b + k) (f (a + k)) = swp f a b (k + 1) := by
  funext i
  unfold upd swp
  by_cases h1 : i = b + k
  · rw [if_pos h1, if_neg (by omega), if_pos (by omega)]
    congr 1
    omega
  · rw [if_neg h1]
    by_cases h2 : i = a + k
    · rw [if_pos h2, if_pos (by omega)]
      congr 1
      omega
    · rw [if_neg h2]
      by_cases h3 : a ≤ i ∧ i < a + k
      · rw [if_pos h3, if_pos (by omega)]
      · rw [if_neg h3, if_neg (show ¬ (a ≤ i ∧ i < a + (k + 1)) by omega)]
        by_cases h4 : b ≤ i ∧ i < b + k
        · rw [if_pos h4, if_pos (by omega)]
        · rw [if_neg h4, if_neg (by omega)]

/-- Nothing but the block g has changed, and nothing is new. -/
def OnlyAt (w w' : World) (g : Nat) : Prop := (∀ B, B ≤ g → Below B w w') ∧ (∀ k, k ≠ g → w'.heap[k]? = w.heap[k]?) ∧ w'.heap.size = w.heap.size
theorem OnlyAt.refl (w : World) (g : Nat) : OnlyAt w w g := ⟨fun _ _ => Below.refl _ _, fun _ _ => rfl, rfl⟩
theorem OnlyAt.set {w w' : World} {g : Nat} (h : OnlyAt w w' g) (i : Nat) (u : Value) : OnlyAt w (w'.setCell { block := g, off := i } u) g := by
  refine ⟨fun B hB => (h.1 B hB).setCell (p := { block := g, off := i }) hB u, fun k hk => ?_, by simp [h.2.2]⟩
  rw [heap_setCell_other w' { block := g, off := i } k u hk]
  exact h.2.1 k hk
theorem OnlyAt.drew {w w' : World} {g : Nat} (h : OnlyAt w w' g) : OnlyAt w w'.drew g := ⟨fun B hB => (h.1 B hB).drew, h.2.1, h.2.2⟩

set_option maxRecDepth 100000 in
set_option maxHeartbeats 4000000 in
theorem p_swap (g n c a b k : Nat) (f : Nat → Nat) (fn : Value) (w : World) (hab : a + k ≤ b) (hbn : b + k ≤ n) (hn : n < 1099511627776) (h : PAt w g n f) :
    Calls Try.prog 121 #[.slice (some ⟨g, 0, none⟩) n c, .int .i64 a, .int .i64 b, .int .i64 k, fn] w fun e w' => e = .returned (.tuple #[]) ∧ PAt w' g n (swp f a b k) ∧ OnlyAt w w' g := by
  have H := Lib.hid h
  clear h
  go_enter Try.func121, Try.ntmps121
  go_wp2
  go_loopw [10] (fun i wr => ∃ j : Nat, j ≤ k ∧ i = .int .i64 j ∧ PAt wr g n (swp f a b j) ∧ OnlyAt w wr g) (fun i _ => k - (intOf i).toNat)
  case atStart => exact ⟨0, by omega, rfl, by rw [swp_zero]; exact H.out, OnlyAt.refl _ _⟩
  case round =>
    obtain ⟨j, hj, rfl, hp, ho⟩ := hrel
    have HP := Lib.hid hp
    have HO := Lib.hid ho
    clear hp ho
    by_cases hjk : j < k
    · have ca := HP.out.cell (a + j) (by omega)
      have cb := HP.out.cell (b + j) (by omega)
      rw [swp_at_a f a b j (by omega)] at ca
      rw [swp_at_b f a b j (by omega)] at cb
      have fa := HP.out.free (a + j)
      have fb := HP.out.free (b + j)
      obtain ⟨x, hx⟩ : ∃ x, f (a + j) = x := ⟨_, rfl⟩
      obtain ⟨y, hy⟩ : ∃ y, f (b + j) = y := ⟨_, rfl⟩
      rw [hx] at ca
      rw [hy] at cb
      have hS : PAt ((wr.setCell { block := g, off := a + j } (.int .i64 (y : Int))).setCell { block := g, off := b + j } (.int .i64 (x : Int))) g n (swp f a b (j + 1)) := by
        have h1 := (HP.out.set (a + j) y).set (b + j) x
        rw [← hx, ← hy, swp_step f a b j (by omega)] at h1
        rw [← hx, ← hy]
        exact h1
      have HS := Lib.hid hS
      have i1 : IntKind.i64.wrap ((a : Int) + (j : Int)) = (a : Int) + (j : Int) := IntWalk.i64_in _ (by omega)
      have i2 : IntKind.i64.wrap ((b : Int) + (j : Int)) = (b : Int) + (j : Int) := IntWalk.i64_in _ (by omega)
      have i3 : (0 : Int) ≤ (a : Int) + (j : Int) := by omega
      have i4 : (0 : Int) ≤ (b : Int) + (j : Int) := by omega
      have i5 : ((a : Int) + (j : Int)).toNat = a + j := by omega
      have i6 : ((b : Int) + (j : Int)).toNat = b + j := by omega
      have i7 : (a : Int) + (j : Int) < (n : Int) := by omega
      have i8 : (b : Int) + (j : Int) < (n : Int) := by omega
      clear hS hx hy
      go_wp2
      go_region
      all_goals go_wp2
      go_roundw
      case rel => exact ⟨j + 1, by omega, by go_num, HS.out, ((HO.out.set (a + j) _).set (b + j) _).drew⟩
      case measure => simp [intOf]; omega
    · obtain rfl : j = k := by omega
      go_wp2
      go_end0
      exact ⟨rfl, HP.out, HO.out⟩
end Go.Proofs.Ytmiagdmfgebfdaa
