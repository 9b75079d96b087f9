/-
  A number of 64 bits as three words, and the sum of two wholes, word by word, of package safe: as plain whole numbers do, at every input and in every world; nothing that was there is changed.
  No condition but that the number has 64 bits.
-/
import Derived.Test.YtdlimephkjihbaaVal
import Derived.Test.YtdlimephkjihbaaSwhole
import Derived.Laws.Externs
import Derived.Deep.RegionHeld3
import Derived.Deep.RegionLaw
namespace Go.Proofs.Ytdlimephkjihbaa
open Go.RowKit

theorem add64_call (x y c : Int) (hx : 0 ≤ x) (hy : 0 ≤ y) (hc0 : 0 ≤ c) (hc : c ≤ 1) (w : World) : (callFunc 78 #[.int .u64 x, .int .u64 y, .int .u64 c]).run Try.prog w =
    .ok (.value (.tuple #[.int .u64 ((x + y + c) % 18446744073709551616), .int .u64 ((x + y + c) / 18446744073709551616)])) w := by
  rw [run_callFunc_extern Try.func78 (by kernel_rfl) (by kernel_rfl) (by kernel_rfl) (e := add64Entry) (by kernel_rfl), run_add64 x y c hx hy hc0 hc]
  rfl

theorem wrap_u64 (n : Int) : IntKind.u64.wrap n = n % 18446744073709551616 := by rw [IntKind.wrap_u64]

set_option maxHeartbeats 400000 in
theorem s_wide (n : Int) (w : World) (h0 : -9223372036854775808 ≤ n) (h1 : n ≤ 9223372036854775807) : Calls Try.prog 57 #[.int .i64 n] w fun e w' => e = .returned (.agg #[.int .u64 (w0 n), .int .u64 (w1 n), .int .u64 (w2 n)]) ∧ Below w.heap.size w w' := by
  have e0 : IntKind.u64.wrap n = w0 n := by rw [wrap_u64]; rfl
  have e1 : IntKind.u64.wrap (n / 9223372036854775808) = w1 n := by rw [wrap_u64]; unfold w1; omega
  have e2 : w2 n = w1 n := by unfold w1 w2; omega
  have E := Lib.hid (And.intro e0 (And.intro e1 e2))
  clear e0 e1 e2
  go_enter Try.func57, Try.ntmps57
  go_wp2
  refine bodyPost_ret (v := .agg #[.int .u64 (w0 n), .int .u64 (w1 n), .int .u64 (w2 n)]) ?_ rfl ⟨rfl, one_new _ _⟩
  obtain ⟨e0, e1, e2⟩ := E.out
  simp [results, Try.results57, go_sem, e0, e1, e2]

/-- What stands in the first summand's place, and the carry, behind so many words. -/
def PlusAt (a b : Int) : Nat → Int × Int × Int × Int
  | 0 => (0, w0 a, w1 a, w2 a)
  | 1 => ((w0 a + w0 b) / 18446744073709551616, w0 (a + b), w1 a, w2 a)
  | 2 => ((w1 a + w1 b + (w0 a + w0 b) / 18446744073709551616) / 18446744073709551616, w0 (a + b), w1 (a + b), w2 a)
  | _ => ((w2 a + w2 b + (w1 a + w1 b + (w0 a + w0 b) / 18446744073709551616) / 18446744073709551616) / 18446744073709551616, w0 (a + b), w1 (a + b), w2 (a + b))

/-- The block g holds three words. -/
def Blk (w : World) (g : Nat) (x y z : Int) : Prop := w.heap[g]? = some (.cells #[.int .u64 x, .int .u64 y, .int .u64 z] 36 (0, 0))
theorem Blk.cells {w : World} {g : Nat} {x y z : Int} (h : Blk w g x y z) : w.cell? ⟨g, 0, none⟩ = some (.int .u64 x) ∧ w.cell? ⟨g, 1, none⟩ = some (.int .u64 y) ∧ w.cell? ⟨g, 2, none⟩ = some (.int .u64 z) :=
  ⟨by rw [cell_of_row w g 0 _ _ _ h]; rfl, by rw [cell_of_row w g 1 _ _ _ h]; rfl, by rw [cell_of_row w g 2 _ _ _ h]; rfl⟩
theorem Blk.free {w : World} {g : Nat} {x y z : Int} (h : Blk w g x y z) (i : Nat) : w.frozen? ⟨g, i, none⟩ = false := frozen_of_row w g i _ _ h
theorem Blk.set0 {w : World} {g : Nat} {x y z : Int} (h : Blk w g x y z) (v : Int) : Blk (w.setCell ⟨g, 0, none⟩ (.int .u64 v)) g v y z := heap_setCell_same w g 0 _ _ _ h
theorem Blk.set1 {w : World} {g : Nat} {x y z : Int} (h : Blk w g x y z) (v : Int) : Blk (w.setCell ⟨g, 1, none⟩ (.int .u64 v)) g x v z := heap_setCell_same w g 1 _ _ _ h
theorem Blk.set2 {w : World} {g : Nat} {x y z : Int} (h : Blk w g x y z) (v : Int) : Blk (w.setCell ⟨g, 2, none⟩ (.int .u64 v)) g x y v := heap_setCell_same w g 2 _ _ _ h
theorem Blk.other {w : World} {g : Nat} {x y z : Int} (h : Blk w g x y z) (a : Addr) (v : Value) (ha : g ≠ a.block) : Blk (w.setCell a v) g x y z := by
  unfold Blk
  rw [heap_setCell_other w a g v ha]
  exact h
theorem Blk.lt {w : World} {g : Nat} {x y z : Int} (h : Blk w g x y z) : g < w.heap.size := (Array.getElem?_eq_some_iff.1 h).1
theorem Blk.alloc {w : World} {g : Nat} {x y z : Int} (h : Blk w g x y z) (o : Obj) : Blk (w.alloc o) g x y z := ((one_new w o).block g h.lt).trans h
theorem Blk.new (w : World) (g : Nat) (x y z : Int) (hg : g = w.heap.size) : Blk (w.alloc (.cells #[.int .u64 x, .int .u64 y, .int .u64 z] 36)) g x y z := by
  subst hg
  exact heap_alloc_new w _
theorem Blk.drewN {w : World} {g : Nat} {x y z : Int} (h : Blk w g x y z) (n : Nat) : Blk (w.drewN n) g x y z := h

theorem three_new (w : World) (o p q : Obj) : Below w.heap.size w (((w.alloc o).alloc p).alloc q) := (two_new w o p).alloc (by simp; omega) _

set_option maxHeartbeats 1000000 in
theorem s_plus (a b : Int) (w : World) : Calls Try.prog 56 #[.agg #[.int .u64 (w0 a), .int .u64 (w1 a), .int .u64 (w2 a)], .agg #[.int .u64 (w0 b), .int .u64 (w1 b), .int .u64 (w2 b)]] w
    fun e w' => e = .returned (.agg #[.int .u64 (w0 (a + b)), .int .u64 (w1 (a + b)), .int .u64 (w2 (a + b))]) ∧ Below w.heap.size w w' := by
  go_enter Try.func56, Try.ntmps56
  go_wp2
  go_loopw [5, 7] (fun c i wr => ∃ k : Nat, k ≤ 3 ∧ i = .int .i64 k ∧ c = .int .u64 (PlusAt a b k).1 ∧ Blk wr w.heap.size (PlusAt a b k).2.1 (PlusAt a b k).2.2.1 (PlusAt a b k).2.2.2 ∧ Blk wr (w.heap.size + 1) (w0 b) (w1 b) (w2 b) ∧ Blk wr (w.heap.size + 1 + 1) 0 0 0 ∧ Below w.heap.size w wr) (fun _ i _ => 3 - (intOf i).toNat)
  case atStart =>
    refine ⟨0, Nat.zero_le _, rfl, rfl, ?_, ?_, ?_, three_new _ _ _ _⟩
    · exact (Blk.new w _ _ _ _ rfl |>.alloc _).alloc _
    · exact (Blk.new (w.alloc _) _ _ _ _ (by simp)).alloc _
    · exact Blk.new ((w.alloc _).alloc _) _ _ _ _ (by simp)
  case round =>
    obtain ⟨k, hk, rfl, rfl, hA, hBk, hC, hb⟩ := hrel
    have HA := Lib.hid hA
    have HC := Lib.hid hC
    have HBk := Lib.hid hBk
    have HB := Lib.hid hb
    clear hA hBk hC hb
    obtain ⟨b0, b1, b2⟩ := HBk.out.cells
    obtain ⟨A0, A1⟩ := w0_rng a
    obtain ⟨A2, A3⟩ := w1_rng a
    obtain ⟨A4, A5⟩ := w2_rng a
    obtain ⟨B0, B1⟩ := w0_rng b
    obtain ⟨B2, B3⟩ := w1_rng b
    obtain ⟨B4, B5⟩ := w2_rng b
    rcases (show k = 0 ∨ k = 1 ∨ k = 2 ∨ k = 3 from by omega) with rfl | rfl | rfl | rfl
    · have hadd := fun W => add64_call (w0 a) (w0 b) 0 A0 B0 (by omega) (by omega) W
      simp only [PlusAt] at HA ⊢
      obtain ⟨a0, a1, a2⟩ := HA.out.cells
      have af := HA.out.free 0
      clear A0 A1 A2 A3 A4 A5 B0 B1 B2 B3 B4 B5
      go_wp2
      go_region_law (fail)
      all_goals
        go_wp2
        go_roundw
        case rel => exact ⟨1, by omega, rfl, rfl, by rw [← plus0]; exact HA.out.set0 _, HBk.out.other _ _ (by simp), HC.out.other _ _ (by simp; omega), (HB.out.setCell (by simp) _).drew⟩
        case measure => simp [intOf]
    · have hadd := fun W => add64_call (w1 a) (w1 b) ((w0 a + w0 b) / 18446744073709551616) A2 B2 (by omega) (by omega) W
      simp only [PlusAt] at HA ⊢
      obtain ⟨a0, a1, a2⟩ := HA.out.cells
      have af := HA.out.free 1
      clear A0 A1 A2 A3 A4 A5 B0 B1 B2 B3 B4 B5
      go_wp2
      go_region_law (fail)
      all_goals
        go_wp2
        go_roundw
        case rel => exact ⟨2, by omega, rfl, rfl, by rw [← plus1]; exact HA.out.set1 _, HBk.out.other _ _ (by simp), HC.out.other _ _ (by simp; omega), (HB.out.setCell (by simp) _).drew⟩
        case measure => simp [intOf]
    · have hadd := fun W => add64_call (w2 a) (w2 b) ((w1 a + w1 b + (w0 a + w0 b) / 18446744073709551616) / 18446744073709551616) A4 B4 (by omega) (by omega) W
      simp only [PlusAt] at HA ⊢
      obtain ⟨a0, a1, a2⟩ := HA.out.cells
      have af := HA.out.free 2
      clear A0 A1 A2 A3 A4 A5 B0 B1 B2 B3 B4 B5
      go_wp2
      go_region_law (fail)
      all_goals
        go_wp2
        go_roundw
        case rel => exact ⟨3, by omega, rfl, rfl, by rw [← plus2]; exact HA.out.set2 _, HBk.out.other _ _ (by simp), HC.out.other _ _ (by simp; omega), (HB.out.setCell (by simp) _).drew⟩
        case measure => simp [intOf]
    · obtain ⟨a0, a1, a2⟩ := HA.out.cells
      simp only [PlusAt] at a0 a1 a2
      obtain ⟨c0, c1, c2⟩ := HC.out.cells
      have f0 := HC.out.free 0
      have f1 := HC.out.free 1
      have f2 := HC.out.free 2
      clear A0 A1 A2 A3 A4 A5 B0 B1 B2 B3 B4 B5
      go_wp2
      obtain ⟨r0, r1, r2⟩ := (((HC.out.set0 (w0 (a + b))).set1 (w1 (a + b))).set2 (w2 (a + b))).cells
      refine bodyPost_ret (v := .agg #[.int .u64 (w0 (a + b)), .int .u64 (w1 (a + b)), .int .u64 (w2 (a + b))]) (by simp [results, Try.results56, r0, r1, r2, go_sem]) rfl ⟨rfl, ?_⟩
      exact ((HB.out.setCell (by simp; omega) _).setCell (by simp; omega) _).setCell (by simp; omega) _
end Go.Proofs.Ytdlimephkjihbaa
