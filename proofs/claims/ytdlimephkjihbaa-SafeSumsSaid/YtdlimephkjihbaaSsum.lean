/-
  Put, Value and Sign of a Sum of package safe, and Add, Sub and Mul, answer as plain whole numbers do; Put writes the Sum's own three words and nothing else that was there.
  At every whole number of less than 192 bits, in every world.
-/
import Derived.Test.YtdlimephkjihbaaSprod
import Derived.Deep.RegionWith
namespace Go.Proofs.Ytdlimephkjihbaa
open Go.RowKit

/-- The block g is a Sum that stands at z. -/
def SumAt (w : World) (g : Nat) (z : Int) : Prop := w.heap[g]? = some (.cells #[.int .u64 (w0 z), .int .u64 (w1 z), .int .u64 (w2 z)] 38 (0, 0))
theorem SumAt.cells {w : World} {g : Nat} {z : Int} (h : SumAt w g z) : w.cell? ⟨g, 0, none⟩ = some (.int .u64 (w0 z)) ∧ w.cell? ⟨g, 1, none⟩ = some (.int .u64 (w1 z)) ∧ w.cell? ⟨g, 2, none⟩ = some (.int .u64 (w2 z)) :=
  ⟨by rw [cell_of_row w g 0 _ _ _ h]; rfl, by rw [cell_of_row w g 1 _ _ _ h]; rfl, by rw [cell_of_row w g 2 _ _ _ h]; rfl⟩
theorem SumAt.free {w : World} {g : Nat} {z : Int} (h : SumAt w g z) (i : Nat) : w.frozen? ⟨g, i, none⟩ = false := frozen_of_row w g i _ _ h
theorem SumAt.lt {w : World} {g : Nat} {z : Int} (h : SumAt w g z) : g < w.heap.size := (Array.getElem?_eq_some_iff.1 h).1
theorem SumAt.below {w w' : World} {g B : Nat} {z : Int} (h : SumAt w g z) (hb : Below B w w') (hg : g < B) : SumAt w' g z := (hb.block g hg).trans h
theorem SumAt.put {w : World} {g : Nat} {z : Int} (h : SumAt w g z) (y : Int) : SumAt (((w.setCell ⟨g, 0, none⟩ (.int .u64 (w0 y))).setCell ⟨g, 1, none⟩ (.int .u64 (w1 y))).setCell ⟨g, 2, none⟩ (.int .u64 (w2 y))) g y := by
  unfold SumAt at h ⊢
  have h1 := heap_setCell_same w g 0 _ _ (.int .u64 (w0 y)) h
  have h2 := heap_setCell_same _ g 1 _ _ (.int .u64 (w1 y)) h1
  exact heap_setCell_same _ g 2 _ _ (.int .u64 (w2 y)) h2
theorem SumAt.other {w : World} {g : Nat} {z : Int} (h : SumAt w g z) (a : Addr) (v : Value) (ha : g ≠ a.block) : SumAt (w.setCell a v) g z := by
  unfold SumAt
  rw [heap_setCell_other w a g v ha]
  exact h
theorem SumAt.drewN {w : World} {g : Nat} {z : Int} (h : SumAt w g z) (n : Nat) : SumAt (w.drewN n) g z := h
theorem SumAt.new (w : World) (g : Nat) (hg : g = w.heap.size) : SumAt (w.alloc (.cells #[.int .u64 0, .int .u64 0, .int .u64 0] 38)) g 0 := by
  subst hg
  exact heap_alloc_new w _

set_option maxHeartbeats 1000000 in
theorem s_value (g : Nat) (z : Int) (hz : Near z) (w : World) (hs : SumAt w g z) : Calls Try.prog 27 #[.pointer (some ⟨g, 0, none⟩)] w
    fun e w' => e = .returned (.tuple #[.int .i64 (fitV z), .int .i64 (fitE z)]) ∧ Below w.heap.size w w' := by
  obtain ⟨c0, c1, c2⟩ := hs.cells
  have HF := Lib.hid (fun W => s_fit z hz W)
  clear hs hz
  go_enter Try.func27, Try.ntmps27
  go_wp2_with fail
  refine (HF.out _).mono ?_
  rintro e w1 ⟨rfl, hb1⟩
  go_wp2
  go_ret2
  exact ⟨rfl, hb1⟩

theorem s_value_nil (w : World) : Calls Try.prog 27 #[.pointer none] w
    fun e w' => e = .returned (.tuple #[.int .i64 0, .int .i64 1]) ∧ Below w.heap.size w w' := by
  go_enter Try.func27, Try.ntmps27
  go_wp2
  go_ret2
  exact ⟨rfl, Below.refl _ _⟩

theorem s_put_nil (n t : Int) (w : World) : Calls Try.prog 24 #[.pointer none, .int .i64 n, .int .i64 t] w
    fun e w' => e = .returned (.int .i64 1) ∧ Below w.heap.size w w' := by
  go_enter Try.func24, Try.ntmps24
  go_wp2
  go_ret
  exact ⟨rfl, Below.refl _ _⟩

theorem s_sign_nil (w : World) : Calls Try.prog 29 #[.pointer none] w
    fun e w' => e = .returned (.int .i64 0) ∧ Below w.heap.size w w' := by
  go_enter Try.func29, Try.ntmps29
  go_wp2
  go_ret
  exact ⟨rfl, Below.refl _ _⟩

/-- Are so many times too many, or too few? -/
def many (t : Int) : Bool := decide (t < -1073741824) || decide (1073741824 < t)

theorem s_put_arg (g : Nat) (n t : Int) (h : many t = true) (w : World) : Calls Try.prog 24 #[.pointer (some ⟨g, 0, none⟩), .int .i64 n, .int .i64 t] w
    fun e w' => e = .returned (.int .i64 2) ∧ Below w.heap.size w w' := by
  unfold many at h
  simp only [Bool.or_eq_true, decide_eq_true_eq] at h
  by_cases h1 : t < -1073741824
  · clear h
    go_enter Try.func24, Try.ntmps24
    go_wp2
    go_ret
    exact ⟨rfl, Below.refl _ _⟩
  · have h2 : 1073741824 < t := by omega
    have h3 : ¬ t ≤ -1073741825 := by omega
    clear h
    go_enter Try.func24, Try.ntmps24
    go_wp2
    go_ret
    exact ⟨rfl, Below.refl _ _⟩

/-- -1, 0, 1: is a number below, at, above 0? -/
def sgnV (z : Int) : Int := if z = 0 then 0 else if z < 0 then -1 else 1

section
attribute [local go_sem high] equal_whole

set_option maxHeartbeats 1000000 in
theorem s_sign (g : Nat) (z : Int) (hz : Near z) (w : World) (hs : SumAt w g z) : Calls Try.prog 29 #[.pointer (some ⟨g, 0, none⟩)] w
    fun e w' => e = .returned (.int .i64 (sgnV z)) ∧ Below w.heap.size w w' := by
  obtain ⟨c0, c1, c2⟩ := hs.cells
  have q0 := zero_same z hz
  have q1 := neg_same z hz
  have q2 := wrap_sgn (w2 z) (w2_rng z).1 (w2_rng z).2
  rw [← q2] at q1
  clear hs hz q2
  by_cases h0 : z = 0
  · subst h0
    clear q0 q1
    go_enter Try.func29, Try.ntmps29
    go_wp2
    go_ret
    exact ⟨rfl, Below.refl _ _⟩
  · have hb : (w0 z == 0 && w1 z == 0 && w2 z == 0) = false := by
      rw [Bool.eq_false_iff]
      intro h
      simp only [Bool.and_eq_true, beq_iff_eq] at h
      exact h0 (q0.1 ⟨h.1.1, h.1.2, h.2⟩)
    by_cases h1 : z < 0
    · have h2 := q1.2 h1
      have E : sgnV z = -1 := by unfold sgnV; rw [if_neg h0, if_pos h1]
      rw [E]
      clear q0 q1 h0 h1 E
      go_enter Try.func29, Try.ntmps29
      go_wp2
      go_ret
      exact ⟨rfl, Below.refl _ _⟩
    · have h2 : ¬ wrap64 (w2 z) < 0 := fun h => h1 (q1.1 h)
      have E : sgnV z = 1 := by unfold sgnV; rw [if_neg h0, if_neg h1]
      rw [E]
      clear q0 q1 h0 h1 E
      go_enter Try.func29, Try.ntmps29
      go_wp2
      go_ret
      exact ⟨rfl, Below.refl _ _⟩
end

/-- A call that puts: the Sum stands at y behind it, and nothing else that was there has changed. -/
def Puts (w : World) (g : Nat) (y : Int) (e : Ending) (w' : World) : Prop :=
  e = .returned (.int .i64 0) ∧ SumAt w' g y ∧ (∀ B, B ≤ g → Below B w w') ∧ (∀ k, k < w.heap.size → k ≠ g → w'.heap[k]? = w.heap[k]?)

theorem puts_end {w wa wb : World} {g : Nat} {z y : Int} (hg : g < w.heap.size) (h1 : Below w.heap.size w wa) (h2 : Below wa.heap.size wa wb) (h : SumAt wb g z) :
    Puts w g y (.returned (.int .i64 0)) (((wb.setCell ⟨g, 0, none⟩ (.int .u64 (w0 y))).setCell ⟨g, 1, none⟩ (.int .u64 (w1 y))).setCell ⟨g, 2, none⟩ (.int .u64 (w2 y))) := by
  refine ⟨rfl, h.put y, fun B hB => ?_, fun k hk hne => ?_⟩
  · have h3 : Below B w wb := (h1.mono (by omega)).trans (h2.mono (by have := h1.size; omega))
    exact ((h3.setCell hB _).setCell hB _).setCell hB _
  · rw [heap_setCell_other _ _ k _ hne, heap_setCell_other _ _ k _ hne, heap_setCell_other _ _ k _ hne, h2.block k (by have := h1.size; omega), h1.block k hk]

/-- What a call leaves of a Sum's cells that it does not reach. -/
theorem SumAt.kept {w w' : World} {g : Nat} {z : Int} (h : SumAt w g z) (hb : Below w.heap.size w w') : SumAt w' g z ∧ w'.cell? ⟨g, 0, none⟩ = some (.int .u64 (w0 z)) ∧ w'.cell? ⟨g, 1, none⟩ = some (.int .u64 (w1 z)) ∧ w'.cell? ⟨g, 2, none⟩ = some (.int .u64 (w2 z)) ∧
    w'.frozen? ⟨g, 0, none⟩ = false ∧ w'.frozen? ⟨g, 1, none⟩ = false ∧ w'.frozen? ⟨g, 2, none⟩ = false := by
  have h' := h.below hb h.lt
  obtain ⟨c0, c1, c2⟩ := h'.cells
  exact ⟨h', c0, c1, c2, h'.free 0, h'.free 1, h'.free 2⟩

set_option maxHeartbeats 1000000 in
theorem s_put (g : Nat) (z n t : Int) (hn : N64 n) (ht : many t = false) (w : World) (hs : SumAt w g z) : Calls Try.prog 24 #[.pointer (some ⟨g, 0, none⟩), .int .i64 n, .int .i64 t] w (Puts w g (z + n * t)) := by
  obtain ⟨c0, c1, c2⟩ := hs.cells
  unfold many at ht
  simp only [Bool.or_eq_false_iff, decide_eq_false_iff_not] at ht
  obtain ⟨h1, h2⟩ := ht
  have HN := Lib.hid hn
  have HT : Hid (N64 t) := Lib.hid (by unfold N64; omega)
  have HS := Lib.hid hs
  have hlt := hs.lt
  clear hs hn
  go_enter Try.func24, Try.ntmps24
  go_wp2
  go_region_with (first
    | (go_at_call 59; refine (s_product n t HN.out HT.out _).mono ?_; rintro e wa ⟨rfl, hb1⟩; obtain ⟨ha, a0, a1, a2, f0, f1, f2⟩ := SumAt.kept (HS.out.drewN 1) hb1; have HA := Lib.hid ha; clear ha)
    | (go_at_call 56; refine (s_plus z (n * t) _).mono ?_; rintro e wb ⟨rfl, hb2⟩; obtain ⟨hb, b0, b1, b2, g0, g1, g2⟩ := SumAt.kept HA.out hb2; have HB := Lib.hid hb; clear hb))
  all_goals go_wp2
  all_goals go_ret
  all_goals exact puts_end hlt (((Below.refl w.heap.size w).drew).trans hb1) hb2 HB.out

theorem near_add (a b : Int) (ha : N64 a) (hb : N64 b) : Near (a + b) := by
  unfold Near
  obtain ⟨a0, a1⟩ := ha
  obtain ⟨b0, b1⟩ := hb
  constructor <;> omega
theorem near_sub (a b : Int) (ha : N64 a) (hb : N64 b) : Near (a + b * -1) := by
  unfold Near
  obtain ⟨a0, a1⟩ := ha
  obtain ⟨b0, b1⟩ := hb
  constructor <;> omega
theorem near_mul (a b : Int) (ha : N64 a) (hb : N64 b) : Near (a * b) := by
  unfold Near
  have := mul_bound a b ha.1 ha.2 hb.1 hb.2
  constructor <;> omega

set_option maxHeartbeats 1000000 in
theorem s_add (a b : Int) (ha : N64 a) (hb : N64 b) (w : World) : Calls Try.prog 17 #[.int .i64 a, .int .i64 b] w
    fun e w' => e = .returned (.tuple #[.int .i64 (fitV (a + b)), .int .i64 (fitE (a + b))]) ∧ Below w.heap.size w w' := by
  have HA := Lib.hid (fun W => s_wide a W ha.1 ha.2)
  have HB := Lib.hid (fun W => s_wide b W hb.1 hb.2)
  have HF := Lib.hid (fun W => s_fit (a + b) (near_add a b ha hb) W)
  clear ha hb
  go_enter Try.func17, Try.ntmps17
  go_wp2_with fail
  refine (HA.out _).mono ?_
  rintro e w1 ⟨rfl, hb1⟩
  go_wp2_with fail
  refine (HB.out _).mono ?_
  rintro e w2 ⟨rfl, hb2⟩
  have HB2 := Lib.hid (hb1.trans (hb2.mono hb1.size))
  clear hb1 hb2
  go_wp2_with fail
  refine (s_plus a b _).mono ?_
  rintro e w3 ⟨rfl, hb3⟩
  have HB3 := Lib.hid (HB2.out.trans (hb3.mono HB2.out.size))
  clear hb3
  go_wp2_with fail
  refine (HF.out _).mono ?_
  rintro e w4 ⟨rfl, hb4⟩
  go_wp2
  go_ret2
  exact ⟨rfl, HB3.out.trans (hb4.mono HB3.out.size)⟩

set_option maxHeartbeats 1000000 in
theorem s_sub (a b : Int) (ha : N64 a) (hb : N64 b) (w : World) (c : Int) (hc : b * -1 = c) : Calls Try.prog 19 #[.int .i64 a, .int .i64 b] w
    fun e w' => e = .returned (.tuple #[.int .i64 (fitV (a + c)), .int .i64 (fitE (a + c))]) ∧ Below w.heap.size w w' := by
  have HA := Lib.hid (fun W => s_wide a W ha.1 ha.2)
  have hprod := fun W => s_product b (-1) hb (by unfold N64; omega) W
  have hnear := near_sub a b ha hb
  rw [hc] at hprod hnear
  have HB := Lib.hid hprod
  have HF := Lib.hid (fun W => s_fit (a + c) hnear W)
  clear ha hb hc hprod hnear
  go_enter Try.func19, Try.ntmps19
  go_wp2_with fail
  refine (HA.out _).mono ?_
  rintro e w1 ⟨rfl, hb1⟩
  go_wp2_with fail
  refine (HB.out _).mono ?_
  rintro e w2 ⟨rfl, hb2⟩
  have HB2 := Lib.hid (hb1.trans (hb2.mono hb1.size))
  clear hb1 hb2
  go_wp2_with fail
  refine (s_plus a c _).mono ?_
  rintro e w3 ⟨rfl, hb3⟩
  have HB3 := Lib.hid (HB2.out.trans (hb3.mono HB2.out.size))
  clear hb3
  go_wp2_with fail
  refine (HF.out _).mono ?_
  rintro e w4 ⟨rfl, hb4⟩
  go_wp2
  go_ret2
  exact ⟨rfl, HB3.out.trans (hb4.mono HB3.out.size)⟩

set_option maxHeartbeats 1000000 in
theorem s_mul (a b : Int) (ha : N64 a) (hb : N64 b) (w : World) : Calls Try.prog 21 #[.int .i64 a, .int .i64 b] w
    fun e w' => e = .returned (.tuple #[.int .i64 (fitV (a * b)), .int .i64 (fitE (a * b))]) ∧ Below w.heap.size w w' := by
  have HB := Lib.hid (fun W => s_product a b ha hb W)
  have HF := Lib.hid (fun W => s_fit (a * b) (near_mul a b ha hb) W)
  clear ha hb
  go_enter Try.func21, Try.ntmps21
  go_wp2_with fail
  refine (HB.out _).mono ?_
  rintro e w1 ⟨rfl, hb1⟩
  have HB1 := Lib.hid hb1
  clear hb1
  go_wp2_with fail
  refine (HF.out _).mono ?_
  rintro e w4 ⟨rfl, hb4⟩
  go_wp2
  go_ret2
  exact ⟨rfl, HB1.out.trans (hb4.mono HB1.out.size)⟩
end Go.Proofs.Ytdlimephkjihbaa
