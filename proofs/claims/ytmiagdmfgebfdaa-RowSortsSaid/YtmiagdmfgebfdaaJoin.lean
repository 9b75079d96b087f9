/-
  Join of package row makes a row of its own that holds the cells of all rows, one behind the other; nothing that was there is changed.
  No condition but that the rows together are no longer than one million.
-/
import Derived.Test.YtmiagdmfgebfdaaRpick
import Derived.Lib.AppendZeros
namespace Go.Proofs.Ytmiagdmfgebfdaa
open Go.RowKit

set_option maxHeartbeats 1000000 in
set_option maxRecDepth 100000 in
theorem grow_nil (n : Nat) (w : World) (hn : n ≤ 1000000) : Calls Try.prog 77 #[.slice none 0 0, .int .i64 n] w (OwnsNew w []) := by
  by_cases h0 : n = 0
  · subst h0
    go_enter Try.func77, Try.ntmps77
    go_wp2
    go_ret
    exact ⟨_, rfl, Own.nil _ _, Below.refl _ _⟩
  · obtain ⟨i, hi, hz, hsize, hby⟩ := info_parts info_V
    have hr : ∀ W : World, ∀ ty : TypeId, (Builtin.append_ #[34, 3] ty #[.slice none 0 0, .int .i64 (n : Int)]).run Try.prog W = .ok (.slice (some ⟨W.heap.size, 0, none⟩) n (grownCap W n 0 51)) (W.drew.alloc (.cells (Builtin.zeroCells (Value.agg #[.int .i64 0, .bool false, .int .i64 0, .string ⟨#[]⟩]).cells n ++ Builtin.zeroCells (Value.agg #[.int .i64 0, .bool false, .int .i64 0, .string ⟨#[]⟩]).cells (grownCap W n 0 51 - n)) 51)) :=
      fun W ty => Lib.run_append_nil_zeros (P := Try.prog) W 34 3 ty 51 i _ .i64 .i64 Try.underlying34 Try.underlying3 hi hz n (by omega) (by omega) (by omega) (by rw [hby]; omega)
    have HR := Lib.hid hr
    clear hr
    have hpos : 0 < n := by omega
    have hge := grownCap_ge w n 0 51
    have hown : Own (w.drew.alloc (.cells (Builtin.zeroCells (Value.agg #[.int .i64 0, .bool false, .int .i64 0, .string ⟨#[]⟩]).cells n ++ Builtin.zeroCells (Value.agg #[.int .i64 0, .bool false, .int .i64 0, .string ⟨#[]⟩]).cells (grownCap w n 0 51 - n)) 51)) w.heap.size (.slice (some ⟨w.heap.size, 0, none⟩) 0 (grownCap w n 0 51)) [] :=
      World.ownsRow_made w.drew _ _ (Nat.le_refl _) (grownCap_le_maxLen _ _ _ _ (by unfold maxLen; omega)) (by
        rw [Array.size_append, size_zeroCells, size_zeroCells]
        show n * 4 + _ * 4 = _
        omega)
    have HO := Lib.hid hown
    clear hown hge h0
    go_enter Try.func77, Try.ntmps77
    go_wp2_with (at_builtin; refine Lib.wpList_append_run _ rfl (.tmp 20) (.tmp 21) _ _ rfl _ _ rfl rfl _ _ (HR.out _ _) ?_)
    go_ret
    exact ⟨_, rfl, HO.out, (below_drew _ _).alloc (Nat.le_refl _) _⟩

/-- A row that came in: where it lies, its room, its cells. -/
structure Rw where
  A : Option Addr
  c : Nat
  xs : List V

/-- The list of rows rs lies at L, all below block B. -/
def RowsAt (w : World) (B : Nat) (L : Option Addr) (rs : List Rw) : Prop :=
  ∀ (i : Nat) (r : Rw), rs[i]? = some r → ∃ a : Addr, L = some a ∧ (a.add i).block < B ∧ w.cell? (a.add i) = some (.slice r.A r.xs.length r.c) ∧ RowAt w B r.A r.xs ∧ (r.A = none → r.c = 0)
theorem RowsAt.below {w w' : World} {B : Nat} {L : Option Addr} {rs : List Rw} (h : RowsAt w B L rs) (hb : Below B w w') : RowsAt w' B L rs := by
  intro i r hi
  obtain ⟨a, ha, hlt, hc, hr, hn⟩ := h i r hi
  exact ⟨a, ha, hlt, (hb.cell hlt).trans hc, hr.below hb, hn⟩

/-- How many cells rows have together. -/
def sumL (rs : List Rw) : Nat := (rs.map fun r => r.xs.length).sum
/-- The cells of rows, one behind the other. -/
def catL (rs : List Rw) : List V := rs.flatMap (·.xs)
theorem sumL_take (rs : List Rw) (k : Nat) (r : Rw) (h : rs[k]? = some r) : sumL (rs.take (k + 1)) = sumL (rs.take k) + r.xs.length := by
  unfold sumL
  rw [List.take_add_one, h]
  simp
theorem catL_take (rs : List Rw) (k : Nat) (r : Rw) (h : rs[k]? = some r) : catL (rs.take (k + 1)) = catL (rs.take k) ++ r.xs := by
  unfold catL
  rw [List.take_add_one, h]
  simp
theorem catL_len : ∀ (rs : List Rw), (catL rs).length = sumL rs
  | [] => rfl
  | r :: rs => by
    have ih := catL_len rs
    unfold catL sumL at *
    simp [ih]
theorem sumL_le (rs : List Rw) (k : Nat) : sumL (rs.take k) ≤ sumL rs := by
  have h := congrArg sumL (List.take_append_drop k rs)
  unfold sumL at h ⊢
  rw [List.map_append, List.sum_append] at h
  omega

set_option maxHeartbeats 1000000 in
theorem concat_V (L : Option Addr) (rs : List Rw) (m c : Nat) (w : World) (hm : m = rs.length) (hml : m ≤ maxLen) (hl : sumL rs ≤ 1000000) (hx : RowsAt w w.heap.size L rs) :
    Calls Try.prog 58 #[.slice L m c] w (OwnsNew w (catL rs)) := by
  unfold maxLen at hml
  have HX := Lib.hid hx
  have HM := Lib.hid hm
  clear hx hm
  go_enter Try.func58, Try.ntmps58
  go_wp2
  go_loop [3, 11] (fun s i => ∃ k : Nat, k ≤ m ∧ i = .int .i64 k ∧ s = .int .i64 (sumL (rs.take k))) (fun _ i => m - (intOf i).toNat)
  case atStart => exact ⟨0, Nat.zero_le _, rfl, rfl⟩
  case round =>
    obtain ⟨k, hk, rfl, rfl⟩ := hrel
    by_cases h1 : k < m
    · obtain ⟨r, hr⟩ : ∃ r, rs[k]? = some r := ⟨_, List.getElem?_eq_getElem (by rw [← HM.out]; exact h1)⟩
      obtain ⟨a, rfl, _, hc, _, _⟩ := HX.out k r hr
      have HS := Lib.hid (sumL_take rs k r hr)
      have hle := sumL_le rs (k + 1)
      have h9 : sumL (rs.take k) + r.xs.length ≤ 1000000 := by rw [← HS.out]; omega
      clear hr hle
      go_wp2
      go_round
      case rel => exact ⟨k + 1, by omega, by go_num, by rw [HS.out]; go_num⟩
      case measure => simp [intOf]; omega
    · obtain rfl : k = m := by omega
      have ht : sumL (rs.take k) = sumL rs := by rw [List.take_of_length_le (by rw [← HM.out]; omega)]
      have HT := Lib.hid ht
      clear ht
      have h9 : sumL (rs.take k) ≤ 1000000 := by rw [HT.out]; exact hl
      go_wp2_with (go_at_call 77; refine (grow_nil _ _ h9).mono ?_; rintro e w0 ⟨v0, rfl, hown0, hb0⟩)
      have HO := Lib.hid hown0
      have HB := Lib.hid hb0
      clear hown0 hb0
      go_loopw [6, 27] (fun v i wr => ∃ j : Nat, j ≤ k ∧ i = .int .i64 j ∧ Own wr w.heap.size v (catL (rs.take j)) ∧ Below w.heap.size w wr) (fun _ i _ => k - (intOf i).toNat)
      case atStart => exact ⟨0, Nat.zero_le _, rfl, HO.out, HB.out⟩
      case round =>
        obtain ⟨j, hj, rfl, hown, hb⟩ := hrel
        have HO := Lib.hid hown
        have HB := Lib.hid hb
        have hsz : w.heap.size ≤ wr.heap.size := hb.size
        clear hown hb
        by_cases h2 : j < k
        · obtain ⟨r, hr⟩ : ∃ r, rs[j]? = some r := ⟨_, List.getElem?_eq_getElem (by rw [← HM.out]; exact h2)⟩
          obtain ⟨a, rfl, _, hc, hrow, _⟩ := (HX.out.below HB.out) j r hr
          have HS := Lib.hid (sumL_take rs j r hr)
          have HK := Lib.hid (catL_take rs j r hr)
          have HW := Lib.hid hrow
          have hle := sumL_le rs (j + 1)
          have h8 : (catL (rs.take j)).length + r.xs.length ≤ 1000000 := by rw [catL_len, ← HS.out]; omega
          clear hr hle hrow
          go_wp2_with (at_builtin; go_must (refine wp_append_V _ rfl (.tmp 31) (.tmp 32) rfl w.heap.size _ (catL (rs.take j)) r.xs rfl HO.out _ _ _ _ rfl rfl HW.out (by omega) hsz ?_; intro v' w1 hown1 hb1 _))
          have HO1 := Lib.hid hown1
          have HB1 := Lib.hid hb1
          clear hown1 hb1
          go_wp2
          go_roundw
          case rel => exact ⟨j + 1, by omega, by go_num, by rw [HK.out]; exact HO1.out, HB.out.trans HB1.out⟩
          case measure => simp [intOf]; omega
        · go_wp2
          go_ret
          refine ⟨_, rfl, ?_, HB.out⟩
          have h := HO.out
          rwa [List.take_of_length_le (by rw [← HM.out]; omega)] at h

set_option maxHeartbeats 400000 in
theorem row_join (L : Option Addr) (rs : List Rw) (m c : Nat) (w : World) (hm : m = rs.length) (hml : m ≤ maxLen) (hl : sumL rs ≤ 1000000) (hx : RowsAt w w.heap.size L rs) :
    Calls Try.prog 30 #[.slice L m c] w (OwnsNew w (catL rs)) := by
  have HF := Lib.hid (concat_V L rs m c w hm hml hl hx)
  clear hx hm hml hl
  go_enter Try.func30, Try.ntmps30
  go_wp2_with fail
  refine HF.out.mono ?_
  rintro e w' ⟨v, rfl, ho, hb⟩
  go_wp2
  go_ret
  exact ⟨v, rfl, ho, hb⟩
end Go.Proofs.Ytmiagdmfgebfdaa
