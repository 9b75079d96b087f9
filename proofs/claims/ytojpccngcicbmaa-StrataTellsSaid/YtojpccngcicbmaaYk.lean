/-
  The program's rising: texts of the call's own, in order and each once, in the same list.
  Condition: no more than a thousand texts.
-/
import Derived.Test.YtojpccngcicbmaaYj
import Derived.Sort.OwnSorted
namespace Go.Proofs.Ytojpccngcicbmaa
open Go.RowKit Go.Maps Go.Sort

def srtL (ss : List ByteArray) : List (List UInt8) := (ss.map byL).mergeSort fun x y => decide (x ≤ y)
theorem srtL_len (ss : List ByteArray) : (srtL ss).length = ss.length := by unfold srtL; rw [List.length_mergeSort, List.length_map]
theorem srtL_up (ss : List ByteArray) : ∀ i j, i < j → j < (srtL ss).length → ¬ (srtL ss)[j]! < (srtL ss)[i]! := by
  intro i j hij hj
  have hp : (srtL ss).Pairwise fun a b => decide (a ≤ b) = true := List.pairwise_mergeSort (le := fun x y : List UInt8 => decide (x ≤ y)) (fun (a b c : List UInt8) h1 h2 => decide_eq_true (List.le_trans (of_decide_eq_true h1) (of_decide_eq_true h2))) (fun (a b : List UInt8) => by
    rcases List.le_total a b with h | h
    · rw [decide_eq_true h, Bool.true_or]
    · rw [decide_eq_true h, Bool.or_true]) _
  have := List.pairwise_iff_getElem.1 hp i j (by omega) hj hij
  rw [getElem!_pos _ i (by omega), getElem!_pos _ j hj]
  exact List.not_lt.2 (of_decide_eq_true this)
/-- What rising answers. -/
def riseL (ss : List ByteArray) : List ByteArray := (Lib.compact (srtL ss)).map ofL
theorem riseL_srt (ss : List ByteArray) : SrtS (riseL ss) := by
  unfold riseL SrtS
  rw [List.pairwise_map]
  exact List.Pairwise.imp (fun {a b} h => (lt_by (ofL a) (ofL b)).1 h) (compactUpTo_rise (srtL ss) (srtL_up ss) _ (Nat.le_refl _)).1
theorem riseL_mem (ss : List ByteArray) (y : ByteArray) : y ∈ riseL ss ↔ y ∈ ss := by
  obtain ⟨_, h2, h3⟩ := compactUpTo_rise (srtL ss) (srtL_up ss) _ (Nat.le_refl _)
  have hm : ∀ z, z ∈ srtL ss ↔ z ∈ ss.map byL := fun z => by unfold srtL; rw [List.mem_mergeSort]
  unfold riseL
  constructor
  · intro h
    obtain ⟨z, hz, rfl⟩ := List.mem_map.1 h
    obtain ⟨i, hi, rfl⟩ := h2 z hz
    rw [getElem!_pos _ i hi]
    obtain ⟨s, hs, e⟩ := List.mem_map.1 ((hm _).1 (List.getElem_mem hi))
    rw [← e, of_by]
    exact hs
  · intro h
    have := (hm (byL y)).2 (List.mem_map.2 ⟨y, h, rfl⟩)
    obtain ⟨i, hi, e⟩ := List.getElem_of_mem this
    have h4 := h3 i hi
    rw [getElem!_pos _ i hi, e] at h4
    exact List.mem_map.2 ⟨_, h4, of_by y⟩
theorem compact_le (zs : List (List UInt8)) : (Lib.compact zs).length ≤ zs.length := by
  unfold Lib.compact Lib.compactUpTo
  rw [List.length_map]
  exact Nat.le_trans (List.length_filter_le _ _) (by rw [List.length_range]; exact Nat.le_refl _)

set_option maxRecDepth 100000 in
set_option maxHeartbeats 2000000 in
theorem p_rising2 (ss : List ByteArray) (v : Value) (base : Nat) (w : World) (hown : OwnL w base v ss) (hl : ss.length ≤ 1000) (hbase : base ≤ w.heap.size) :
    Calls Try.prog 20 #[v] w fun e w' => ∃ A c, e = .returned (.slice A (riseL ss).length c) ∧ TxsAt w' A (riseL ss) ∧ Head0 A ∧ Below base w w' ∧ ∀ a, A = some a → base ≤ a.block := by
  rcases hown.2 with ⟨rfl, hn⟩ | ⟨g, cap, cur, rfl, hbg, hb, h1, h2, h3, h4⟩
  · have e : ss = [] := List.length_eq_zero_iff.1 hn
    subst e
    have er : riseL [] = [] := by
      cases h : riseL [] with
      | nil => rfl
      | cons a l => exact absurd ((riseL_mem [] a).1 (by rw [h]; exact List.mem_cons_self)) List.not_mem_nil
    rw [er]
    clear er hown hn
    go_enter Try.func20, Try.ntmps20
    go_wp2_with fail
    refine (Try.slices_Sort_string_none none 0 w).mono ?_
    rintro e w1 ⟨rfl, rfl⟩
    go_wp2_with fail
    refine (Try.slices_Compact_string_empty none 0 w1).mono ?_
    rintro e w2 ⟨rfl, rfl⟩
    go_wp2
    go_ret
    exact ⟨none, 0, rfl, fun j s hj => by simp at hj, (by intro a h; cases h), Below.refl _ _, (by intro a h; cases h)⟩
  · have hg : g < w.heap.size := (Array.getElem?_eq_some_iff.1 hb).1
    have hH : Holds encStr w g 0 (ss.map byL).toArray := holds_of_block hb (by rw [List.length_map, map_by]; simpa using h4)
    have hS := Try.slices_Sort_string g 0 cap (ss.map byL) w hH hg (by rw [List.length_map]; omega)
    rw [List.length_map] at hS
    have HS := Lib.hid hS
    have hst : ∀ n os, (grow (putRow encStr (Sort.ahead w n) g 0 (srtL ss).toArray) os).heap[g]? = some (.cells (putCells encStr 0 (srtL ss).toArray cur) 9 (0, 0)) := fun n os => heap_sorted _ hb
    have hown1 : ∀ n os, (grow (putRow encStr (Sort.ahead w n) g 0 (srtL ss).toArray) os).ownsRow base 9 1 (.slice (some ⟨g, 0, none⟩) (ss.map byL).length cap) (ss.map byL).length ((srtL ss).map encStr) := fun n os =>
      ownsRow_sorted (by rw [srtL_len, List.length_map]) hbg hb (by rw [List.length_map]; exact h1) h2 h3
    have hbl : ∀ n os, Below base w (grow (putRow encStr (Sort.ahead w n) g 0 (srtL ss).toArray) os) := fun n os => (Below.refl _ _).grown (grownBy_sorted _) hbase (fun k hk => by injection hk with hk; omega)
    have HO := Lib.hid hown1
    have HBL := Lib.hid hbl
    clear hS hst hown1 hbl hown h3 h4 hH
    go_enter Try.func20, Try.ntmps20
    go_wp2_with fail
    refine HS.out.mono ?_
    rintro e w1 ⟨rfl, n, os, hw⟩
    have ho := HO.out n os
    have hb1 := HBL.out n os
    have hw' : w1 = grow (putRow encStr (Sort.ahead w n) g 0 (srtL ss).toArray) os := hw
    rw [← hw'] at ho hb1
    clear hw hw' HO HBL HS
    rw [List.length_map] at ho
    rcases ho.2 with ⟨hx, _⟩ | ⟨g', cap', cur', hx, hbg', hb', k1, k2, k3, k4⟩
    · cases hx
    cases hx
    have hg1 : g < w1.heap.size := (Array.getElem?_eq_some_iff.1 hb').1
    have hH1 : Holds encStr w1 g 0 (srtL ss).toArray := holds_of_block hb' (by rw [srtL_len]; simpa using k4)
    have hC := Try.slices_Compact_string g 0 cap (srtL ss) w1 hH1 (by rw [srtL_len]; omega) (by rw [srtL_len]; exact h1)
    have hle := compact_le (srtL ss)
    have hown2 : ∀ q, (putRow encStr (Sort.ahead w1 q) g 0 (Lib.compact (srtL ss) ++ List.replicate ((srtL ss).length - (Lib.compact (srtL ss)).length) []).toArray).ownsRow base 9 1 (.slice (some ⟨g, 0, none⟩) (srtL ss).length cap) (srtL ss).length ((Lib.compact (srtL ss) ++ List.replicate ((srtL ss).length - (Lib.compact (srtL ss)).length) []).map encStr) := fun q => by
      have := ownsRow_sorted (n := q) (os := #[]) (ss := srtL ss) (ts := Lib.compact (srtL ss) ++ List.replicate ((srtL ss).length - (Lib.compact (srtL ss)).length) []) (by rw [List.length_append, List.length_replicate]; omega) hbg' hb' (by rw [srtL_len]; exact h1) k2 k3
      rw [grow_empty] at this
      exact this
    have hbl2 : ∀ q, Below base w1 (putRow encStr (Sort.ahead w1 q) g 0 (Lib.compact (srtL ss) ++ List.replicate ((srtL ss).length - (Lib.compact (srtL ss)).length) []).toArray) := fun q => by
      have := (Below.refl base w1).grown (grownBy_sorted (w := w1) (g := g) (n := q) (os := #[]) (Lib.compact (srtL ss) ++ List.replicate ((srtL ss).length - (Lib.compact (srtL ss)).length) []).toArray) (Nat.le_trans hbase hb1.size) (fun k hk => by injection hk with hk; omega)
      rw [grow_empty] at this
      exact this
    rw [srtL_len] at hC
    have HC := Lib.hid hC
    have HO2 := Lib.hid hown2
    have HB2 := Lib.hid hbl2
    have HB1 := Lib.hid hb1
    clear hC hown2 hbl2 hb1 ho k3 k4 hH1
    go_wp2_with fail
    refine HC.out.mono ?_
    rintro e w2 ⟨rfl, q, hw⟩
    have ho := HO2.out q
    have hb2 := HB2.out q
    rw [srtL_len] at ho hb2
    rw [← hw] at ho hb2
    have HO3 := Lib.hid ho
    have HB3 := Lib.hid (HB1.out.trans hb2)
    clear hw ho hb2 HC HO2 HB2
    go_wp2
    go_ret
    refine ⟨some ⟨g, 0, none⟩, cap, ?_, ?_, (by intro a h; cases h; exact ⟨_, rfl⟩), HB3.out, (by intro a h; cases h; exact hbg)⟩
    · unfold riseL
      rw [List.length_map]
      rfl
    · intro j s hj
      refine ⟨_, rfl, World.ownsRow.cells HO3.out (g := g) rfl _ _ ?_⟩
      unfold riseL at hj
      rw [List.getElem?_map] at hj
      obtain ⟨l, hl2, rfl⟩ := Option.map_eq_some_iff.1 hj
      rw [List.getElem?_map, List.getElem?_append_left (List.getElem?_eq_some_iff.1 hl2).1, hl2]
      rfl
theorem p_rising (ss : List ByteArray) (v : Value) (base : Nat) (w : World) (hown : OwnL w base v ss) (hl : ss.length ≤ 1000) (hbase : base ≤ w.heap.size) :
    Calls Try.prog 20 #[v] w fun e w' => ∃ A c, e = .returned (.slice A (riseL ss).length c) ∧ TxsAt w' A (riseL ss) ∧ Head0 A ∧ Below base w w' :=
  (p_rising2 ss v base w hown hl hbase).mono fun _ _ ⟨A, c, h1, h2, h3, h4, _⟩ => ⟨A, c, h1, h2, h3, h4⟩
end Go.Proofs.Ytojpccngcicbmaa
