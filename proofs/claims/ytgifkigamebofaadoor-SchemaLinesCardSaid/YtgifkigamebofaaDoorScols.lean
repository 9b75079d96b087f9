/-
  texts and Columns of package schema: the columns of a relation, at every set and relation; nothing that was there is changed.
  No condition but that a list has no more than a million.
-/
import Derived.Test.YtgifkigamebofaaDoorSset
namespace Go.Proofs.YtgifkigamebofaaDoor
open Go.RowKit

/-- A column of texts that may not be null. -/
def textC (nm : ByteArray) : Co := ⟨nm, 3, false⟩
/-- Texts as they lie. -/
def TextsAt (w : World) (Q : Nat → Prop) (A : Option Addr) (ts : List ByteArray) : Prop := CellsQ w Q A (ts.map Value.string)
theorem TextsAt.get {w : World} {Q : Nat → Prop} {A : Option Addr} {ts : List ByteArray} (h : TextsAt w Q A ts) (i : Nat) (t : ByteArray) (ht : ts[i]? = some t) : ∃ a, A = some a ∧ (a.add i).block < w.heap.size ∧ w.cell? (a.add i) = some (.string t) := by
  obtain ⟨a, ha, _, hc⟩ := h i (.string t) (by rw [List.getElem?_map, ht]; rfl)
  exact ⟨a, ha, World.block_lt_of_cell? w _ hc, hc⟩

theorem c_lit1 (w : World) (c : Co) : CellsQ (w.alloc (.cells #[.string c.nm, .int .i64 c.k, .bool c.nl] 49)) (fun _ => True) (some ⟨w.heap.size, 0, none⟩) (flatC [c]) := by
  intro j u hj
  refine ⟨_, rfl, trivial, ?_⟩
  rw [show ((⟨w.heap.size, 0, none⟩ : Addr).add j) = ⟨w.heap.size, j, none⟩ from by unfold Addr.add; split <;> simp_all, alloc_new_cells]
  simpa [flatC, Co.cells] using hj

/-- A call that makes columns of its own. -/
def MakesC (w : World) (cs : List Co) (e : Ending) (w' : World) : Prop := ∃ v, e = .returned v ∧ OwnC w' w.heap.size v cs ∧ Below w.heap.size w w'

set_option maxRecDepth 100000 in
set_option maxHeartbeats 2000000 in
theorem s_texts (Q : Nat → Prop) (A : Option Addr) (ts : List ByteArray) (n c : Nat) (w : World) (hn : n = ts.length) (hl : n ≤ 1000000) (hx : TextsAt w Q A ts) :
    Calls Tryd.prog 29 #[.slice A n c] w (MakesC w (ts.map textC)) := by
  have HX := Lib.hid hx
  have HN := Lib.hid hn
  clear hx hn
  go_enter Tryd.func29, Tryd.ntmps29
  go_wp2
  go_loopw [3, 8] (fun v i wr => ∃ k : Nat, k ≤ n ∧ i = .int .i64 k ∧ OwnC wr w.heap.size v ((ts.take k).map textC) ∧ Below w.heap.size w wr) (fun _ i _ => n - (intOf i).toNat)
  case atStart => exact ⟨0, Nat.zero_le _, rfl, by rw [List.take_zero]; exact OwnC.nil _ _, Below.refl _ _⟩
  case round =>
    obtain ⟨k, hk, rfl, hown, hb⟩ := hrel
    have HOWN := Lib.hid hown
    have HB := Lib.hid hb
    have hsz : w.heap.size ≤ wr.heap.size := hb.size
    clear hown hb
    by_cases h1 : k < n
    · obtain ⟨t, ht⟩ : ∃ t, ts[k]? = some t := ⟨_, List.getElem?_eq_getElem (by rw [← HN.out]; exact h1)⟩
      obtain ⟨a, rfl, ha, a0⟩ := (show TextsAt wr Q A ts from HX.out.below HB.out).get k t ht
      have htk : (ts.take (k + 1)).map textC = (ts.take k).map textC ++ [textC t] := by
        rw [List.take_add_one, ht]
        simp
      have HTK := Lib.hid htk
      clear ht htk
      go_wp2_with (at_builtin; go_must (refine wp_append_C _ rfl (.tmp 12) (.tmp 15) rfl w.heap.size _ ((ts.take k).map textC) [textC t] rfl (HOWN.out.alloc _) (some ⟨wr.heap.size, 0, none⟩) 1 1 rfl rfl (fun _ => True) (c_lit1 _ (textC t)) (flatC_one _) (by simp; omega) (by simp; omega) ?_; intro v1 w3 hown3 hb3 _ _))
      have HO3 := Lib.hid hown3
      have HB3 := Lib.hid (HB.out.trans ((one_new_far wr _ hsz).trans hb3))
      clear hown3 hb3
      go_roundw
      case rel => exact ⟨k + 1, by omega, by go_num, by rw [HTK.out]; exact HO3.out, HB3.out⟩
      case measure => simp [intOf]; omega
    · obtain rfl : k = n := by omega
      go_wp2
      go_ret
      have h2 := HOWN.out
      rw [List.take_of_length_le (by rw [← HN.out]; exact Nat.le_refl _)] at h2
      exact ⟨_, rfl, h2, HB.out⟩
end Go.Proofs.YtgifkigamebofaaDoor
