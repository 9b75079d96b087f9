/-
  texts and Columns of package schema: the columns of a relation, at every set and relation; nothing that was there is changed.
  No condition but that a list has no more than a million.
-/
import Derived.Test.YtmiagdmfgebfdaaSset
namespace Go.Proofs.Ytmiagdmfgebfdaa
open Go.RowKit

/-- A column of texts that may not be null. -/
def textC (nm : ByteArray) : Co := ⟨nm, 3, false⟩
/-- Texts as they lie. -/
def TextsAt (w : World) (Q : Nat → Prop) (A : Option Addr) (ts : List ByteArray) : Prop := CellsQ w Q A (ts.map Value.string)
theorem TextsAt.get {w : World} {Q : Nat → Prop} {A : Option Addr} {ts : List ByteArray} (h : TextsAt w Q A ts) (i : Nat) (t : ByteArray) (ht : ts[i]? = some t) : ∃ a, A = some a ∧ (a.add i).block < w.heap.size ∧ w.cell? (a.add i) = some (.string t) := by
  obtain ⟨a, ha, _, hc⟩ := h i (.string t) (by rw [List.getElem?_map, ht]; rfl)
  exact ⟨a, ha, World.block_lt_of_cell? w _ hc, hc⟩

theorem c_lit1 (w : World) (c : Co) : CellsQ (w.alloc (.cells #[.string c.nm, .int .i64 c.k, .bool c.nl] 105)) (fun _ => True) (some ⟨w.heap.size, 0, none⟩) (flatC [c]) := by
  intro j u hj
  refine ⟨_, rfl, trivial, ?_⟩
  rw [show ((⟨w.heap.size, 0, none⟩ : Addr).add j) = ⟨w.heap.size, j, none⟩ from by unfold Addr.add; split <;> simp_all, alloc_new_cells]
  simpa [flatC, Co.cells] using hj

/-- A call that makes columns of its own. -/
def MakesC (w : World) (cs : List Co) (e : Ending) (w' : World) : Prop := ∃ v, e = .returned v ∧ OwnC w' w.heap.size v cs ∧ Below w.heap.size w w'

end Go.Proofs.Ytmiagdmfgebfdaa
