/-
  Cells in memory, in blocks that stay as they are.
  No condition.
-/
import Derived.Test.YtpliofhphijdkaaTmem
import Derived.Test.YtpliofhphijdkaaOwn
namespace Go.Proofs.Ytpliofhphijdkaa
open Go.RowKit

/-- The cells cs lie at A, in blocks of Q. -/
def CellsQ (w : World) (Q : Nat → Prop) (A : Option Addr) (cs : List Value) : Prop := ∀ (j : Nat) (u : Value), cs[j]? = some u → ∃ a : Addr, A = some a ∧ Q (a.add j).block ∧ w.cell? (a.add j) = some u
theorem CellsQ.keep {w w' : World} {Q : Nat → Prop} {A : Option Addr} {cs : List Value} (h : CellsQ w Q A cs) (hk : KeepQ Q w w') : CellsQ w' Q A cs := by
  intro j u hj
  obtain ⟨a, ha, hb, hc⟩ := h j u hj
  exact ⟨a, ha, hb, (World.cell?_of_block (w := w) (hk _ hb (World.block_lt_of_cell? w _ hc))).trans hc⟩
theorem CellsQ.imp {w : World} {Q Q' : Nat → Prop} {A : Option Addr} {cs : List Value} (h : CellsQ w Q A cs) (hq : ∀ k, k < w.heap.size → Q k → Q' k) : CellsQ w Q' A cs := by
  intro j u hj
  obtain ⟨a, ha, hb, hc⟩ := h j u hj
  exact ⟨a, ha, hq _ (World.block_lt_of_cell? w _ hc) hb, hc⟩
theorem CellsQ.take {w : World} {Q : Nat → Prop} {A : Option Addr} {cs : List Value} (h : CellsQ w Q A cs) (n : Nat) : CellsQ w Q A (cs.take n) := by
  intro j u hj
  rw [List.getElem?_take] at hj
  split at hj
  · exact h j u hj
  · cases hj
theorem CellsQ.drop {w : World} {Q : Nat → Prop} {a : Addr} {cs : List Value} (h : CellsQ w Q (some a) cs) (n : Nat) : CellsQ w Q (some (a.add n)) (cs.drop n) := by
  intro j u hj
  rw [List.getElem?_drop] at hj
  obtain ⟨a', ha, hb, hc⟩ := h _ u hj
  injection ha with ha
  subst ha
  have e : (a.add n).add j = a.add (n + j) := by
    unfold Addr.add
    by_cases h1 : n = 0
    · subst h1; simp
    · by_cases h2 : j = 0
      · subst h2; simp
      · simp [h1, h2, Nat.add_assoc]
  exact ⟨_, rfl, by rw [e]; exact hb, by rw [e]; exact hc⟩

theorem CellsQ.at {w : World} {Q : Nat → Prop} {A : Option Addr} {cs : List Value} (h : CellsQ w Q A cs) (j r : Nat) (u : Value) (a : Addr) (ha : A = some a) (hr : 0 < r) (hu : cs[j + r]? = some u) : w.cell? { block := (a.add j).block, off := (a.add j).off + r } = some u := by
  obtain ⟨a', ha', _, hc⟩ := h _ _ hu
  subst ha
  injection ha' with ha'
  subst ha'
  rw [add_off _ _ _ hr]
  exact hc
theorem CellsQ.below {w w' : World} {Q : Nat → Prop} {A : Option Addr} {cs : List Value} (h : CellsQ w Q A cs) (hb : Below w.heap.size w w') : CellsQ w' Q A cs := h.keep (Below.keepQ hb Q)
end Go.Proofs.Ytpliofhphijdkaa
