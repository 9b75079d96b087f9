/-
  Merge of package bag: each row of another bag comes, so many times; where one would be there too often nothing is changed.
  No condition but that the bags have no more rows than fits.
-/
import Derived.Test.YtpliofhphijdkaaMpure
import Derived.Test.YtpliofhphijdkaaBsame
namespace Go.Proofs.Ytpliofhphijdkaa
open Go.RowKit Go.Shelf

attribute [local go_sem] Oper.semAt_some

theorem far_cell (w : World) {b b' : Nat} (h : b ≠ b') (v : Value) (i : Nat) : (w.setCell ⟨b', 0, none⟩ v).cell? ⟨b, i, none⟩ = w.cell? ⟨b, i, none⟩ := World.cell?_of_block (w := w) (Below.heap_setCell w _ v b h)
theorem mstep_over (times : Int) (s : List En × Int) (e : En) (k : Int) (l : List En) (h0 : s.2 = 0) (hk : e.2 * times = k) (hl : l = s.1) (hov : k < -1073741824 - manyL e.1 l ∨ 1073741824 - manyL e.1 l < k) : mstep times s e = (s.1, 10) := by
  subst hk hl
  unfold mstep
  rw [if_pos h0, if_pos hov]
theorem mstep_ok (times : Int) (s : List En × Int) (e : En) (k : Int) (l : List En) (h0 : s.2 = 0) (hk : e.2 * times = k) (hl : l = s.1) (hov : ¬ (k < -1073741824 - manyL e.1 l ∨ 1073741824 - manyL e.1 l < k)) : mstep times s e = (setL e.1 (manyL e.1 l + k) l, 0) := by
  subst hk hl
  unfold mstep
  rw [if_pos h0, if_neg hov]
/-- What a Merge by times that can be makes. -/
def mres (times : Int) (l o : List En) : List En × Int := if (mergeS times l o).2 = 0 then ((mergeS times l o).1, 0) else (l, 10)
/-- Blocks of Q, less a loop's own boxes. -/
def Less (Q : Nat → Prop) (s k : Nat) : Prop := Q k ∧ (k < s ∨ s + 4 ≤ k)

/-- What a loop of Merge has behind the rows that have come: its boxes, and the tree so far. -/
def MI (w : World) (Q : Nat → Prop) (times : Int) (l : List En) (pre : List En) (W : World) : Prop :=
  ∃ p t, Boxed W (w.heap.size + 2) 65 (.pointer p) ∧ TreeAt W (Less Q w.heap.size) p t ∧ t.toL = (mergeS times l pre).1 ∧ (mergeS times l pre).2 = 0
theorem mi_own (w : World) (Q : Nat → Prop) (times : Int) (l : List En) {α : Type} (f : List α → List En) : Go.Own (fun (pre : List α) W => MI w Q times l (f pre) W) := by
  intro s X Y row hs hg hr
  obtain ⟨p, t, h1, h2, h3, h4⟩ := hs
  exact ⟨p, t, boxed_own (β := Unit) _ _ (fun _ => Value.pointer p) () X Y row h1 hg hr, TreeAt.kept hg hr h2, h3, h4⟩

end Go.Proofs.Ytpliofhphijdkaa
