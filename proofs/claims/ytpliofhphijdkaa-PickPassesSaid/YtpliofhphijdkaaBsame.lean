/-
  Same of package bag: have two bags the same rows, each as often?
  No condition.
-/
import Derived.Test.YtpliofhphijdkaaRound
namespace Go.Proofs.Ytpliofhphijdkaa
open Go.RowKit Go.Shelf

attribute [local go_sem] Oper.semAt_some

/-- Have two lists equally many rows, and is each of the first in the second as often? -/
def sameL (a b : List En) : Bool := a.length == b.length && a.all fun e => manyL e.1 b == e.2

theorem keeps_below {B : Nat} {W W' : World} (h : Below W.heap.size W W') : KeepsFrom B W W' := ⟨h.size, fun k _ _ hk _ => (h.block k (Array.getElem?_eq_some_iff.1 hk).1).trans hk⟩
theorem Boxed.below {W W' : World} {B : Nat} {t : TypeId} {v : Value} (hv : Boxed W B t v) (h : Below W.heap.size W W') : Boxed W' B t v := (h.block B hv.lt).trans hv
theorem Boxed.drewQ {W : World} {B : Nat} {t : TypeId} {v : Value} (hv : Boxed W B t v) : Boxed W.drew B t v := hv
theorem nd_in {w W : World} {Q : Nat → Prop} (x : Nd w Q) (h : Below w.heap.size w W) : ∃ v, IsRow W Q v x.1.2.1 ∧ W.cell? ⟨x.1.1, 0, none⟩ = some v ∧ W.cell? ⟨x.1.1, 1, none⟩ = some (.int .i64 x.1.2.2) ∧ x.1.1 < w.heap.size := by
  obtain ⟨s, pl, ph, hn⟩ := x.2.1
  obtain ⟨_, h2, ⟨v, h3, h4⟩, h5, _⟩ := hn.keep (Below.keepQ h Q)
  obtain ⟨_, hlt, _⟩ := hn
  exact ⟨v, h3, h4, h5, hlt⟩

theorem all_snoc {α : Type} {p : α → Prop} {l : List α} {x : α} (h : ∀ y ∈ l, p y) (hx : p x) : ∀ y ∈ l ++ [x], p y := by
  intro y hy
  rcases List.mem_append.1 hy with hy | hy
  · exact h y hy
  · rw [List.mem_singleton] at hy
    rw [hy]
    exact hx

end Go.Proofs.Ytpliofhphijdkaa
