/-
  Compare and Same of package row, and the document's own Compare, Same and Equal of two rows, answer the plain order and the plain oneness of two rows, at every two rows and in every world; nothing that was there is changed.
  No condition but that a row, and a text, is no longer than it can be.
-/
import Derived.Test.YtojpccngcicbmaaRow
import Derived.Laws.StructEq
import Derived.Deep.RegionHeld3
namespace Go.Proofs.Ytojpccngcicbmaa
open Go.RowKit

attribute [local go_sem high] equal_val

theorem below_drew (B : Nat) (w : World) : Below B w w.drew := (Below.refl B w).drew

/-- No text of the row is longer than a text can be. -/
def Fit (xs : List V) : Prop := ∀ (i : Nat) (v : V), xs[i]? = some v → v.t.size ≤ maxLen

/-- Are two rows one, cell by cell? -/
def eqR : List V → List V → Bool
  | [], [] => true
  | [], _ :: _ => false
  | _ :: _, [] => false
  | a :: x, b :: y => eqV a b && eqR x y

theorem eqR_iff : ∀ (x y : List V), eqR x y = true ↔ x = y
  | [], [] => by simp [eqR]
  | [], _ :: _ => by simp [eqR]
  | _ :: _, [] => by simp [eqR]
  | a :: x, b :: y => by
    unfold eqR
    rw [Bool.and_eq_true, eqV_iff, eqR_iff x y]
    simp
theorem eqR_self (x : List V) : eqR x x = true := (eqR_iff x x).2 rfl
theorem eqR_len : ∀ (x y : List V), ¬ x.length = y.length → eqR x y = false
  | [], [], h => absurd rfl h
  | [], _ :: _, _ => rfl
  | _ :: _, [], _ => rfl
  | a :: x, b :: y, h => by
    unfold eqR
    rw [eqR_len x y (by simpa using h), Bool.and_false]
theorem eqR_step (xs ys : List V) (k : Nat) (a b : V) (ha : xs[k]? = some a) (hb : ys[k]? = some b) : eqR (xs.drop k) (ys.drop k) = (eqV a b && eqR (xs.drop (k + 1)) (ys.drop (k + 1))) := by
  obtain ⟨h1, h2⟩ := List.getElem?_eq_some_iff.1 ha
  obtain ⟨h3, h4⟩ := List.getElem?_eq_some_iff.1 hb
  rw [List.drop_eq_getElem_cons h1, List.drop_eq_getElem_cons h3, h2, h4]
  rfl

end Go.Proofs.Ytojpccngcicbmaa
