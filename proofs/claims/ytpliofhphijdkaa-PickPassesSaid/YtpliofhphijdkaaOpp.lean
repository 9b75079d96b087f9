/-
  What comes of a row in a list of entries: a sum.
  No Go in it.
-/
import Derived.Test.YtpliofhphijdkaaBpure
namespace Go.Proofs.Ytpliofhphijdkaa
open Go.RowKit

/-- What comes of row x. -/
def sumF (x : List V) : List En → Int
  | [] => 0
  | e :: l => (if cmpR e.1 x = 0 then e.2 else 0) + sumF x l
theorem sumF_append (x : List V) : ∀ a b : List En, sumF x (a ++ b) = sumF x a + sumF x b
  | [], b => by simp [sumF]
  | e :: a, b => by
    rw [List.cons_append]
    show _ + sumF x (a ++ b) = _ + sumF x a + sumF x b
    rw [sumF_append x a b]
    omega
theorem sumF_reverse (x : List V) : ∀ l : List En, sumF x l.reverse = sumF x l
  | [] => rfl
  | e :: l => by
    rw [List.reverse_cons, sumF_append, sumF_reverse x l]
    show _ + ((if cmpR e.1 x = 0 then e.2 else 0) + 0) = (if cmpR e.1 x = 0 then e.2 else 0) + sumF x l
    omega
theorem sumF_none (x : List V) : ∀ l : List En, (∀ e ∈ l, ¬ cmpR e.1 x = 0) → sumF x l = 0
  | [], _ => rfl
  | e :: l, h => by
    show (if cmpR e.1 x = 0 then e.2 else 0) + sumF x l = 0
    rw [if_neg (h e (by simp)), sumF_none x l fun f hf => h f (by simp [hf])]
    rfl
theorem sumF_in : ∀ (l : List En), Ord l → ∀ e ∈ l, sumF e.1 l = e.2
  | [], _, e, he => by cases he
  | a :: l, h, e, he => by
    obtain ⟨h1, h2⟩ := h
    show (if cmpR a.1 e.1 = 0 then a.2 else 0) + sumF e.1 l = e.2
    rcases List.mem_cons.1 he with rfl | he
    · rw [if_pos (cmpR_ordered.self e.1), sumF_none e.1 l fun f hf => by
        have := h1 f hf
        have := cmpR_flip (a := e.1) (b := f.1)
        omega]
      omega
    · have := h1 e he
      rw [if_neg (by omega), sumF_in l h2 e he]
      omega

theorem manyL_same {x y : List V} (h : cmpR x y = 0) : ∀ l : List En, manyL x l = manyL y l
  | [] => rfl
  | e :: l => by
    have h1 := cmpR_zero h e.1
    have f1 := cmpR_flip (a := x) (b := e.1)
    have f2 := cmpR_flip (a := y) (b := e.1)
    have h2 : cmpR e.1 x = cmpR e.1 y := by omega
    rw [manyL_cons, manyL_cons, h2, manyL_same h l]

end Go.Proofs.Ytpliofhphijdkaa
