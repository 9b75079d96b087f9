/-
  Line of package schema answers the line of a kind, at every kind; nothing where it can not be; nothing that was there is changed.
  No condition but that a kind has no more than a million columns.
-/
import Derived.Test.YtoeggpoeongnhaaScolm
import Derived.Deep.QuietTactic
import Derived.BigQuiet
namespace Go.Proofs.Ytoeggpoeongnhaa
open Go.RowKit

/-- A column in a line. -/
def colL (c : Co) : List UInt8 := [32] ++ c.nm.data.toList ++ [58] ++ (wordR c.k).data.toList ++ (if c.nl then [63] else [])
/-- The line of a kind. -/
def lineS (x : Sc) : List UInt8 := if faultR [x] = 0 then [107, 105, 110, 100, 32] ++ x.nm.data.toList ++ x.cols.flatMap colL else []

theorem name_size (s : ByteArray) (h : nameR s.data.toList = true) : s.size ≤ 16 := by
  have hl : s.data.toList.length = s.size := rfl
  cases hd : s.data.toList with
  | nil => rw [hd] at hl; simp at hl; omega
  | cons c r =>
    rw [hd] at h hl
    simp only [nameR, Bool.and_eq_true, decide_eq_true_eq] at h
    omega
theorem colF_ok (ah : List Co) (c : Co) (h : colF ah c = 0) : c.nm.size ≤ 16 ∧ 1 ≤ c.k ∧ c.k ≤ 3 := by
  unfold colF at h
  split at h
  · cases h
  · rename_i h1
    split at h
    · cases h
    · rename_i h2
      refine ⟨name_size _ (by simpa using h1), by omega, by omega⟩
theorem colsF_ok (cs : List Co) : ∀ (f k : Nat), colsF cs f k = 0 → cs.length ≤ f + k → ∀ (i : Nat) (c : Co), k ≤ i → cs[i]? = some c → c.nm.size ≤ 16 ∧ 1 ≤ c.k ∧ c.k ≤ 3
  | 0, k, _, hl, i, c, hi, hc => by
    have := (List.getElem?_eq_some_iff.1 hc).1
    omega
  | f + 1, k, h, hl, i, c, hi, hc => by
    have hil := (List.getElem?_eq_some_iff.1 hc).1
    obtain ⟨d, hd⟩ : ∃ d, cs[k]? = some d := ⟨_, List.getElem?_eq_getElem (by omega)⟩
    rw [colsF_step cs f k d hd] at h
    by_cases h0 : colF (cs.take k) d = 0
    · rw [if_pos h0] at h
      by_cases hik : i = k
      · subst hik
        rw [hd] at hc
        injection hc with hc
        subst hc
        exact colF_ok _ _ h0
      · exact colsF_ok cs f (k + 1) h (by omega) i c (by omega) hc
    · rw [if_neg h0] at h
      exact absurd h h0
theorem fault_ok (x : Sc) (h : faultR [x] = 0) : x.nm.size ≤ 16 ∧ x.cols.length ≤ 6 ∧ ∀ (i : Nat) (c : Co), x.cols[i]? = some c → c.nm.size ≤ 16 ∧ 1 ≤ c.k ∧ c.k ≤ 3 := by
  have h1 : kindF [] x = 0 := by
    unfold faultR at h
    rw [if_neg (by simp)] at h
    have hs := kindsF_step [x] 0 0 x rfl
    rw [show kindsF [x] [x].length 0 = kindsF [x] (0 + 1) 0 from rfl, hs] at h
    by_cases h0 : kindF ([x].take 0) x = 0
    · exact h0
    · rw [if_neg h0] at h
      exact absurd h h0
  unfold kindF at h1
  split at h1
  · cases h1
  · rename_i g1
    rw [if_neg (by simp)] at h1
    split at h1
    · cases h1
    · rename_i g2
      exact ⟨name_size _ (by simp only [not_or] at g1; simpa using g1.1), by omega, fun i c hc => colsF_ok x.cols _ 0 h1 (by omega) i c (Nat.zero_le _) hc⟩
theorem word_size (k : Int) : (wordR k).size ≤ 4 := by
  unfold wordR
  split
  · decide
  · split
    · decide
    · split <;> decide

theorem line_cat (bs : List UInt8) (nm wd : ByteArray) : (⟨bs.toArray⟩ : ByteArray) ++ (((⟨#[32]⟩ ++ nm) ++ ⟨#[58]⟩) ++ wd) = ⟨(bs ++ ([32] ++ nm.data.toList ++ [58] ++ wd.data.toList)).toArray⟩ := by
  apply ByteArray.ext
  simp
theorem line_cat2 (bs : List UInt8) : (⟨bs.toArray⟩ : ByteArray) ++ ⟨#[63]⟩ = ⟨(bs ++ [63]).toArray⟩ := by
  apply ByteArray.ext
  simp
theorem line_head (nm : ByteArray) : (⟨#[107, 105, 110, 100, 32]⟩ : ByteArray) ++ nm = ⟨([107, 105, 110, 100, 32] ++ nm.data.toList).toArray⟩ := by
  apply ByteArray.ext
  simp

end Go.Proofs.Ytoeggpoeongnhaa
