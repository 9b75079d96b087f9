/-
  The document's bag as a plain list: the place of a row, and what Add makes by places is what setL makes.
  No Go in it.
-/
import Derived.Test.YtpliofhphijdkaaBpure
namespace Go.Proofs.Ytpliofhphijdkaa

/-- The place of a row, or where it would stand. -/
def findL (x : List V) : List En → Nat
  | [] => 0
  | e :: l => if cmpR e.1 x < 0 then findL x l + 1 else 0
/-- Is it there? -/
def hasL (x : List V) : List En → Bool
  | [] => false
  | e :: l => if cmpR e.1 x < 0 then hasL x l else cmpR e.1 x == 0
theorem findL_le (x : List V) : ∀ l : List En, findL x l ≤ l.length
  | [] => Nat.le_refl _
  | e :: l => by
    have := findL_le x l
    unfold findL
    split
    · simp only [List.length_cons]; omega
    · simp
theorem findL_low (x : List V) : ∀ (l : List En) (i : Nat) (e : En), i < findL x l → l[i]? = some e → cmpR e.1 x < 0
  | [], i, e, h, _ => by simp [findL] at h
  | a :: l, i, e, h, he => by
    unfold findL at h
    split at h
    · next hlt =>
      cases i with
      | zero =>
        have : a = e := by simpa using he
        subst this
        exact hlt
      | succ i => exact findL_low x l i e (by omega) (by simpa using he)
    · omega
theorem findL_stop (x : List V) : ∀ (l : List En) (e : En), l[findL x l]? = some e → ¬ cmpR e.1 x < 0 ∧ hasL x l = (cmpR e.1 x == 0)
  | [], e, h => by simp [findL] at h
  | a :: l, e, h => by
    unfold findL at h
    unfold hasL
    split at h
    · next hlt =>
      rw [if_pos hlt]
      exact findL_stop x l e (by simpa using h)
    · next hlt =>
      have : a = e := by simpa using h
      subst this
      rw [if_neg hlt]
      exact ⟨hlt, rfl⟩
theorem hasL_lt (x : List V) : ∀ l : List En, hasL x l = true → findL x l < l.length
  | [], h => by cases h
  | e :: l, h => by
    unfold hasL at h
    unfold findL
    split at h
    · next hlt =>
      rw [if_pos hlt]
      have := hasL_lt x l h
      simp only [List.length_cons]
      omega
    · next hlt =>
      rw [if_neg hlt]
      simp
theorem hasL_end (x : List V) (l : List En) (h : ¬ findL x l < l.length) : hasL x l = false := by
  rcases Bool.eq_false_or_eq_true (hasL x l) with h1 | h1
  · exact absurd (hasL_lt x l h1) h
  · exact h1
theorem manyL_no (x : List V) : ∀ l : List En, hasL x l = false → manyL x l = 0
  | [], _ => rfl
  | e :: l, h => by
    unfold hasL at h
    rw [manyL_cons]
    split at h
    · next hlt => rw [if_pos hlt, manyL_no x l h]
    · next hlt =>
      have h0 : ¬ cmpR e.1 x = 0 := by simpa using h
      rw [if_neg hlt, if_neg h0]
theorem manyL_yes (x : List V) : ∀ (l : List En) (e : En), hasL x l = true → l[findL x l]? = some e → manyL x l = e.2
  | [], _, h, _ => by cases h
  | a :: l, e, h, he => by
    unfold hasL at h
    unfold findL at he
    rw [manyL_cons]
    split at h
    · next hlt =>
      rw [if_pos hlt] at he
      rw [if_pos hlt, manyL_yes x l e h (by simpa using he)]
    · next hlt =>
      rw [if_neg hlt] at he
      have : a = e := by simpa using he
      subst this
      have h0 : cmpR a.1 x = 0 := by simpa using h
      rw [if_neg hlt, if_pos h0]
/-- Putting by places. -/
theorem setL_no (x : List V) (k : Int) : ∀ l : List En, hasL x l = false → setL x k l = l.take (findL x l) ++ (if k = 0 then [] else [(x, k)]) ++ l.drop (findL x l)
  | [], _ => by
    unfold setL findL
    split <;> rfl
  | e :: l, h => by
    have ih := setL_no x k l
    unfold hasL at h
    unfold findL
    rw [setL_cons]
    split at h
    · next hlt =>
      rw [if_pos hlt, if_pos hlt, ih h, List.take_succ_cons, List.drop_succ_cons, List.cons_append, List.cons_append]
    · next hlt =>
      have h0 : ¬ cmpR e.1 x = 0 := by simpa using h
      rw [if_neg hlt, if_neg hlt, if_neg h0]
      split <;> rfl
theorem setL_yes (x : List V) (k : Int) : ∀ (l : List En) (e : En), hasL x l = true → l[findL x l]? = some e → setL x k l = l.take (findL x l) ++ (if k = 0 then [] else [(e.1, k)]) ++ l.drop (findL x l + 1)
  | [], _, h, _ => by cases h
  | a :: l, e, h, he => by
    have ih := setL_yes x k l e
    unfold hasL at h
    unfold findL at he ⊢
    rw [setL_cons]
    split at h
    · next hlt =>
      rw [if_pos hlt] at he
      rw [if_pos hlt, if_pos hlt, ih h (by simpa using he), List.take_succ_cons, List.drop_succ_cons, List.cons_append, List.cons_append]
    · next hlt =>
      rw [if_neg hlt] at he
      have : a = e := by simpa using he
      subst this
      have h0 : cmpR a.1 x = 0 := by simpa using h
      rw [if_neg hlt, if_neg hlt, if_pos h0]
      split <;> rfl
theorem fromL_drop (x : List V) : ∀ l : List En, fromL x l = l.drop (findL x l)
  | [] => rfl
  | e :: l => by
    have ih := fromL_drop x l
    unfold fromL at ih ⊢
    unfold findL
    rw [List.dropWhile_cons]
    by_cases h : cmpR e.1 x < 0
    · rw [if_pos h, if_pos (by simpa using h), List.drop_succ_cons, ih]
    · have hd : ¬ decide (cmpR e.1 x < 0) = true := by simpa using h
      rw [if_neg h, if_neg hd, List.drop_zero]
theorem right_fit (x : List V) (h : rightR x = true) : Fit x := by
  unfold rightR at h
  rw [Bool.and_eq_true] at h
  intro i v hv
  have h1 := List.all_eq_true.1 h.2 v (List.mem_of_getElem? hv)
  unfold rightV at h1
  simp only [Bool.and_eq_true, decide_eq_true_eq] at h1
  have := h1.2
  unfold maxLen
  omega
end Go.Proofs.Ytpliofhphijdkaa
