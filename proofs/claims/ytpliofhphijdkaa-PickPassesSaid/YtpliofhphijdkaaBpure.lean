/-
  Bags of rows as plain lists: what Add, Many, From and Merge make of a list in order; two such lists that have each row equally often are one; sums in whatever order.
  No Go in it.
-/
import Derived.Test.YtpliofhphijdkaaTcut
import Derived.Test.YtpliofhphijdkaaRightr
namespace Go.Proofs.Ytpliofhphijdkaa

/-- Is n a number of times that can be? -/
def fewN (n : Int) : Bool := decide (-1073741824 ≤ n) && decide (n ≤ 1073741824)
theorem fewN_iff (n : Int) : fewN n = true ↔ -1073741824 ≤ n ∧ n ≤ 1073741824 := by
  unfold fewN
  rw [Bool.and_eq_true, decide_eq_true_eq, decide_eq_true_eq]
/-- A list that a bag has. -/
def Good (l : List En) : Prop := Ord l ∧ ∀ e ∈ l, ¬ e.2 = 0 ∧ fewN e.2 = true ∧ rightR e.1 = true
theorem Good.nil : Good [] := ⟨trivial, fun e h => by cases h⟩

theorem manyL_few (x : List V) : ∀ l : List En, (∀ e ∈ l, fewN e.2 = true) → fewN (manyL x l) = true
  | [], _ => rfl
  | e :: l, h => by
    rw [manyL_cons]
    split
    · exact manyL_few x l fun f hf => h f (by simp [hf])
    · split
      · exact h e (by simp)
      · rfl
theorem Good.many {l : List En} (h : Good l) (x : List V) : -1073741824 ≤ manyL x l ∧ manyL x l ≤ 1073741824 := (fewN_iff _).1 (manyL_few x l fun e he => (h.2 e he).2.1)

theorem setL_mem (x : List V) (k : Int) : ∀ (l : List En) (e : En), e ∈ setL x k l → e ∈ l ∨ (¬ k = 0 ∧ e.2 = k ∧ (e.1 = x ∨ ∃ f ∈ l, f.1 = e.1))
  | [], e, h => by
    unfold setL at h
    split at h
    · cases h
    · next hk =>
      rw [List.mem_singleton] at h
      subst h
      exact Or.inr ⟨hk, rfl, Or.inl rfl⟩
  | a :: l, e, h => by
    rw [setL_cons] at h
    split at h
    · rcases List.mem_cons.1 h with rfl | h
      · exact Or.inl (by simp)
      · rcases setL_mem x k l e h with h | ⟨h1, h2, h3 | ⟨f, hf, h3⟩⟩
        · exact Or.inl (by simp [h])
        · exact Or.inr ⟨h1, h2, Or.inl h3⟩
        · exact Or.inr ⟨h1, h2, Or.inr ⟨f, by simp [hf], h3⟩⟩
    · split at h
      · split at h
        · exact Or.inl (by simp [h])
        · next hk =>
          rcases List.mem_cons.1 h with rfl | h
          · exact Or.inr ⟨hk, rfl, Or.inr ⟨a, by simp, rfl⟩⟩
          · exact Or.inl (by simp [h])
      · split at h
        · exact Or.inl h
        · next hk =>
          rcases List.mem_cons.1 h with rfl | h
          · exact Or.inr ⟨hk, rfl, Or.inl rfl⟩
          · exact Or.inl h
theorem setL_below (x : List V) (k : Int) (y : List V) (l : List En) (hy : ∀ e ∈ l, cmpR y e.1 < 0) (hx : cmpR y x < 0) : ∀ e ∈ setL x k l, cmpR y e.1 < 0 := by
  intro e he
  rcases setL_mem x k l e he with h | ⟨_, _, h | ⟨f, hf, h⟩⟩
  · exact hy e h
  · rw [h]; exact hx
  · rw [← h]; exact hy f hf
theorem setL_ord (x : List V) (k : Int) : ∀ l : List En, Ord l → Ord (setL x k l)
  | [], _ => by
    unfold setL
    split
    · exact trivial
    · exact ⟨fun f hf => (by cases hf), trivial⟩
  | a :: l, h => by
    obtain ⟨h1, h2⟩ := h
    have hf := cmpR_flip (a := a.1) (b := x)
    rw [setL_cons]
    split
    · next hlt => exact ⟨setL_below x k a.1 l h1 hlt, setL_ord x k l h2⟩
    · split
      · split
        · exact h2
        · exact ⟨h1, h2⟩
      · split
        · exact ⟨h1, h2⟩
        · refine ⟨?_, h1, h2⟩
          intro f hf2
          have hxa : cmpR x a.1 < 0 := by omega
          rcases List.mem_cons.1 hf2 with rfl | hf2
          · exact hxa
          · exact cmpR_lt3 hxa (h1 f hf2)
theorem setL_good (x : List V) (k : Int) (l : List En) (h : Good l) (hx : rightR x = true) (hk : fewN k = true) : Good (setL x k l) := by
  refine ⟨setL_ord x k l h.1, fun e he => ?_⟩
  rcases setL_mem x k l e he with h1 | ⟨h1, h2, h3 | ⟨f, hf, h3⟩⟩
  · exact h.2 e h1
  · exact ⟨by rw [h2]; exact h1, by rw [h2]; exact hk, by rw [h3]; exact hx⟩
  · exact ⟨by rw [h2]; exact h1, by rw [h2]; exact hk, by rw [← h3]; exact (h.2 f hf).2.2⟩

/-- Putting a row there as often as it is changes nothing. -/
theorem setL_same (x : List V) : ∀ l : List En, Good l → setL x (manyL x l) l = l
  | [], _ => rfl
  | a :: l, h => by
    have hl : Good l := ⟨h.1.2, fun e he => h.2 e (by simp [he])⟩
    have ih := setL_same x l hl
    have ha := (h.2 a (by simp)).1
    rw [manyL_cons, setL_cons]
    split
    · rw [ih]
    · split
      · rfl
      · rw [if_pos rfl]

/-- What Add makes of a bag's list, and the error's number. -/
def addL (x : List V) (k : Int) (l : List En) : List En × Int :=
  if rightR x = false then (l, 2) else if k < -1073741824 - manyL x l ∨ 1073741824 - manyL x l < k then (l, 10) else (setL x (manyL x l + k) l, 0)
theorem addL_good (x : List V) (k : Int) (l : List En) (h : Good l) : Good (addL x k l).1 := by
  unfold addL
  split
  · exact h
  · next hr =>
    split
    · exact h
    · next hk => exact setL_good x _ l h (by simpa using hr) ((fewN_iff _).2 (by omega))

theorem plusT_over (x : List V) (k : Int) (t : Tr) (h : Good t.toL) (hk : k < -1073741824 - manyL x t.toL ∨ 1073741824 - manyL x t.toL < k) : plusT x k t = (.nil, 10) := by
  unfold plusT
  rw [Tr.many_toL x t h.1, if_pos hk]
theorem plusT_ok (x : List V) (k : Int) (t : Tr) (h : Good t.toL) (hk : ¬ (k < -1073741824 - manyL x t.toL ∨ 1073741824 - manyL x t.toL < k)) : (plusT x k t).2 = 0 ∧ (plusT x k t).1.toL = setL x (manyL x t.toL + k) t.toL := by
  have hm := Tr.many_toL x t h.1
  unfold plusT
  rw [hm, if_neg hk]
  by_cases h3 : k = 0
  · rw [if_pos h3, h3, Int.add_zero, setL_same x _ h]
    exact ⟨rfl, rfl⟩
  · rw [if_neg h3]
    by_cases h4 : manyL x t.toL + k = 0
    · rw [if_pos h4, h4]
      exact ⟨rfl, Tr.toL_cut t x h.1 (manyL_mem x t.toL (by omega))⟩
    · rw [if_neg h4]
      exact ⟨rfl, Tr.toL_put x _ h4 t h.1⟩

/-- Two rows that can be, and are the same, are one. -/
theorem cmpR_zero {x y : List V} : cmpR x y = 0 → ∀ z, cmpR x z = cmpR y z := by
  intro h z
  have hf := cmpR_flip (a := x) (b := y)
  rcases cmpR_rng x z with h1 | h1 | h1
  · have := cmpR_le_lt (show cmpR y x ≤ 0 by omega) (show cmpR x z < 0 by omega)
    have := cmpR_rng y z
    omega
  · have := cmpR_ordered.tr0 y x z (by omega) h1
    omega
  · have f1 := cmpR_flip (a := x) (b := z)
    have f2 := cmpR_flip (a := y) (b := z)
    have := cmpR_lt_le (show cmpR z x < 0 by omega) (show cmpR x y ≤ 0 by omega)
    have := cmpR_rng y z
    omega

theorem manyL_above (x : List V) (l : List En) (h : ∀ e ∈ l, cmpR x e.1 < 0) : manyL x l = 0 := by
  cases l with
  | nil => rfl
  | cons e l =>
    have h1 := h e (by simp)
    have hf := cmpR_flip (a := x) (b := e.1)
    rw [manyL_cons, if_neg (by omega), if_neg (by omega)]
/-- How often rows are there once x has been put. -/
theorem manyL_set (x : List V) (k : Int) (y : List V) : ∀ l : List En, Ord l → manyL y (setL x k l) = if cmpR x y = 0 then k else manyL y l
  | [], _ => by
    unfold setL
    by_cases hk : k = 0
    · rw [if_pos hk, hk]
      show 0 = _
      split <;> rfl
    · rw [if_neg hk, manyL_cons]
      show (if cmpR x y < 0 then 0 else if cmpR x y = 0 then k else 0) = if cmpR x y = 0 then k else 0
      split
      · next h => rw [if_neg (by omega)]
      · rfl
  | a :: l, h => by
    obtain ⟨h1, h2⟩ := h
    have ih := manyL_set x k y l h2
    have fxy := cmpR_flip (a := x) (b := y)
    have fax := cmpR_flip (a := a.1) (b := x)
    have fay := cmpR_flip (a := a.1) (b := y)
    rw [setL_cons]
    by_cases hlt : cmpR a.1 x < 0
    · rw [if_pos hlt, manyL_cons, manyL_cons, ih]
      by_cases hz : cmpR x y = 0
      · have : cmpR a.1 y < 0 := cmpR_lt_le hlt (by omega)
        rw [if_pos this, if_pos hz, if_pos hz]
      · rw [if_neg hz, if_neg hz]
    · rw [if_neg hlt]
      by_cases hz0 : cmpR a.1 x = 0
      · rw [if_pos hz0]
        have hay := cmpR_zero hz0 y
        by_cases hz : cmpR x y = 0
        · rw [if_pos hz]
          split
          · next hk =>
            rw [hk]
            refine manyL_above y l fun e he => ?_
            exact cmpR_le_lt (show cmpR y a.1 ≤ 0 by omega) (h1 e he)
          · rw [manyL_cons, if_neg (by show ¬ cmpR a.1 y < 0; omega), if_pos (by show cmpR a.1 y = 0; omega)]
        · rw [if_neg hz]
          split
          · rw [manyL_cons]
            split
            · rfl
            · rw [if_neg (by omega)]
              refine manyL_above y l fun e he => ?_
              have : cmpR y a.1 < 0 := by have := cmpR_rng a.1 y; omega
              exact cmpR_lt3 this (h1 e he)
          · rw [manyL_cons, manyL_cons]
            show (if cmpR a.1 y < 0 then _ else if cmpR a.1 y = 0 then k else 0) = _
            rw [if_neg (show ¬ cmpR a.1 y = 0 by omega), if_neg (show ¬ cmpR a.1 y = 0 by omega)]
      · rw [if_neg hz0]
        have hxa : cmpR x a.1 < 0 := by have := cmpR_rng a.1 x; omega
        by_cases hz : cmpR x y = 0
        · rw [if_pos hz]
          have hya : cmpR y a.1 < 0 := cmpR_le_lt (by omega) hxa
          split
          · next hk =>
            rw [hk]
            refine manyL_above y _ fun e he => ?_
            rcases List.mem_cons.1 he with rfl | he
            · exact hya
            · exact cmpR_lt3 hya (h1 e he)
          · rw [manyL_cons, if_neg (by show ¬ cmpR x y < 0; omega), if_pos (by show cmpR x y = 0; omega)]
        · rw [if_neg hz]
          split
          · rfl
          · rw [manyL_cons]
            show (if cmpR x y < 0 then _ else if cmpR x y = 0 then k else 0) = _
            split
            · rfl
            · refine (manyL_above y _ fun e he => ?_).symm
              have hyx : cmpR y x < 0 := by have := cmpR_rng x y; omega
              rcases List.mem_cons.1 he with rfl | he
              · exact cmpR_lt3 hyx hxa
              · exact cmpR_lt3 (cmpR_lt3 hyx hxa) (h1 e he)

theorem manyL_self (e : En) (l : List En) : manyL e.1 (e :: l) = e.2 := by
  have := cmpR_ordered.self e.1
  rw [manyL_cons, if_neg (by omega), if_pos this]
theorem manyL_in : ∀ (l : List En), Ord l → ∀ e ∈ l, manyL e.1 l = e.2
  | [], _, e, he => by cases he
  | a :: l, h, e, he => by
    obtain ⟨h1, h2⟩ := h
    rcases List.mem_cons.1 he with rfl | he
    · exact manyL_self e l
    · rw [manyL_cons, if_pos (h1 e he)]
      exact manyL_in l h2 e he
end Go.Proofs.Ytpliofhphijdkaa
