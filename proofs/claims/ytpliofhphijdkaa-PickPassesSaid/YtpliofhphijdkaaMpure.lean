/-
  One bag that comes into another one, row by row, as lists; and how a tree stays where blocks that hold no cells change.
  No Go in it.
-/
import Derived.Test.YtpliofhphijdkaaRound
namespace Go.Proofs.Ytpliofhphijdkaa
open Go.RowKit Go.Shelf

/-- One row comes, so many times; behind an error nothing does. -/
def mstep (times : Int) (s : List En × Int) (e : En) : List En × Int :=
  if s.2 = 0 then (if e.2 * times < -1073741824 - manyL e.1 s.1 ∨ 1073741824 - manyL e.1 s.1 < e.2 * times then (s.1, 10) else (setL e.1 (manyL e.1 s.1 + e.2 * times) s.1, 0)) else s
def mergeS (times : Int) (l o : List En) : List En × Int := o.foldl (mstep times) (l, 0)
theorem mergeS_nil (times : Int) (l : List En) : mergeS times l [] = (l, 0) := rfl
theorem mergeS_snoc (times : Int) (l o : List En) (e : En) : mergeS times l (o ++ [e]) = mstep times (mergeS times l o) e := by
  unfold mergeS
  rw [List.foldl_append]
  rfl
theorem mstep_err (times : Int) (s : List En × Int) (e : En) (h : ¬ s.2 = 0) : mstep times s e = s := if_neg h
theorem mfold_err (times : Int) : ∀ (o : List En) (s : List En × Int), ¬ s.2 = 0 → o.foldl (mstep times) s = s
  | [], _, _ => rfl
  | e :: o, s, h => by
    rw [List.foldl_cons, mstep_err times s e h]
    exact mfold_err times o s h
theorem mergeS_stuck (times : Int) (l a b : List En) (h : ¬ (mergeS times l a).2 = 0) : mergeS times l (a ++ b) = mergeS times l a := by
  unfold mergeS at h ⊢
  rw [List.foldl_append]
  exact mfold_err times b _ h
theorem mstep_two (times : Int) (s : List En × Int) (e : En) (h : s.2 = 0 ∨ s.2 = 10) : (mstep times s e).2 = 0 ∨ (mstep times s e).2 = 10 := by
  unfold mstep
  split
  · split
    · exact Or.inr rfl
    · exact Or.inl rfl
  · exact h
theorem mfold_two (times : Int) : ∀ (o : List En) (s : List En × Int), (s.2 = 0 ∨ s.2 = 10) → (o.foldl (mstep times) s).2 = 0 ∨ (o.foldl (mstep times) s).2 = 10
  | [], _, h => h
  | e :: o, s, h => mfold_two times o _ (mstep_two times s e h)
theorem mergeS_two (times : Int) (l o : List En) : (mergeS times l o).2 = 0 ∨ (mergeS times l o).2 = 10 := mfold_two times o _ (Or.inl rfl)
theorem mstep_good (times : Int) (s : List En × Int) (e : En) (h : Good s.1) (he : rightR e.1 = true) : Good (mstep times s e).1 := by
  unfold mstep
  split
  · split
    · exact h
    · exact setL_good _ _ _ h he ((fewN_iff _).2 (by omega))
  · exact h
theorem mfold_good (times : Int) : ∀ (o : List En) (s : List En × Int), Good s.1 → (∀ e ∈ o, rightR e.1 = true) → Good (o.foldl (mstep times) s).1
  | [], _, h, _ => h
  | e :: o, s, h, hr => mfold_good times o _ (mstep_good times s e h (hr e (by simp))) fun f hf => hr f (by simp [hf])
theorem mergeS_good (times : Int) (l o : List En) (h : Good l) (hr : ∀ e ∈ o, rightR e.1 = true) : Good (mergeS times l o).1 := mfold_good times o _ h hr
theorem setL_len1 (x : List V) (k : Int) : ∀ l : List En, (setL x k l).length ≤ l.length + 1
  | [] => by
    unfold setL
    split <;> simp
  | e :: l => by
    have ih := setL_len1 x k l
    rw [setL_cons]
    split
    · simp only [List.length_cons]; omega
    · split
      · split <;> simp only [List.length_cons] <;> omega
      · split <;> simp only [List.length_cons] <;> omega
theorem mfold_len (times : Int) : ∀ (o : List En) (s : List En × Int), (o.foldl (mstep times) s).1.length ≤ s.1.length + o.length
  | [], _ => by simp
  | e :: o, s => by
    have ih := mfold_len times o (mstep times s e)
    have h1 : (mstep times s e).1.length ≤ s.1.length + 1 := by
      unfold mstep
      split
      · split
        · simp
        · exact setL_len1 _ _ _
      · omega
    rw [List.foldl_cons, List.length_cons]
    omega
theorem mergeS_len (times : Int) (l o : List En) : (mergeS times l o).1.length ≤ l.length + o.length := mfold_len times o _
theorem prod_bound (a b : Int) (ha : -1073741824 ≤ a ∧ a ≤ 1073741824) (hb : -1073741824 ≤ b ∧ b ≤ 1073741824) : -1152921504606846976 ≤ a * b ∧ a * b ≤ 1152921504606846976 := by
  have h : (a * b).natAbs ≤ 1073741824 * 1073741824 := by
    rw [Int.natAbs_mul]
    exact Nat.mul_le_mul (by omega) (by omega)
  omega

/-- What Merge makes of a bag's list, and the error's number. -/
def mergeL (times : Int) (l o : List En) : List En × Int := if fewN times = false then (l, 2) else if (mergeS times l o).2 = 0 then ((mergeS times l o).1, 0) else (l, 10)

/-! ### Where blocks that hold no cells change -/
theorem RowQ.kept {w w' : World} {Q : Nat → Prop} {A : Option Addr} {xs : List V} {row : Option Nat} (h : RowQ w Q A xs) (hg : w.grownBy w' row) (hr : ∀ r, row = some r → ∃ o : Obj, w.heap[r]? = some o ∧ o.isCells = false) : RowQ w' Q A xs := by
  intro i v hi
  obtain ⟨a, ha, hb, h0, h1, h2, h3⟩ := h i v hi
  exact ⟨a, ha, hb, cell_kept h0 hg hr, cell_kept h1 hg hr, cell_kept h2 hg hr, cell_kept h3 hg hr⟩
theorem NodeIs.kept {w w' : World} {Q : Nat → Prop} {b : Nat} {r : List V} {m : Int} {s : Nat} {pl ph : Option Addr} {row : Option Nat} (h : NodeIs w Q b r m s pl ph) (hg : w.grownBy w' row) (hr : ∀ r, row = some r → ∃ o : Obj, w.heap[r]? = some o ∧ o.isCells = false) : NodeIs w' Q b r m s pl ph := by
  obtain ⟨h1, hl, ⟨v, ⟨h0, A, c, e, hA, h2⟩, h4⟩, h5, h6, h7, h8⟩ := h
  exact ⟨h1, Nat.lt_of_lt_of_le hl hg.size, ⟨v, ⟨h0, A, c, e, hA, h2.kept hg hr⟩, cell_kept h4 hg hr⟩, cell_kept h5 hg hr, cell_kept h6 hg hr, cell_kept h7 hg hr, cell_kept h8 hg hr⟩
theorem TreeAt.kept {w w' : World} {Q : Nat → Prop} {row : Option Nat} (hg : w.grownBy w' row) (hr : ∀ r, row = some r → ∃ o : Obj, w.heap[r]? = some o ∧ o.isCells = false) : ∀ {p : Option Addr} {t : Tr}, TreeAt w Q p t → TreeAt w' Q p t
  | _, .nil, h => h
  | _, .node _ _ _ _, ⟨b, pl, ph, e, hn, hl, hh⟩ => ⟨b, pl, ph, e, hn.kept hg hr, TreeAt.kept hg hr hl, TreeAt.kept hg hr hh⟩
theorem addL_len (x : List V) (k : Int) (l : List En) : (addL x k l).1.length ≤ l.length + 1 := by
  unfold addL
  split
  · exact Nat.le_succ _
  · split
    · exact Nat.le_succ _
    · exact setL_len1 x _ l
end Go.Proofs.Ytpliofhphijdkaa
