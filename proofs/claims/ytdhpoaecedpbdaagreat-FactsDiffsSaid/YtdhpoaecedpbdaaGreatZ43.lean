/-
  Bags of rows as plain lists: what Add, Many, From and Merge make of a list in order; two such lists that have each row equally often are one; sums in whatever order.
  No Go in it.
  Bags of package bag as lists in order: New, Add, Of, Many, Len, From, Least, Most, Copy.
  No condition but that a bag has no more rows, and a row no more cells, than fits.
  Lists of rows, each so many times, in memory: two cells an entry, the row's slice and the number; what append leaves behind it.
  No condition but that a list is no longer than it can be.
-/
import Derived.Test.YtdhpoaecedpbdaaGreatZ2
import Derived.Test.YtdhpoaecedpbdaaGreatZ4
import Derived.Test.YtdhpoaecedpbdaaGreatZ42
import Derived.Test.YtdhpoaecedpbdaaGreatZ7
namespace Go.Proofs.YtdhpoaecedpbdaaGreat
section

/-- Is n a number of times that can be? -/
def fewN (n : Int) : Bool := decide (-1073741824 ≤ n) && decide (n ≤ 1073741824)
theorem fewN_iff (n : Int) : fewN n = true ↔ -1073741824 ≤ n ∧ n ≤ 1073741824 := by
  unfold fewN
  rw [Bool.and_eq_true, decide_eq_true_eq, decide_eq_true_eq]
/-- A list that a bag has. -/
def Good (l : List En) : Prop := Ord l ∧ ∀ e ∈ l, ¬ e.2 = 0 ∧ fewN e.2 = true ∧ rightR e.1 = true
theorem Good.nil : Good [] := ⟨trivial, fun e h => by cases h⟩

theorem manyL_few (x : List V) : ∀ l : List En, (∀ e ∈ l, fewN e.2 = true) → fewN (manyL x l) = true
  | [], _ => rfl
  | e :: l, h => by
    rw [manyL_cons]
    split
    · exact manyL_few x l fun f hf => h f (by simp [hf])
    · split
      · exact h e (by simp)
      · rfl
theorem Good.many {l : List En} (h : Good l) (x : List V) : -1073741824 ≤ manyL x l ∧ manyL x l ≤ 1073741824 := (fewN_iff _).1 (manyL_few x l fun e he => (h.2 e he).2.1)

theorem setL_mem (x : List V) (k : Int) : ∀ (l : List En) (e : En), e ∈ setL x k l → e ∈ l ∨ (¬ k = 0 ∧ e.2 = k ∧ (e.1 = x ∨ ∃ f ∈ l, f.1 = e.1))
  | [], e, h => by
    unfold setL at h
    split at h
    · cases h
    · next hk =>
      rw [List.mem_singleton] at h
      subst h
      exact Or.inr ⟨hk, rfl, Or.inl rfl⟩
  | a :: l, e, h => by
    rw [setL_cons] at h
    split at h
    · rcases List.mem_cons.1 h with rfl | h
      · exact Or.inl (by simp)
      · rcases setL_mem x k l e h with h | ⟨h1, h2, h3 | ⟨f, hf, h3⟩⟩
        · exact Or.inl (by simp [h])
        · exact Or.inr ⟨h1, h2, Or.inl h3⟩
        · exact Or.inr ⟨h1, h2, Or.inr ⟨f, by simp [hf], h3⟩⟩
    · split at h
      · split at h
        · exact Or.inl (by simp [h])
        · next hk =>
          rcases List.mem_cons.1 h with rfl | h
          · exact Or.inr ⟨hk, rfl, Or.inr ⟨a, by simp, rfl⟩⟩
          · exact Or.inl (by simp [h])
      · split at h
        · exact Or.inl h
        · next hk =>
          rcases List.mem_cons.1 h with rfl | h
          · exact Or.inr ⟨hk, rfl, Or.inl rfl⟩
          · exact Or.inl h
theorem setL_below (x : List V) (k : Int) (y : List V) (l : List En) (hy : ∀ e ∈ l, cmpR y e.1 < 0) (hx : cmpR y x < 0) : ∀ e ∈ setL x k l, cmpR y e.1 < 0 := by
  intro e he
  rcases setL_mem x k l e he with h | ⟨_, _, h | ⟨f, hf, h⟩⟩
  · exact hy e h
  · rw [h]; exact hx
  · rw [← h]; exact hy f hf
theorem setL_ord (x : List V) (k : Int) : ∀ l : List En, Ord l → Ord (setL x k l)
  | [], _ => by
    unfold setL
    split
    · exact trivial
    · exact ⟨fun f hf => (by cases hf), trivial⟩
  | a :: l, h => by
    obtain ⟨h1, h2⟩ := h
    have hf := cmpR_flip (a := a.1) (b := x)
    rw [setL_cons]
    split
    · next hlt => exact ⟨setL_below x k a.1 l h1 hlt, setL_ord x k l h2⟩
    · split
      · split
        · exact h2
        · exact ⟨h1, h2⟩
      · split
        · exact ⟨h1, h2⟩
        · refine ⟨?_, h1, h2⟩
          intro f hf2
          have hxa : cmpR x a.1 < 0 := by omega
          rcases List.mem_cons.1 hf2 with rfl | hf2
          · exact hxa
          · exact cmpR_lt3 hxa (h1 f hf2)
theorem setL_good (x : List V) (k : Int) (l : List En) (h : Good l) (hx : rightR x = true) (hk : fewN k = true) : Good (setL x k l) := by
  refine ⟨setL_ord x k l h.1, fun e he => ?_⟩
  rcases setL_mem x k l e he with h1 | ⟨h1, h2, h3 | ⟨f, hf, h3⟩⟩
  · exact h.2 e h1
  · exact ⟨by rw [h2]; exact h1, by rw [h2]; exact hk, by rw [h3]; exact hx⟩
  · exact ⟨by rw [h2]; exact h1, by rw [h2]; exact hk, by rw [← h3]; exact (h.2 f hf).2.2⟩

/-- Putting a row there as often as it is changes nothing. -/
theorem setL_same (x : List V) : ∀ l : List En, Good l → setL x (manyL x l) l = l
  | [], _ => rfl
  | a :: l, h => by
    have hl : Good l := ⟨h.1.2, fun e he => h.2 e (by simp [he])⟩
    have ih := setL_same x l hl
    have ha := (h.2 a (by simp)).1
    rw [manyL_cons, setL_cons]
    split
    · rw [ih]
    · split
      · rfl
      · rw [if_pos rfl]

/-- What Add makes of a bag's list, and the error's number. -/
def addL (x : List V) (k : Int) (l : List En) : List En × Int :=
  if rightR x = false then (l, 2) else if k < -1073741824 - manyL x l ∨ 1073741824 - manyL x l < k then (l, 10) else (setL x (manyL x l + k) l, 0)
theorem addL_good (x : List V) (k : Int) (l : List En) (h : Good l) : Good (addL x k l).1 := by
  unfold addL
  split
  · exact h
  · next hr =>
    split
    · exact h
    · next hk => exact setL_good x _ l h (by simpa using hr) ((fewN_iff _).2 (by omega))

theorem plusT_over (x : List V) (k : Int) (t : Tr) (h : Good t.toL) (hk : k < -1073741824 - manyL x t.toL ∨ 1073741824 - manyL x t.toL < k) : plusT x k t = (.nil, 10) := by
  unfold plusT
  rw [Tr.many_toL x t h.1, if_pos hk]
theorem plusT_ok (x : List V) (k : Int) (t : Tr) (h : Good t.toL) (hk : ¬ (k < -1073741824 - manyL x t.toL ∨ 1073741824 - manyL x t.toL < k)) : (plusT x k t).2 = 0 ∧ (plusT x k t).1.toL = setL x (manyL x t.toL + k) t.toL := by
  have hm := Tr.many_toL x t h.1
  unfold plusT
  rw [hm, if_neg hk]
  by_cases h3 : k = 0
  · rw [if_pos h3, h3, Int.add_zero, setL_same x _ h]
    exact ⟨rfl, rfl⟩
  · rw [if_neg h3]
    by_cases h4 : manyL x t.toL + k = 0
    · rw [if_pos h4, h4]
      exact ⟨rfl, Tr.toL_cut t x h.1 (manyL_mem x t.toL (by omega))⟩
    · rw [if_neg h4]
      exact ⟨rfl, Tr.toL_put x _ h4 t h.1⟩

/-- Two rows that can be, and are the same, are one. -/
theorem cmpR_zero {x y : List V} : cmpR x y = 0 → ∀ z, cmpR x z = cmpR y z := by
  intro h z
  have hf := cmpR_flip (a := x) (b := y)
  rcases cmpR_rng x z with h1 | h1 | h1
  · have := cmpR_le_lt (show cmpR y x ≤ 0 by omega) (show cmpR x z < 0 by omega)
    have := cmpR_rng y z
    omega
  · have := cmpR_ordered.tr0 y x z (by omega) h1
    omega
  · have f1 := cmpR_flip (a := x) (b := z)
    have f2 := cmpR_flip (a := y) (b := z)
    have := cmpR_lt_le (show cmpR z x < 0 by omega) (show cmpR x y ≤ 0 by omega)
    have := cmpR_rng y z
    omega

theorem manyL_above (x : List V) (l : List En) (h : ∀ e ∈ l, cmpR x e.1 < 0) : manyL x l = 0 := by
  cases l with
  | nil => rfl
  | cons e l =>
    have h1 := h e (by simp)
    have hf := cmpR_flip (a := x) (b := e.1)
    rw [manyL_cons, if_neg (by omega), if_neg (by omega)]
/-- How often rows are there once x has been put. -/
theorem manyL_set (x : List V) (k : Int) (y : List V) : ∀ l : List En, Ord l → manyL y (setL x k l) = if cmpR x y = 0 then k else manyL y l
  | [], _ => by
    unfold setL
    by_cases hk : k = 0
    · rw [if_pos hk, hk]
      show 0 = _
      split <;> rfl
    · rw [if_neg hk, manyL_cons]
      show (if cmpR x y < 0 then 0 else if cmpR x y = 0 then k else 0) = if cmpR x y = 0 then k else 0
      split
      · next h => rw [if_neg (by omega)]
      · rfl
  | a :: l, h => by
    obtain ⟨h1, h2⟩ := h
    have ih := manyL_set x k y l h2
    have fxy := cmpR_flip (a := x) (b := y)
    have fax := cmpR_flip (a := a.1) (b := x)
    have fay := cmpR_flip (a := a.1) (b := y)
    rw [setL_cons]
    by_cases hlt : cmpR a.1 x < 0
    · rw [if_pos hlt, manyL_cons, manyL_cons, ih]
      by_cases hz : cmpR x y = 0
      · have : cmpR a.1 y < 0 := cmpR_lt_le hlt (by omega)
        rw [if_pos this, if_pos hz, if_pos hz]
      · rw [if_neg hz, if_neg hz]
    · rw [if_neg hlt]
      by_cases hz0 : cmpR a.1 x = 0
      · rw [if_pos hz0]
        have hay := cmpR_zero hz0 y
        by_cases hz : cmpR x y = 0
        · rw [if_pos hz]
          split
          · next hk =>
            rw [hk]
            refine manyL_above y l fun e he => ?_
            exact cmpR_le_lt (show cmpR y a.1 ≤ 0 by omega) (h1 e he)
          · rw [manyL_cons, if_neg (by show ¬ cmpR a.1 y < 0; omega), if_pos (by show cmpR a.1 y = 0; omega)]
        · rw [if_neg hz]
          split
          · rw [manyL_cons]
            split
            · rfl
            · rw [if_neg (by omega)]
              refine manyL_above y l fun e he => ?_
              have : cmpR y a.1 < 0 := by have := cmpR_rng a.1 y; omega
              exact cmpR_lt3 this (h1 e he)
          · rw [manyL_cons, manyL_cons]
            show (if cmpR a.1 y < 0 then _ else if cmpR a.1 y = 0 then k else 0) = _
            rw [if_neg (show ¬ cmpR a.1 y = 0 by omega), if_neg (show ¬ cmpR a.1 y = 0 by omega)]
      · rw [if_neg hz0]
        have hxa : cmpR x a.1 < 0 := by have := cmpR_rng a.1 x; omega
        by_cases hz : cmpR x y = 0
        · rw [if_pos hz]
          have hya : cmpR y a.1 < 0 := cmpR_le_lt (by omega) hxa
          split
          · next hk =>
            rw [hk]
            refine manyL_above y _ fun e he => ?_
            rcases List.mem_cons.1 he with rfl | he
            · exact hya
            · exact cmpR_lt3 hya (h1 e he)
          · rw [manyL_cons, if_neg (by show ¬ cmpR x y < 0; omega), if_pos (by show cmpR x y = 0; omega)]
        · rw [if_neg hz]
          split
          · rfl
          · rw [manyL_cons]
            show (if cmpR x y < 0 then _ else if cmpR x y = 0 then k else 0) = _
            split
            · rfl
            · refine (manyL_above y _ fun e he => ?_).symm
              have hyx : cmpR y x < 0 := by have := cmpR_rng x y; omega
              rcases List.mem_cons.1 he with rfl | he
              · exact cmpR_lt3 hyx hxa
              · exact cmpR_lt3 (cmpR_lt3 hyx hxa) (h1 e he)

theorem manyL_self (e : En) (l : List En) : manyL e.1 (e :: l) = e.2 := by
  have := cmpR_ordered.self e.1
  rw [manyL_cons, if_neg (by omega), if_pos this]
theorem manyL_in : ∀ (l : List En), Ord l → ∀ e ∈ l, manyL e.1 l = e.2
  | [], _, e, he => by cases he
  | a :: l, h, e, he => by
    obtain ⟨h1, h2⟩ := h
    rcases List.mem_cons.1 he with rfl | he
    · exact manyL_self e l
    · rw [manyL_cons, if_pos (h1 e he)]
      exact manyL_in l h2 e he
end
end Go.Proofs.YtdhpoaecedpbdaaGreat
namespace Go.Proofs.YtdhpoaecedpbdaaGreat
section
open Go.RowKit

/-- A bag with the list l lies in the box at block g; its tree lies in blocks of Q. -/
def BagL (w : World) (Q : Nat → Prop) (g : Nat) (l : List En) : Prop := Good l ∧ ∃ p t, t.toL = l ∧ Boxed w g 185 (.pointer p) ∧ TreeAt w Q p t
/-- A bag at a pointer: no bag has no rows. -/
def BagP (w : World) (Q : Nat → Prop) (p : Option Addr) (l : List En) : Prop := (p = none ∧ l = []) ∨ ∃ g, p = some ⟨g, 0, none⟩ ∧ BagL w Q g l
theorem BagL.lt {w : World} {Q : Nat → Prop} {g : Nat} {l : List En} (h : BagL w Q g l) : g < w.heap.size := by
  obtain ⟨_, p, t, _, h1, _⟩ := h
  exact h1.lt
theorem BagL.keep {w w' : World} {Q : Nat → Prop} {g : Nat} {l : List En} (h : BagL w Q g l) (hk : KeepQ Q w w') (hg : w'.heap[g]? = w.heap[g]?) : BagL w' Q g l := by
  obtain ⟨h0, p, t, h1, h2, h3⟩ := h
  exact ⟨h0, p, t, h1, hg.trans h2, h3.keep hk⟩
theorem BagL.below {w w' : World} {Q : Nat → Prop} {g : Nat} {l : List En} (h : BagL w Q g l) (hb : Below w.heap.size w w') : BagL w' Q g l := h.keep (Below.keepQ hb Q) (hb.block g h.lt)
theorem BagL.only {w w' : World} {Q : Nat → Prop} {g g' : Nat} {l : List En} (h : BagL w Q g l) (hb : Only g' w w') (hg : ¬ Q g') (hne : g ≠ g') : BagL w' Q g l := h.keep (hb.keepQ hg) (hb.2 g h.lt hne)
theorem BagP.below {w w' : World} {Q : Nat → Prop} {p : Option Addr} {l : List En} (h : BagP w Q p l) (hb : Below w.heap.size w w') : BagP w' Q p l := by
  rcases h with h | ⟨g, h1, h2⟩
  · exact Or.inl h
  · exact Or.inr ⟨g, h1, h2.below hb⟩
theorem BagP.good {w : World} {Q : Nat → Prop} {p : Option Addr} {l : List En} (h : BagP w Q p l) : Good l := by
  rcases h with ⟨_, rfl⟩ | ⟨g, _, h, _⟩
  · exact Good.nil
  · exact h

theorem right_rows (R : Nat → Prop) (v : Value) (x : List V) (w : World) (hx : IsRow w R v x) : Calls Tryz.prog 146 #[v] w fun e w' => e = .returned (.bool (rightR x)) ∧ Below w.heap.size w w' := by
  have hl := hx.len
  obtain ⟨_, A, c, rfl, _, h1⟩ := hx
  exact row_right A x _ c w rfl hl h1.at

set_option maxHeartbeats 400000 in
theorem b_new (w : World) : Calls Tryz.prog 95 #[] w fun e w' => e = .returned (.pointer (some ⟨w.heap.size, 0, none⟩)) ∧ w' = w.alloc (.cells #[.pointer none] 185) := by
  go_enter Tryz.func95, Tryz.ntmps95
  go_wp2
  go_ret
  exact ⟨rfl, rfl⟩
theorem bag_new (Q : Nat → Prop) (w : World) : BagL (w.alloc (.cells #[.pointer none] 185)) Q w.heap.size [] :=
  ⟨Good.nil, none, .nil, rfl, Boxed.new w _ _, rfl⟩

/-- A call that changes a bag, and nothing else that was there. -/
def Changes (w : World) (Q : Nat → Prop) (g : Nat) (r : List En × Int) (e : Ending) (w' : World) : Prop := e = .returned (.int .i64 r.2) ∧ BagL w' Q g r.1 ∧ Only g w w'

theorem only_set (w : World) (g : Nat) (v : Value) : Only g w (w.setCell ⟨g, 0, none⟩ v) :=
  ⟨(Below.refl g w).setCell (p := ⟨g, 0, none⟩) (Nat.le_refl _) v, fun k _ hne => Below.heap_setCell w ⟨g, 0, none⟩ v k hne⟩

set_option maxHeartbeats 1000000 in
theorem b_add (R : Nat → Prop) (v : Value) (x : List V) (k : Int) (Q : Nat → Prop) (g : Nat) (l : List En) (w : World) (hk : -9223372036854775808 ≤ k ∧ k ≤ 9223372036854775807) (hQ : ∀ k, w.heap.size ≤ k → Q k) (hg : ¬ Q g) (hx : IsRow w R v x) (hb : BagL w Q g l) (hc : l.length ≤ 800000) :
    Calls Tryz.prog 121 #[.pointer (some ⟨g, 0, none⟩), v, .int .i64 k] w (Changes w Q g (addL x k l)) := by
  have HGO := Lib.hid (addL_good x k l hb.1)
  obtain ⟨hgo, p, t, rfl, hbox, ht⟩ := hb
  have hlt := hbox.lt
  have HX := Lib.hid hx
  have HQ := Lib.hid hQ
  have HG := Lib.hid hgo
  have HNG := Lib.hid hg
  have HB := Lib.hid hbox
  have HT := Lib.hid ht
  have HC := Lib.hid hc
  obtain ⟨_, A, c, rfl, _, _⟩ := hx
  have c0 := hbox.cell
  clear hQ hgo hbox ht hc hg
  unfold addL at HGO ⊢
  by_cases hr : rightR x = true
  · have hr' : ¬ rightR x = false := by simp [hr]
    rw [if_neg hr'] at HGO ⊢
    have HR := Lib.hid hr
    clear hr hr'
    by_cases ho : k < -1073741824 - manyL x t.toL ∨ 1073741824 - manyL x t.toL < k
    · rw [if_pos ho]
      have HP := Lib.hid (plusT_over x k t HG.out ho)
      clear ho
      go_enter Tryz.func121, Tryz.ntmps121
      go_wp2_with fail
      refine (right_rows R _ x _ HX.out).mono ?_
      rintro e w1 ⟨rfl, hbw⟩
      rw [HR.out]
      have hc1 := cl_of hbw g 0 hlt
      have HBW := Lib.hid hbw
      clear hbw
      go_wp2_with fail
      refine (t_plus R _ x k Q t p _ HG.out.1 (by rw [Tr.many_toL x t HG.out.1]; exact HG.out.many x) hk (fun j hj => HQ.out j (by have := HBW.out.size; omega)) (HX.out.below HBW.out) (HT.out.below HBW.out) (by rw [← Tr.len_toL]; exact HC.out)).mono ?_
      rintro e w2 ⟨q, rfl, hT2, hbw2⟩
      rw [HP.out]
      go_wp2
      go_ret
      have hbb := HBW.out.trans (hbw2.mono HBW.out.size)
      exact ⟨rfl, BagL.below ⟨HG.out, p, t, rfl, HB.out, HT.out⟩ hbb, Only.of_below hbb (by omega)⟩
    · rw [if_neg ho] at HGO ⊢
      have hpt := plusT_ok x k t HG.out ho
      have HP := Lib.hid hpt.1
      have HPL := Lib.hid hpt.2
      clear ho hpt
      go_enter Tryz.func121, Tryz.ntmps121
      go_wp2_with fail
      refine (right_rows R _ x _ HX.out).mono ?_
      rintro e w1 ⟨rfl, hbw⟩
      rw [HR.out]
      have hc1 := cl_of hbw g 0 hlt
      have HBW := Lib.hid hbw
      clear hbw
      go_wp2_with fail
      refine (t_plus R _ x k Q t p _ HG.out.1 (by rw [Tr.many_toL x t HG.out.1]; exact HG.out.many x) hk (fun j hj => HQ.out j (by have := HBW.out.size; omega)) (HX.out.below HBW.out) (HT.out.below HBW.out) (by rw [← Tr.len_toL]; exact HC.out)).mono ?_
      rintro e w2 ⟨q, rfl, hT2, hbw2⟩
      rw [HP.out]
      have hbb := HBW.out.trans (hbw2.mono HBW.out.size)
      have hbox2 : Boxed w2 g 185 (.pointer p) := (hbb.block g hlt).trans HB.out
      have HB2 := Lib.hid hbox2
      have c2 := hbox2.cell
      have f2 := hbox2.frozen
      have HBB := Lib.hid hbb
      clear hbb hbox2 hbw2
      go_wp2
      go_ret
      refine ⟨rfl, ⟨HGO.out, q, _, HPL.out, HB2.out.set _, hT2.keep ((only_set _ _ _).keepQ HNG.out)⟩, (Only.of_below HBB.out (by omega)).trans (only_set _ _ _)⟩
  · have hr' : rightR x = false := by simpa using hr
    rw [if_pos hr']
    have HR := Lib.hid hr'
    clear hr hr'
    go_enter Tryz.func121, Tryz.ntmps121
    go_wp2_with fail
    refine (right_rows R _ x _ HX.out).mono ?_
    rintro e w1 ⟨rfl, hbw⟩
    rw [HR.out]
    go_wp2
    go_ret
    exact ⟨rfl, BagL.below ⟨HG.out, p, t, rfl, HB.out, HT.out⟩ hbw, Only.of_below hbw (by omega)⟩

set_option maxHeartbeats 400000 in
theorem b_add_nil (R : Nat → Prop) (v : Value) (x : List V) (k : Int) (w : World) (hx : IsRow w R v x) : Calls Tryz.prog 121 #[.pointer none, v, .int .i64 k] w fun e w' => e = .returned (.int .i64 1) ∧ w = w' := by
  obtain ⟨_, A, c, rfl, _, _⟩ := hx
  go_enter Tryz.func121, Tryz.ntmps121
  go_wp2
  go_ret
  exact ⟨rfl, rfl⟩

set_option maxHeartbeats 400000 in
theorem b_top (Q : Nat → Prop) (p : Option Addr) (l : List En) (w : World) (hb : BagP w Q p l) :
    Calls Tryz.prog 123 #[.pointer p] w fun e w' => ∃ q t, e = .returned (.pointer q) ∧ t.toL = l ∧ TreeAt w Q q t ∧ w = w' := by
  rcases hb with ⟨rfl, rfl⟩ | ⟨g, rfl, hgo, q, t, rfl, hbox, ht⟩
  · go_enter Tryz.func123, Tryz.ntmps123
    go_wp2
    go_ret
    exact ⟨none, .nil, rfl, rfl, rfl, rfl⟩
  · have c0 := hbox.cell
    have HT := Lib.hid ht
    clear hgo hbox ht
    go_enter Tryz.func123, Tryz.ntmps123
    go_wp2
    go_ret
    exact ⟨q, t, rfl, rfl, HT.out, rfl⟩

set_option maxHeartbeats 400000 in
theorem top_nil (w : World) : Calls Tryz.prog 123 #[.pointer none] w fun e w' => e = .returned (.pointer none) ∧ w = w' := by
  go_enter Tryz.func123, Tryz.ntmps123
  go_wp2
  go_ret
  exact ⟨rfl, rfl⟩
set_option maxHeartbeats 400000 in
theorem top_at (g : Nat) (q : Option Addr) (w : World) (h : w.cell? ⟨g, 0, none⟩ = some (.pointer q)) : Calls Tryz.prog 123 #[.pointer (some ⟨g, 0, none⟩)] w fun e w' => e = .returned (.pointer q) ∧ w = w' := by
  go_enter Tryz.func123, Tryz.ntmps123
  go_wp2
  go_ret
  exact ⟨rfl, rfl⟩

set_option maxHeartbeats 400000 in
theorem b_len (Q : Nat → Prop) (p : Option Addr) (l : List En) (w : World) (hb : BagP w Q p l) :
    Calls Tryz.prog 122 #[.pointer p] w fun e w' => e = .returned (.int .i64 (l.length : Int)) ∧ w = w' := by
  have HT := Lib.hid (b_top Q p l w hb)
  clear hb
  go_enter Tryz.func122, Tryz.ntmps122
  go_wp2_with fail
  refine HT.out.mono ?_
  rintro e w1 ⟨q, t, rfl, hl, ht, rfl⟩
  have HL := Lib.hid hl
  clear hl
  go_wp2_with fail
  refine (t_len Q q t _ ht).mono ?_
  rintro e w1 ⟨rfl, rfl⟩
  go_wp2
  go_ret
  exact ⟨ret_int (by rw [← HL.out, Tr.len_toL]), rfl⟩

/-- What a search answers: a row, or why there is none. -/
def told (p : Option Addr) (e : Option En) : List V × Int := if p = none then ([], 1) else match e with | none => ([], 5) | some e => (e.1, 0)
/-- A call that answers a row and an error's number, and changes nothing that was there. -/
def Tells (w : World) (Q : Nat → Prop) (r : List V × Int) (e : Ending) (w' : World) : Prop := ∃ u, e = .returned (.tuple #[u, .int .i64 r.2]) ∧ IsRow w' Q u r.1 ∧ Below w.heap.size w w'

theorem row_none (w : World) (Q : Nat → Prop) : IsRow w Q (.slice none 0 0) [] := ⟨by simp, none, 0, rfl, fun _ => rfl, fun i v hi => by simp at hi⟩

theorem BagP.ptr {w : World} {Q : Nat → Prop} {p : Option Addr} {l : List En} (h : BagP w Q p l) : p = none ∨ ∃ g, p = some ⟨g, 0, none⟩ := by
  rcases h with ⟨h, _⟩ | ⟨g, h, _⟩
  · exact Or.inl h
  · exact Or.inr ⟨g, h⟩

theorem root_least (t : Tr) : t.least.root = t.toL.head? := by
  cases t with
  | nil => rfl
  | node r m l h =>
    obtain ⟨a, b, c, h1, rest, h2⟩ := Tr.least_toL (.node r m l h) (by simp [Tr.isNil])
    rw [h1, h2]
    rfl
theorem root_most (t : Tr) : t.most.root = t.toL.getLast? := by
  cases t with
  | nil => rfl
  | node r m l h =>
    obtain ⟨a, b, c, h1, rest, h2⟩ := Tr.most_toL (.node r m l h) (by simp [Tr.isNil])
    rw [h1, h2, List.getLast?_concat]
    rfl
end
end Go.Proofs.YtdhpoaecedpbdaaGreat
namespace Go.Proofs.YtdhpoaecedpbdaaGreat
section
open Go.RowKit

/-- An entry as it lies: the row's slice, how often. -/
abbrev RE := Value × Int
def flatE (ls : List RE) : List Value := ls.flatMap fun e => [e.1, .int .i64 e.2]
theorem flatE_len (ls : List RE) : (flatE ls).length = ls.length * 2 := by
  induction ls with
  | nil => rfl
  | cons x xs ih =>
    have h : (flatE (x :: xs)).length = 2 + (flatE xs).length := by simp [flatE]; omega
    rw [h, ih, List.length_cons]
    omega
theorem flatE_append (a b : List RE) : flatE (a ++ b) = flatE a ++ flatE b := by simp [flatE]
theorem flatE_cons (x : RE) (xs : List RE) : flatE (x :: xs) = x.1 :: .int .i64 x.2 :: flatE xs := rfl
theorem flatE_at : ∀ (ls : List RE) (i : Nat) (e : RE), ls[i]? = some e → (flatE ls)[i * 2]? = some e.1 ∧ (flatE ls)[i * 2 + 1]? = some (.int .i64 e.2)
  | [], _, _, h => by simp at h
  | x :: xs, 0, e, h => by
    have h' : x = e := by simpa using h
    subst h'
    exact ⟨rfl, rfl⟩
  | x :: xs, i + 1, e, h => by
    have ih := flatE_at xs i e (by simpa using h)
    rw [flatE_cons, show (i + 1) * 2 = i * 2 + 2 from by omega]
    exact ih
theorem flatE_take : ∀ (ls : List RE) (n : Nat), flatE (ls.take n) = (flatE ls).take (n * 2)
  | [], n => by simp [flatE]
  | x :: xs, 0 => by simp [flatE]
  | x :: xs, n + 1 => by
    rw [List.take_succ_cons, flatE_cons, flatE_cons, flatE_take xs n, show (n + 1) * 2 = n * 2 + 1 + 1 from by omega]
    rfl
theorem flatE_drop : ∀ (ls : List RE) (n : Nat), flatE (ls.drop n) = (flatE ls).drop (n * 2)
  | [], n => by simp [flatE]
  | x :: xs, 0 => by simp [flatE]
  | x :: xs, n + 1 => by
    rw [List.drop_succ_cons, flatE_cons, flatE_drop xs n, show (n + 1) * 2 = n * 2 + 1 + 1 from by omega]
    rfl

/-- The entries as they lie are these rows, each so often. -/
def EnR (w : World) (Q : Nat → Prop) : List RE → List En → Prop
  | [], [] => True
  | a :: ls, b :: l => a.2 = b.2 ∧ IsRow w Q a.1 b.1 ∧ EnR w Q ls l
  | _, _ => False
theorem EnR.len {w : World} {Q : Nat → Prop} : ∀ {ls : List RE} {l : List En}, EnR w Q ls l → ls.length = l.length
  | [], [], _ => rfl
  | _ :: _, _ :: _, h => by rw [List.length_cons, List.length_cons, EnR.len h.2.2]
theorem EnR.keep {w w' : World} {Q : Nat → Prop} (hk : KeepQ Q w w') : ∀ {ls : List RE} {l : List En}, EnR w Q ls l → EnR w' Q ls l
  | [], [], _ => trivial
  | _ :: _, _ :: _, h => ⟨h.1, h.2.1.keep hk, EnR.keep hk h.2.2⟩
theorem EnR.imp {w : World} {Q Q' : Nat → Prop} (hq : ∀ k, k < w.heap.size → Q k → Q' k) : ∀ {ls : List RE} {l : List En}, EnR w Q ls l → EnR w Q' ls l
  | [], [], _ => trivial
  | _ :: _, _ :: _, h => ⟨h.1, h.2.1.imp hq, EnR.imp hq h.2.2⟩
theorem EnR.append {w : World} {Q : Nat → Prop} : ∀ {a c : List RE} {b d : List En}, EnR w Q a b → EnR w Q c d → EnR w Q (a ++ c) (b ++ d)
  | [], _, [], _, _, h => h
  | _ :: _, _, _ :: _, _, h, h' => ⟨h.1, h.2.1, EnR.append h.2.2 h'⟩
theorem EnR.take {w : World} {Q : Nat → Prop} : ∀ {a : List RE} {b : List En} (n : Nat), EnR w Q a b → EnR w Q (a.take n) (b.take n)
  | [], [], n, _ => by simp [EnR]
  | _ :: _, _ :: _, 0, _ => trivial
  | _ :: _, _ :: _, n + 1, h => ⟨h.1, h.2.1, EnR.take n h.2.2⟩
theorem EnR.drop {w : World} {Q : Nat → Prop} : ∀ {a : List RE} {b : List En} (n : Nat), EnR w Q a b → EnR w Q (a.drop n) (b.drop n)
  | [], [], n, _ => by simp [EnR]
  | _ :: _, _ :: _, 0, h => h
  | _ :: _, _ :: _, n + 1, h => EnR.drop n h.2.2
theorem EnR.get {w : World} {Q : Nat → Prop} : ∀ {a : List RE} {b : List En} (i : Nat) (e : En), EnR w Q a b → b[i]? = some e → ∃ v, a[i]? = some (v, e.2) ∧ IsRow w Q v e.1
  | [], [], _, _, _, h => by simp at h
  | x :: _, y :: _, 0, e, h, he => by
    have e1 : y = e := by simpa using he
    subst e1
    exact ⟨x.1, by rw [← h.1]; rfl, h.2.1⟩
  | _ :: _, _ :: _, i + 1, e, h, he => by
    obtain ⟨v, h1, h2⟩ := EnR.get i e h.2.2 (by simpa using he)
    exact ⟨v, by simpa using h1, h2⟩
theorem EnR.one {w : World} {Q : Nat → Prop} : ∀ {a : List RE} {b : List En}, EnR w Q a b → ∀ u ∈ flatE a, u.oneCell' = true
  | [], [], _, u, hu => by simp [flatE] at hu
  | x :: xs, _ :: _, h, u, hu => by
    rw [flatE_cons, List.mem_cons, List.mem_cons] at hu
    rcases hu with rfl | rfl | hu
    · obtain ⟨_, A, c, e, _⟩ := h.2.1
      rw [e]
      rfl
    · rfl
    · exact EnR.one h.2.2 u hu

/-- The list l lies at A, in blocks of Q. -/
def EntsQ (w : World) (Q : Nat → Prop) (A : Option Addr) (l : List En) : Prop := ∃ ls, EnR w Q ls l ∧ CellsQ w Q A (flatE ls)
theorem EntsQ.keep {w w' : World} {Q : Nat → Prop} {A : Option Addr} {l : List En} (h : EntsQ w Q A l) (hk : KeepQ Q w w') : EntsQ w' Q A l := by
  obtain ⟨ls, h1, h2⟩ := h
  exact ⟨ls, h1.keep hk, h2.keep hk⟩
theorem EntsQ.below {w w' : World} {Q : Nat → Prop} {A : Option Addr} {l : List En} (h : EntsQ w Q A l) (hb : Below w.heap.size w w') : EntsQ w' Q A l := h.keep (Below.keepQ hb Q)
theorem EntsQ.imp {w : World} {Q Q' : Nat → Prop} {A : Option Addr} {l : List En} (h : EntsQ w Q A l) (hq : ∀ k, k < w.heap.size → Q k → Q' k) : EntsQ w Q' A l := by
  obtain ⟨ls, h1, h2⟩ := h
  exact ⟨ls, h1.imp hq, h2.imp hq⟩
/-- The cells of an entry. -/
theorem EntsQ.get {w : World} {Q : Nat → Prop} {A : Option Addr} {l : List En} (h : EntsQ w Q A l) (i : Nat) (e : En) (he : l[i]? = some e) :
    ∃ a v, A = some a ∧ IsRow w Q v e.1 ∧ (a.add (i * 2)).block < w.heap.size ∧ w.cell? (a.add (i * 2)) = some v ∧ w.cell? { block := (a.add (i * 2)).block, off := (a.add (i * 2)).off + 1 } = some (.int .i64 e.2) := by
  obtain ⟨ls, h1, h2⟩ := h
  obtain ⟨v, h3, h4⟩ := h1.get i e he
  obtain ⟨f0, f1⟩ := flatE_at ls i _ h3
  obtain ⟨a, ha, _, hc⟩ := h2 _ _ f0
  obtain ⟨a', ha', _, hc'⟩ := h2 _ _ f1
  subst ha
  injection ha' with ha'
  subst ha'
  refine ⟨a, v, rfl, h4, World.block_lt_of_cell? w _ hc, hc, ?_⟩
  rw [add_off _ _ _ (by omega)]
  exact hc'

/-- v is a list of entries of the call's own. -/
def OwnE (w : World) (base : Nat) (v : Value) (ls : List RE) : Prop := w.ownsRow base 113 2 v ls.length (flatE ls)
theorem OwnE.nil (w : World) (base : Nat) : OwnE w base (.slice none 0 0) [] := World.ownsRow_nil w base _ _
theorem OwnE.base_le {w : World} {base : Nat} {v : Value} {ls : List RE} (h : OwnE w base v ls) : ∀ k, v.ownBlock = some k → base ≤ k := fun k hk => (World.ownsRow.lt h k hk).1
theorem OwnE.alloc {w : World} {base : Nat} {v : Value} {ls : List RE} (h : OwnE w base v ls) (o : Obj) : OwnE (w.alloc o) base v ls := World.ownsRow.alloc h o
theorem OwnE.below {w w' : World} {base : Nat} {v : Value} {ls : List RE} (h : OwnE w base v ls) (hb : Below w.heap.size w w') : OwnE w' base v ls := by
  refine ⟨h.1, ?_⟩
  rcases h.2 with hn | ⟨g, cap, cur, hv, hg, hh, r⟩
  · exact Or.inl hn
  · have hlt : g < w.heap.size := (Array.getElem?_eq_some_iff.1 hh).1
    exact Or.inr ⟨g, cap, cur, hv, hg, (hb.block g hlt).trans hh, r⟩
theorem OwnE.slice {w : World} {base : Nat} {v : Value} {ls : List RE} (h : OwnE w base v ls) (Q : Nat → Prop) (hQ : ∀ k, base ≤ k → Q k) : ∃ A c, v = .slice A ls.length c ∧ (A = none → c = 0) ∧ ls.length ≤ c ∧ CellsQ w Q A (flatE ls) := by
  rcases h.2 with ⟨rfl, hn⟩ | ⟨g, cap, cur, rfl, hb, hg, hcap, _⟩
  · refine ⟨none, 0, by rw [hn], fun _ => rfl, by omega, fun j u hj => ?_⟩
    have h1 := (List.getElem?_eq_some_iff.1 hj).1
    rw [flatE_len] at h1
    omega
  · refine ⟨_, _, rfl, fun h => by simp at h, hcap, fun j u hj => ⟨_, rfl, ?_, ?_⟩⟩
    · rw [show ((⟨g, 0, none⟩ : Addr).add j).block = g from by unfold Addr.add; split <;> rfl]
      exact hQ _ hb
    · exact World.ownsRow.cells h (g := g) rfl _ _ hj

theorem info_E : (Tryz.prog.info? 113).map (fun i => (i.zero, i.size, i.bytes)) = some (some (.agg #[.slice none 0 0, .int .i64 0]), 2, 32) := by kernel_rfl

set_option maxRecDepth 10000 in
theorem append_E (w : World) (ty : TypeId) (base : Nat) (v : Value) (xs ys : List RE) (hown : OwnE w base v xs) (A : Option Addr) (m c : Nat) (hm : m = ys.length) (Q : Nat → Prop) (hr : CellsQ w Q A (flatE ys)) (h1 : ∀ u ∈ flatE ys, u.oneCell' = true)
    (hroom : xs.length + ys.length ≤ 3000000) (hbase : base ≤ w.heap.size) :
    ∃ v' w', (Builtin.append_ #[59, 59] ty #[v, .slice A m c]).run Tryz.prog w = .ok v' w' ∧ OwnE w' base v' (xs ++ ys) ∧ w.grownBy w' v.ownBlock ∧ (v'.ownBlock = v.ownBlock ∨ v'.ownBlock = some w.heap.size) := by
  obtain ⟨i, hi, hz, hsize, hby⟩ := info_parts info_E
  cases A with
  | none =>
    have hy : ys = [] := by
      cases ys with
      | nil => rfl
      | cons y ys =>
        obtain ⟨a, ha, _⟩ := hr 0 _ rfl
        cases ha
    subst hy
    subst hm
    refine ⟨v, w, ?_, by simpa using hown, World.grownBy.refl _ _, Or.inl rfl⟩
    rcases hown.2 with ⟨rfl, _⟩ | ⟨g, cap, cur, rfl, _, _, hnc, _⟩
    · simp [Builtin.append_, run_underlying Tryz.underlying59, sizeOf, typeInfo, hi, Builtin.lenOf, Builtin.firstCells]
    · simp [Builtin.append_, run_underlying Tryz.underlying59, sizeOf, typeInfo, hi, Builtin.lenOf, Builtin.firstCells, hnc, storeCells]
  | some ad =>
    obtain ⟨v', w', h2, h3, h4, _, h5⟩ := run_append_own_at (P := Tryz.prog) w base 59 ty 113 i _ 2 32 Tryz.underlying59 hi hz hsize hby rfl (by omega) v xs.length (flatE xs) hown ad m c (flatE ys)
      (by rw [flatE_len, hm]) (fun j u hj => by obtain ⟨a, ha, _, hc⟩ := hr j u hj; injection ha with ha; subst ha; exact hc) h1 (by unfold maxLen; omega) (by omega) hbase
    refine ⟨v', w', h2, ?_, h4, h5⟩
    unfold OwnE
    rw [flatE_append, List.length_append, ← hm]
    exact h3

theorem wp_append_E {ops : Array Oper} {rest : List Oper} {o : Oper} {a : Act} {Q : Exit → Act → World → Prop} (w : World) (hgd : o.guard = none) (s x : Operand)
    (ho : o.op = .call { callee := .builtin .append, args := #[s, x], argTypes := #[59, 59] })
    (base : Nat) (v : Value) (xs ys : List RE) (hs : a.eval s = v) (hown : OwnE w base v xs) (A : Option Addr) (m c : Nat) (hx : a.eval x = .slice A m c) (hm : m = ys.length) (R : Nat → Prop) (hr : CellsQ w R A (flatE ys)) (h1 : ∀ u ∈ flatE ys, u.oneCell' = true)
    (hroom : xs.length + ys.length ≤ 3000000) (hbase : base ≤ w.heap.size)
    (h : ∀ v' w', OwnE w' base v' (xs ++ ys) → Below base w w' → w.grownBy w' v.ownBlock → (v'.ownBlock = v.ownBlock ∨ v'.ownBlock = some w.heap.size) → wpList Tryz.prog ops Q rest (a.put o.dst v') w') : wpList Tryz.prog ops Q (o :: rest) a w := by
  refine wpList_plain hgd fun K hK => ?_
  obtain ⟨v', w', hrun, h2, h3, h4⟩ := append_E w o.type base v xs ys hown A m c hm R hr h1 hroom hbase
  unfold Oper.wp execOp
  simp only [ho, resolve, invoke, builtin, Sem.run_bind, Sem.run_pure, Result.andThen_ok, List.map_toArray, List.map_cons, List.map_nil, hs, hx, hrun]
  exact hK _ _ (h v' w' h2 ((Below.refl _ _).grown h3 hbase (fun k hk => hown.base_le k hk)) h3 h4)
theorem op_append_E {o : Oper} {a : Act} {K : Act → World → Prop} {Q : Exit → Act → World → Prop} (w : World) (s x : Operand)
    (ho : o.op = .call { callee := .builtin .append, args := #[s, x], argTypes := #[59, 59] })
    (base : Nat) (v : Value) (xs ys : List RE) (hs : a.eval s = v) (hown : OwnE w base v xs) (A : Option Addr) (m c : Nat) (hx : a.eval x = .slice A m c) (hm : m = ys.length) (R : Nat → Prop) (hr : CellsQ w R A (flatE ys)) (h1 : ∀ u ∈ flatE ys, u.oneCell' = true)
    (hroom : xs.length + ys.length ≤ 3000000) (hbase : base ≤ w.heap.size)
    (h : ∀ v' w', OwnE w' base v' (xs ++ ys) → Below base w w' → w.grownBy w' v.ownBlock → (v'.ownBlock = v.ownBlock ∨ v'.ownBlock = some w.heap.size) → K (a.put o.dst v') w') : Oper.wp Tryz.prog o a w K Q := by
  obtain ⟨v', w', hrun, h2, h3, h4⟩ := append_E w o.type base v xs ys hown A m c hm R hr h1 hroom hbase
  unfold Oper.wp execOp
  simp only [ho, resolve, invoke, builtin, Sem.run_bind, Sem.run_pure, Result.andThen_ok, List.map_toArray, List.map_cons, List.map_nil, hs, hx, hrun]
  exact h v' w' h2 ((Below.refl _ _).grown h3 hbase (fun k hk => hown.base_le k hk)) h3 h4
theorem op_append_Ed {o : Oper} {a : Act} {K : Act → World → Prop} {Q : Exit → Act → World → Prop} (w : World) (s x : Operand) (d : Nat) (hd : o.dst = some d)
    (ho : o.op = .call { callee := .builtin .append, args := #[s, x], argTypes := #[59, 59] })
    (base : Nat) (v : Value) (xs ys : List RE) (hs : a.eval s = v) (hown : OwnE w base v xs) (A : Option Addr) (m c : Nat) (hx : a.eval x = .slice A m c) (hm : m = ys.length) (R : Nat → Prop) (hr : CellsQ w R A (flatE ys)) (h1 : ∀ u ∈ flatE ys, u.oneCell' = true)
    (hroom : xs.length + ys.length ≤ 3000000) (hbase : base ≤ w.heap.size)
    (h : ∀ v' w', OwnE w' base v' (xs ++ ys) → Below base w w' → w.grownBy w' v.ownBlock → (v'.ownBlock = v.ownBlock ∨ v'.ownBlock = some w.heap.size) → K { tmps := a.tmps.setIfInBounds d v', defers := a.defers } w') : Oper.wp Tryz.prog o a w K Q := by
  refine op_append_E w s x ho base v xs ys hs hown A m c hx hm R hr h1 hroom hbase ?_
  intro v' w' h2 h3 h4 h5
  rw [hd]
  exact h v' w' h2 h3 h4 h5
theorem OwnE.succ {w : World} {base : Nat} {v : Value} {ls : List RE} {e : RE} (h : OwnE w base v (ls ++ [e])) : ∃ g cap, v = .slice (some ⟨g, 0, none⟩) (ls.length + 1) cap := by
  rcases h.2 with ⟨_, h0⟩ | ⟨g, cap, _, hv, _⟩
  · simp at h0
  · exact ⟨g, cap, by rw [hv, List.length_append]; rfl⟩
theorem wp_make_E {ops : Array Oper} {rest : List Oper} {o : Oper} {a : Act} {Q : Exit → Act → World → Prop} (w : World) (hg : o.guard = none) (l c : Operand) (hop : o.op = Op.makeSlice 59 l c)
    (base : Nat) (n : Nat) (hl : a.eval l = .int .i64 0) (hc : a.eval c = .int .i64 (n : Int)) (hn : n ≤ 3000000) (hbase : base ≤ w.heap.size)
    (h : ∀ v' w', OwnE w' base v' [] → Below base w w' → wpList Tryz.prog ops Q rest (a.put o.dst v') w') : wpList Tryz.prog ops Q (o :: rest) a w := by
  obtain ⟨i, hi, hz, hsize, hby⟩ := info_parts info_E
  exact wpList_make_own w hg l c 59 hop base 113 i _ 2 Tryz.underlying59 hi hz hsize .i64 .i64 _ n hl hc rfl (by rw [hby]; omega) (by unfold maxLen; omega) hbase
    fun w' h1 h2 => h _ w' h1 ((Below.refl _ _).grown h2 hbase (fun k hk => by cases hk))
/-- A block of one entry's two cells is a list of that entry. -/
theorem ent_lit1 (w : World) (v : Value) (m : Int) (Q : Nat → Prop) (hQ : ∀ k, w.heap.size ≤ k → Q k) : CellsQ (w.alloc (.cells #[v, .int .i64 m] 113)) Q (some ⟨w.heap.size, 0, none⟩) (flatE [(v, m)]) := by
  intro j u hj
  have hj' : j < 2 := (List.getElem?_eq_some_iff.1 hj).1
  refine ⟨_, rfl, ?_, ?_⟩
  · rw [show ((⟨w.heap.size, 0, none⟩ : Addr).add j).block = w.heap.size from by unfold Addr.add; split <;> rfl]
    exact hQ _ (Nat.le_refl _)
  · rw [show ((⟨w.heap.size, 0, none⟩ : Addr).add j) = ⟨w.heap.size, j, none⟩ from by unfold Addr.add; split <;> simp_all, alloc_new_cells]
    simpa [flatE] using hj
end
end Go.Proofs.YtdhpoaecedpbdaaGreat
