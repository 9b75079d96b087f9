/-
  Pure: the places in order, of equal rows the first alone: the rows in order, each once.
-/
import Derived.Test.YtmiagdmfgebfdaaSym4
import Derived.Test.YtmiagdmfgebfdaaOrder
namespace Go.Proofs.Ytmiagdmfgebfdaa
open Go.RowKit

theorem onto : ∀ (n : Nat) (f : Nat → Nat), (∀ i, i < n → f i < n) → (∀ i j, i < j → j < n → f i ≠ f j) → ∀ k, k < n → ∃ i, i < n ∧ f i = k
  | 0, _, _, _, k, hk => by omega
  | n + 1, f, hb, hi, k, hk => by
    have ih := onto n (fun i => if f i = n then f n else f i) (fun i h => by
      have h1 := hb i (by omega)
      have h2 := hb n (by omega)
      have h3 := hi i n h (by omega)
      show (if f i = n then f n else f i) < n
      split <;> omega) (fun i j hij hj => by
      have h1 := hi i n (by omega) (by omega)
      have h2 := hi j n hj (by omega)
      have h3 := hi i j hij (by omega)
      show (if f i = n then f n else f i) ≠ (if f j = n then f n else f j)
      split <;> split <;> omega)
    by_cases hkv : k = f n
    · exact ⟨n, by omega, hkv.symm⟩
    · rcases Nat.lt_or_ge k n with h | h
      · obtain ⟨i, h1, h2⟩ := ih k h
        have h2 : (if f i = n then f n else f i) = k := h2
        split at h2
        · omega
        · exact ⟨i, by omega, h2⟩
      · have e : k = n := by omega
        have hv := hb n (by omega)
        obtain ⟨i, h1, h2⟩ := ih (f n) (by omega)
        have h2 : (if f i = n then f n else f i) = f n := h2
        have h3 := hi i n h1 (by omega)
        split at h2
        · exact ⟨i, by omega, by omega⟩
        · omega

/-- Rows in order, of equal ones the first alone. -/
def Fsts (R : List (List V)) (out : List (List V)) : Prop := out.Pairwise (fun a b => cmpR a b < 0) ∧ (∀ y : List V, y ∈ out → ∃ i : Nat, R[i]? = some y ∧ ∀ (k : Nat) (z : List V), k < i → R[k]? = some z → cmpR z y ≠ 0) ∧ (∀ x : List V, x ∈ R → ∃ y : List V, y ∈ out ∧ cmpR y x = 0)
theorem fsts_mem {R a b : List (List V)} (ha : Fsts R a) (hb : Fsts R b) : ∀ y ∈ a, y ∈ b := by
  intro y hy
  obtain ⟨i, h1, h2⟩ := ha.2.1 y hy
  obtain ⟨z, hz, h3⟩ := hb.2.2 y (List.mem_of_getElem? h1)
  obtain ⟨j, h4, h5⟩ := hb.2.1 z hz
  rcases Nat.lt_trichotomy i j with h | h | h
  · have := h5 i y h h1
    have := cmpR_ordered.anti y z
    omega
  · subst h
    rw [h1] at h4
    injection h4 with h4
    rw [h4]
    exact hz
  · exact absurd h3 (h2 j z h h4)
theorem sorted_one : ∀ (a b : List (List V)), a.Pairwise (fun a b => cmpR a b < 0) → b.Pairwise (fun a b => cmpR a b < 0) → (∀ y ∈ a, y ∈ b) → (∀ y ∈ b, y ∈ a) → a = b
  | [], [], _, _, _, _ => rfl
  | [], y :: b, _, _, _, h => by have := h y (by simp); cases this
  | x :: a, [], _, _, h, _ => by have := h x (by simp); cases this
  | x :: a, y :: b, ha, hb, h1, h2 => by
    rw [List.pairwise_cons] at ha hb
    have hxy : x = y := by
      rcases List.mem_cons.1 (h1 x (by simp)) with h | h
      · exact h
      · rcases List.mem_cons.1 (h2 y (by simp)) with h' | h'
        · exact h'.symm
        · have e1 := hb.1 x h
          have e2 := ha.1 y h'
          have := cmpR_ordered.anti x y
          omega
    subst hxy
    rw [sorted_one a b ha.2 hb.2 (fun z hz => ?_) (fun z hz => ?_)]
    · rcases List.mem_cons.1 (h1 z (List.mem_cons_of_mem _ hz)) with h | h
      · subst h
        have := ha.1 z hz
        have := cmpR_ordered.self z
        omega
      · exact h
    · rcases List.mem_cons.1 (h2 z (List.mem_cons_of_mem _ hz)) with h | h
      · subst h
        have := hb.1 z hz
        have := cmpR_ordered.self z
        omega
      · exact h
theorem fsts_one {R a b : List (List V)} (ha : Fsts R a) (hb : Fsts R b) : a = b := sorted_one a b ha.1 hb.1 (fsts_mem ha hb) (fsts_mem hb ha)

theorem insL_new (x y : List V) : ∀ out : List (List V), out.Pairwise (fun a b => cmpR a b < 0) → y ∈ insL x out → y ∈ out ∨ (y = x ∧ ∀ z ∈ out, cmpR z x ≠ 0)
  | [], _, h => by simp [insL] at h; exact .inr ⟨h, by simp⟩
  | z :: r, hp, h => by
    rw [List.pairwise_cons] at hp
    unfold insL at h
    split at h
    · rename_i h1
      rcases List.mem_cons.1 h with h | h
      · exact .inl (by rw [h]; simp)
      · rcases insL_new x y r hp.2 h with h | ⟨h, h'⟩
        · exact .inl (by simp [h])
        · refine .inr ⟨h, fun u hu => ?_⟩
          rcases List.mem_cons.1 hu with hu | hu
          · rw [hu]; omega
          · exact h' u hu
    · rename_i h1
      split at h
      · exact .inl h
      · rename_i h2
        rcases List.mem_cons.1 h with h | h
        · refine .inr ⟨h, fun u hu => ?_⟩
          rcases List.mem_cons.1 hu with hu | hu
          · rw [hu]; exact h2
          · intro h0
            have e1 := hp.1 u hu
            have e2 := cmpR_ordered.trl z u x (by omega) (by omega) (.inl e1)
            exact h1 e2
        · exact .inl h
theorem sortL_fsts (l : List (List V)) : Fsts l (sortL l) := by
  refine ⟨(sortL_facts l).1, ?_, (sortL_facts l).2.2.1⟩
  suffices h : ∀ k, k ≤ l.length → ∀ y ∈ sortL (l.take k), ∃ i : Nat, l[i]? = some y ∧ ∀ (j : Nat) (z : List V), j < i → l[j]? = some z → cmpR z y ≠ 0 by
    have := h l.length (Nat.le_refl _)
    rw [List.take_length] at this
    exact this
  intro k
  induction k with
  | zero => intro _ y hy; simp [sortL] at hy
  | succ k ih =>
    intro hk y hy
    obtain ⟨x, hx⟩ : ∃ x, l[k]? = some x := ⟨_, List.getElem?_eq_getElem (by omega)⟩
    rw [sort_take l k x hx] at hy
    rcases insL_new x y _ (sortL_facts (l.take k)).1 hy with h | ⟨rfl, h⟩
    · exact ih (by omega) y h
    · refine ⟨k, hx, fun j z hj hz h0 => ?_⟩
      have hzm : z ∈ l.take k := by
        refine List.mem_of_getElem? (i := j) ?_
        rw [List.getElem?_take_of_lt hj]
        exact hz
      obtain ⟨u, hu, hu0⟩ := (sortL_facts (l.take k)).2.2.1 z hzm
      exact h u hu (cmpR_ordered.tr0 _ _ _ hu0 h0)

/-- The places are in order; they are all places. -/
structure OrdP (rs : List Rw) (n : Nat) (f : Nat → Nat) : Prop where
  ord : ∀ p p', p < p' → p' < n → cmpR (rwAt rs (f p)) (rwAt rs (f p')) < 0 ∨ (cmpR (rwAt rs (f p)) (rwAt rs (f p')) = 0 ∧ f p < f p')
  low : ∀ p, p < n → f p < n
  all : ∀ k, k < n → ∃ p, p < n ∧ f p = k
theorem ord_of_gd {rs : List Rw} {n : Nat} {f : Nat → Nat} (h : Gd (ltp (ltR rs)) f 0 n) : OrdP rs n f := by
  have ho : ∀ p p', p < p' → p' < n → cmpR (rwAt rs (f p)) (rwAt rs (f p')) < 0 ∨ (cmpR (rwAt rs (f p)) (rwAt rs (f p')) = 0 ∧ f p < f p') := by
    intro p p' h1 h2
    have h3 := h.1 p p' (Nat.zero_le _) h1 h2
    have ha := cmpR_ordered.anti (rwAt rs (f p)) (rwAt rs (f p'))
    rcases h3 with h3 | ⟨h3, h4⟩
    · exact .inl (of_decide_eq_true h3)
    · have h5 : ¬ cmpR (rwAt rs (f p')) (rwAt rs (f p)) < 0 := of_decide_eq_false h3
      omega
  refine ⟨ho, fun p hp => (h.2 p (Nat.zero_le _) hp).2, onto n f (fun p hp => (h.2 p (Nat.zero_le _) hp).2) fun i j hij hj e => ?_⟩
  have h1 := ho i j hij hj
  rw [e] at h1
  have := cmpR_ordered.self (rwAt rs (f j))
  omega
theorem ltp_trans (rs : List Rw) : ∀ x y z, ltp (ltR rs) x y → ltp (ltR rs) y z → ltp (ltR rs) x z := by
  intro x y z h1 h2
  have key : ∀ a b, ltp (ltR rs) a b ↔ (cmpR (rwAt rs a) (rwAt rs b) < 0 ∨ (cmpR (rwAt rs a) (rwAt rs b) = 0 ∧ a < b)) := by
    intro a b
    have ha := cmpR_ordered.anti (rwAt rs a) (rwAt rs b)
    constructor
    · rintro (h | ⟨h, h'⟩)
      · exact .inl (of_decide_eq_true h)
      · have h5 : ¬ cmpR (rwAt rs b) (rwAt rs a) < 0 := of_decide_eq_false h
        omega
    · rintro (h | ⟨h, h'⟩)
      · exact .inl (decide_eq_true h)
      · by_cases h6 : cmpR (rwAt rs a) (rwAt rs b) < 0
        · exact .inl (decide_eq_true h6)
        · exact .inr ⟨decide_eq_false (by omega), h'⟩
  rw [key] at h1 h2 ⊢
  have h3 := cmpR_ordered.trl (rwAt rs x) (rwAt rs y) (rwAt rs z)
  have h4 := cmpR_ordered.tr0 (rwAt rs x) (rwAt rs y) (rwAt rs z)
  rcases h1 with h1 | ⟨h1, h1'⟩
  · exact .inl (h3 (by omega) (by omega) (.inl h1))
  · rcases h2 with h2 | ⟨h2, h2'⟩
    · exact .inl (h3 (by omega) (by omega) (.inr h2))
    · exact .inr ⟨h4 h1 h2, by omega⟩

/-- Behind m places: of their rows in order, of equal ones the first alone. -/
structure Dd (rs : List Rw) (n : Nat) (f : Nat → Nat) (m : Nat) (out : List (List V)) : Prop where
  pw : out.Pairwise (fun a b => cmpR a b < 0)
  of : ∀ y ∈ out, ∃ p, p < m ∧ y = rwAt rs (f p) ∧ ∀ k, k < n → k < f p → cmpR (rwAt rs k) (rwAt rs (f p)) ≠ 0
  all : ∀ p, p < m → ∃ y ∈ out, cmpR y (rwAt rs (f p)) = 0
  le : ∀ y ∈ out, ∀ p, m ≤ p → p < n → cmpR y (rwAt rs (f p)) ≤ 0
  len : out.length ≤ m
theorem Dd.zero (rs : List Rw) (n : Nat) (f : Nat → Nat) : Dd rs n f 0 [] := ⟨List.Pairwise.nil, by simp, fun p h => by omega, by simp, Nat.le_refl _⟩
theorem Dd.keep {rs : List Rw} {n : Nat} {f : Nat → Nat} {m : Nat} {out : List (List V)} (h : Dd rs n f m out) (y : List V) (hy : y ∈ out) (h0 : cmpR y (rwAt rs (f m)) = 0) : Dd rs n f (m + 1) out where
  pw := h.pw
  of := fun z hz => by
    obtain ⟨p, h1, h2⟩ := h.of z hz
    exact ⟨p, by omega, h2⟩
  all := fun p hp => by
    by_cases e : p = m
    · subst e
      exact ⟨y, hy, h0⟩
    · exact h.all p (by omega)
  le := fun z hz p hp hpn => h.le z hz p (by omega) hpn
  len := by have := h.len; omega
theorem Dd.push {rs : List Rw} {n : Nat} {f : Nat → Nat} {m : Nat} {out : List (List V)} (h : Dd rs n f m out) (ho : OrdP rs n f) (hm : m < n) (hlt : ∀ z ∈ out, cmpR z (rwAt rs (f m)) ≠ 0) : Dd rs n f (m + 1) (out ++ [rwAt rs (f m)]) where
  pw := by
    rw [List.pairwise_append]
    refine ⟨h.pw, List.pairwise_singleton _ _, fun a ha b hb => ?_⟩
    rw [List.mem_singleton.1 hb]
    have h1 := h.le a ha m (Nat.le_refl _) hm
    have h2 := hlt a ha
    omega
  of := fun z hz => by
    rcases List.mem_append.1 hz with hz | hz
    · obtain ⟨p, h1, h2⟩ := h.of z hz
      exact ⟨p, by omega, h2⟩
    · refine ⟨m, by omega, List.mem_singleton.1 hz, fun k hk hkm h0 => ?_⟩
      obtain ⟨p, hp, e⟩ := ho.all k hk
      rcases Nat.lt_trichotomy p m with h1 | h1 | h1
      · obtain ⟨u, hu, hu0⟩ := h.all p h1
        rw [e] at hu0
        exact hlt u hu (cmpR_ordered.tr0 _ _ _ hu0 h0)
      · rw [← h1] at hkm
        omega
      · have h2 := ho.ord m p h1 hp
        rw [e] at h2
        have h3 := cmpR_ordered.anti (rwAt rs k) (rwAt rs (f m))
        omega
  all := fun p hp => by
    by_cases e : p = m
    · subst e
      exact ⟨_, by simp, cmpR_ordered.self _⟩
    · obtain ⟨y, h1, h2⟩ := h.all p (by omega)
      exact ⟨y, by simp [h1], h2⟩
  le := fun z hz p hp hpn => by
    rcases List.mem_append.1 hz with hz | hz
    · exact h.le z hz p (by omega) hpn
    · rw [List.mem_singleton.1 hz]
      have := ho.ord m p (by omega) hpn
      omega
  len := by
    have := h.len
    rw [List.length_append, List.length_singleton]
    omega
/-- The last row is the greatest. -/
theorem Dd.last {rs : List Rw} {n : Nat} {f : Nat → Nat} {m k : Nat} {out : List (List V)} (h : Dd rs n f m out) (hm : m < n) (hk : out.length = k + 1) (y : List V) (hy : out[k]? = some y) (h0 : cmpR y (rwAt rs (f m)) ≠ 0) : ∀ z ∈ out, cmpR z (rwAt rs (f m)) ≠ 0 := by
  intro z hz hz0
  obtain ⟨j, hj⟩ := List.getElem?_of_mem hz
  obtain ⟨hjl, hje⟩ := List.getElem?_eq_some_iff.1 hj
  obtain ⟨hkl, hke⟩ := List.getElem?_eq_some_iff.1 hy
  have h1 := h.le y (List.mem_of_getElem? hy) m (Nat.le_refl _) hm
  by_cases e : j = k
  · subst e
    rw [hj] at hy
    injection hy with hy
    rw [hy] at hz0
    exact h0 hz0
  · have h2 := (List.pairwise_iff_getElem.1 h.pw) j k hjl hkl (by omega)
    rw [hje, hke] at h2
    have := cmpR_ordered.trl z y (rwAt rs (f m)) (by omega) h1 (.inl h2)
    omega
theorem Dd.done {rs : List Rw} {n : Nat} {f : Nat → Nat} {out : List (List V)} (h : Dd rs n f n out) (ho : OrdP rs n f) (hn : n = rs.length) : out = sortL (rs.map (·.xs)) := by
  refine fsts_one ⟨h.pw, fun y hy => ?_, fun x hx => ?_⟩ (sortL_fsts _)
  · obtain ⟨p, hp, rfl, hk⟩ := h.of y hy
    have hl := ho.low p hp
    refine ⟨f p, ?_, fun k z hkl hz => ?_⟩
    · obtain ⟨r, hr⟩ : ∃ r, rs[f p]? = some r := ⟨_, List.getElem?_eq_getElem (by omega)⟩
      rw [List.getElem?_map, hr, rwAt_some hr]
      rfl
    · rw [List.getElem?_map] at hz
      have hkn : k < rs.length := by omega
      have hz2 := hk k (by omega) hkl
      rw [List.getElem?_eq_getElem hkn] at hz
      rw [rwAt_some (List.getElem?_eq_getElem hkn)] at hz2
      have hz3 : rs[k].xs = z := by simpa using hz
      rw [← hz3]
      exact hz2
  · obtain ⟨r, hr, rfl⟩ := List.mem_map.1 hx
    obtain ⟨k, hk⟩ := List.getElem?_of_mem hr
    have hkl := (List.getElem?_eq_some_iff.1 hk).1
    obtain ⟨p, hp, e⟩ := ho.all k (by omega)
    obtain ⟨y, h1, h2⟩ := h.all p hp
    rw [e, rwAt_some hk] at h2
    exact ⟨y, h1, h2⟩
end Go.Proofs.Ytmiagdmfgebfdaa
