/-
  Pure: one step of the merge in place that Go's stable sort makes (symMergeCmpFunc): behind the turning of the middle, both halves are two ordered runs each, and all of the lower half goes ahead of all of the upper half.
  At any order that hands on (transitive); the values lie at numbered places.
-/
namespace Go.Proofs.Ytmiagdmfgebfdaa

/-- The places a to b (without b) are in order. -/
def Srt (lt : Nat → Nat → Prop) (f : Nat → Nat) (a b : Nat) : Prop := ∀ i j, a ≤ i → i < j → j < b → lt (f i) (f j)
/-- All of the places a to m go ahead of all of the places m to b. -/
def Ahead (lt : Nat → Nat → Prop) (f : Nat → Nat) (a m b : Nat) : Prop := ∀ i j, a ≤ i → i < m → m ≤ j → j < b → lt (f i) (f j)
/-- The blocks s to m and m to e change their places. -/
def rot (f : Nat → Nat) (s m e : Nat) : Nat → Nat := fun i =>
  if i < s then f i else if i < s + (e - m) then f (m + (i - s)) else if i < e then f (i - (e - m)) else f i

theorem rot_low (f : Nat → Nat) (s m e i : Nat) (h : i < s) : rot f s m e i = f i := by
  unfold rot
  rw [if_pos h]
theorem rot_right (f : Nat → Nat) (s m e i : Nat) (h0 : s ≤ i) (h1 : i < s + (e - m)) : rot f s m e i = f (m + (i - s)) := by
  unfold rot
  rw [if_neg (by omega), if_pos h1]
theorem rot_left (f : Nat → Nat) (s m e i : Nat) (h0 : s + (e - m) ≤ i) (h1 : i < e) : rot f s m e i = f (i - (e - m)) := by
  unfold rot
  rw [if_neg (by omega), if_neg (by omega), if_pos h1]
theorem rot_high (f : Nat → Nat) (s m e i : Nat) (h0 : s ≤ i) (hm : m ≤ e) (hs : s ≤ m) (h1 : e ≤ i) : rot f s m e i = f i := by
  unfold rot
  rw [if_neg (by omega), if_neg (by omega), if_neg (by omega)]

theorem srt_le {lt : Nat → Nat → Prop} {f : Nat → Nat} {a b : Nat} (ht : ∀ x y z, lt x y → lt y z → lt x z) (h : Srt lt f a b) {i j : Nat} {x : Nat} (h0 : a ≤ i) (h1 : i ≤ j) (h2 : j < b) (hx : lt (f j) x) : lt (f i) x := by
  rcases Nat.lt_or_ge i j with h3 | h3
  · exact ht _ _ _ (h i j h0 h3 h2) hx
  · have e : i = j := by omega
    rw [e]
    exact hx
theorem srt_ge {lt : Nat → Nat → Prop} {f : Nat → Nat} {a b : Nat} (ht : ∀ x y z, lt x y → lt y z → lt x z) (h : Srt lt f a b) {i j : Nat} {x : Nat} (h0 : a ≤ i) (h1 : i ≤ j) (h2 : j < b) (hx : lt x (f i)) : lt x (f j) := by
  rcases Nat.lt_or_ge i j with h3 | h3
  · exact ht _ _ _ hx (h i j h0 h3 h2)
  · have e : j = i := by omega
    rw [e]
    exact hx

theorem merge_step {lt : Nat → Nat → Prop} (ht : ∀ x y z, lt x y → lt y z → lt x z) (f : Nat → Nat) (a m b s e d : Nat) (h1 : a ≤ s) (h2 : s ≤ m) (h3 : m ≤ e) (h4 : e ≤ b) (hd : s + (e - m) = d)
    (hl : Srt lt f a m) (hr : Srt lt f m b) (hlo : a = s ∨ e = b ∨ lt (f (s - 1)) (f e)) (hhi : e = m ∨ s = m ∨ lt (f (e - 1)) (f s)) :
    Srt lt (rot f s m e) a s ∧ Srt lt (rot f s m e) s d ∧ Srt lt (rot f s m e) d e ∧ Srt lt (rot f s m e) e b ∧ Ahead lt (rot f s m e) a d b := by
  refine ⟨?_, ?_, ?_, ?_, ?_⟩
  · intro i j hi hij hj
    rw [rot_low f s m e i (by omega), rot_low f s m e j (by omega)]
    exact hl i j hi hij (by omega)
  · intro i j hi hij hj
    rw [rot_right f s m e i hi (by omega), rot_right f s m e j (by omega) (by omega)]
    exact hr _ _ (by omega) (by omega) (by omega)
  · intro i j hi hij hj
    rw [rot_left f s m e i (by omega) (by omega), rot_left f s m e j (by omega) hj]
    exact hl _ _ (by omega) (by omega) (by omega)
  · intro i j hi hij hj
    rw [rot_high f s m e i (by omega) h3 h2 hi, rot_high f s m e j (by omega) h3 h2 (by omega)]
    exact hr _ _ (by omega) hij hj
  · intro i j hi hij hdj hj
    rcases Nat.lt_or_ge i s with his | his
    · rw [rot_low f s m e i his]
      rcases Nat.lt_or_ge j e with hje | hje
      · rw [rot_left f s m e j (by omega) hje]
        exact hl _ _ hi (by omega) (by omega)
      · rw [rot_high f s m e j (by omega) h3 h2 hje]
        rcases hlo with h | h | h
        · omega
        · omega
        · exact srt_le ht hl hi (show i ≤ s - 1 by omega) (by omega) (srt_ge ht hr h3 hje hj h)
    · rw [rot_right f s m e i his (by omega)]
      rcases Nat.lt_or_ge j e with hje | hje
      · rw [rot_left f s m e j (by omega) hje]
        rcases hhi with h | h | h
        · omega
        · omega
        · exact srt_le ht hr (show m ≤ m + (i - s) by omega) (show m + (i - s) ≤ e - 1 by omega) (by omega) (srt_ge ht hl h1 (show s ≤ j - (e - m) by omega) (by omega) h)
      · rw [rot_high f s m e j (by omega) h3 h2 hje]
        exact hr _ _ (by omega) (by omega) hj

/-- Two ordered halves, the lower ahead of the upper, are one ordered run. -/
theorem srt_join {lt : Nat → Nat → Prop} {f : Nat → Nat} {a d b : Nat} (h0 : Srt lt f a d) (h1 : Srt lt f d b) (h2 : Ahead lt f a d b) : Srt lt f a b := by
  intro i j hi hij hj
  rcases Nat.lt_or_ge i d with h | h
  · rcases Nat.lt_or_ge j d with h3 | h3
    · exact h0 i j hi hij h3
    · exact h2 i j hi h h3 hj
  · exact h1 i j h hij hj

/-- Within a and d the values of g are values of f within a and d. -/
def Within (f g : Nat → Nat) (a d : Nat) : Prop := ∀ i, a ≤ i → i < d → ∃ k, a ≤ k ∧ k < d ∧ g i = f k
theorem ahead_within {lt : Nat → Nat → Prop} {f g : Nat → Nat} {a d b : Nat} (h : Ahead lt f a d b) (h0 : Within f g a d) (h1 : Within f g d b) : Ahead lt g a d b := by
  intro i j hi hid hdj hj
  obtain ⟨k, k0, k1, e1⟩ := h0 i hi hid
  obtain ⟨l, l0, l1, e2⟩ := h1 j hdj hj
  rw [e1, e2]
  exact h k l k0 k1 l0 l1
end Go.Proofs.Ytmiagdmfgebfdaa
