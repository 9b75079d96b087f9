/-
  Pure: what symMergeCmpFunc and stableCmpFunc do to a row of places, as functions of their index.
  At any order of places that hands on.
-/
import Derived.Test.YtmiagdmfgebfdaaIns
namespace Go.Proofs.Ytmiagdmfgebfdaa
open Go.RowKit

theorem rot_none1 (f : Nat → Nat) (m e : Nat) : rot f m m e = f := by
  funext i
  unfold rot
  by_cases h1 : i < m
  · rw [if_pos h1]
  · rw [if_neg h1]
    by_cases h2 : i < m + (e - m)
    · rw [if_pos h2]
      congr 1
      omega
    · rw [if_neg h2]
      split
      · omega
      · rfl
theorem rot_none2 (f : Nat → Nat) (s m : Nat) : rot f s m m = f := by
  funext i
  unfold rot
  by_cases h1 : i < s
  · rw [if_pos h1]
  · rw [if_neg h1, if_neg (by omega)]
    split
    · congr 1
      omega
    · rfl
/-- A step of the first place's way up. -/
theorem rot_up (f : Nat → Nat) (a k : Nat) (h : a ≤ k) : upd (upd (rot f a (a + 1) (k + 1)) k (rot f a (a + 1) (k + 1) (k + 1))) (k + 1) (rot f a (a + 1) (k + 1) k) = rot f a (a + 1) (k + 2) := by
  funext i
  unfold upd rot
  by_cases h1 : i = k + 1
  · subst h1
    rw [if_pos rfl]
    repeat' split
    all_goals first | rfl | omega | (congr 1; omega)
  · rw [if_neg h1]
    by_cases h2 : i = k
    · subst h2
      rw [if_pos rfl]
      repeat' split
      all_goals first | rfl | omega | (congr 1; omega)
    · rw [if_neg h2]
      repeat' split
      all_goals first | rfl | omega | (congr 1; omega)
/-- A step of the last place's way down. -/
theorem rot_down (f : Nat → Nat) (k m : Nat) (h : k + 1 ≤ m) : upd (upd (rot f (k + 1) m (m + 1)) (k + 1) (rot f (k + 1) m (m + 1) k)) k (rot f (k + 1) m (m + 1) (k + 1)) = rot f k m (m + 1) := by
  funext i
  unfold upd rot
  by_cases h1 : i = k
  · subst h1
    rw [if_pos rfl]
    repeat' split
    all_goals first | rfl | omega | (congr 1; omega)
  · rw [if_neg h1]
    by_cases h2 : i = k + 1
    · subst h2
      rw [if_pos rfl]
      repeat' split
      all_goals first | rfl | omega | (congr 1; omega)
    · rw [if_neg h2]
      repeat' split
      all_goals first | rfl | omega | (congr 1; omega)

/-- What a merge of the places a to b leaves. -/
def MrgI (R : Nat → Nat → Prop) (f f' : Nat → Nat) (a b : Nat) : Prop := Srt R f' a b ∧ Within f f' a b ∧ ∀ p, p < a ∨ b ≤ p → f' p = f p
theorem within_rot (f : Nat → Nat) (a b s m e : Nat) (h1 : a ≤ s) (h2 : s ≤ m) (h3 : m ≤ e) (h4 : e ≤ b) : Within f (rot f s m e) a b := by
  intro i hi hib
  unfold rot
  split
  · exact ⟨i, hi, hib, rfl⟩
  · split
    · exact ⟨m + (i - s), by omega, by omega, rfl⟩
    · split
      · exact ⟨i - (e - m), by omega, by omega, rfl⟩
      · exact ⟨i, hi, hib, rfl⟩
theorem rot_out (f : Nat → Nat) (a b s m e : Nat) (h1 : a ≤ s) (h2 : s ≤ m) (h3 : m ≤ e) (h4 : e ≤ b) : ∀ p, p < a ∨ b ≤ p → rot f s m e p = f p := by
  intro p hp
  rcases hp with hp | hp
  · exact rot_low f s m e p (by omega)
  · exact rot_high f s m e p (by omega) h3 h2 (by omega)
theorem Within.trans {f g h : Nat → Nat} {a b : Nat} (h1 : Within f g a b) (h2 : Within g h a b) : Within f h a b := by
  intro i hi hib
  obtain ⟨k, k0, k1, e1⟩ := h2 i hi hib
  obtain ⟨l, l0, l1, e2⟩ := h1 k k0 k1
  exact ⟨l, l0, l1, by rw [e1, e2]⟩
theorem Within.wide {f g : Nat → Nat} {a b c d : Nat} (h : Within f g c d) (ho : ∀ p, p < c ∨ d ≤ p → g p = f p) (h1 : a ≤ c) (h2 : d ≤ b) : Within f g a b := by
  intro i hi hib
  by_cases hc : c ≤ i ∧ i < d
  · obtain ⟨k, k0, k1, e⟩ := h i hc.1 hc.2
    exact ⟨k, by omega, by omega, e⟩
  · exact ⟨i, hi, hib, ho i (by omega)⟩
theorem Srt.congr {R : Nat → Nat → Prop} {f g : Nat → Nat} {a b : Nat} (h : Srt R f a b) (he : ∀ p, a ≤ p → p < b → g p = f p) : Srt R g a b := by
  intro i j hi hij hj
  rw [he i hi (by omega), he j (by omega) hj]
  exact h i j hi hij hj
/-- The left run's places are numbers ahead of the right one's. -/
def LR (f : Nat → Nat) (a m b : Nat) : Prop := ∀ i j, a ≤ i → i < m → m ≤ j → j < b → f i < f j

section
variable {lt : Nat → Nat → Bool} {f : Nat → Nat}
theorem ltp_of_false {x y : Nat} (h : lt y x = false) (hxy : x < y) : ltp lt x y := .inr ⟨h, hxy⟩
/-- One place, behind the search among the others. -/
theorem merge_one (ht : ∀ x y z, ltp lt x y → ltp lt y z → ltp lt x z) {a b i : Nat} (hi1 : a + 1 ≤ i) (hi2 : i ≤ b) (hr : Srt (ltp lt) f (a + 1) b) (hlr : LR f a (a + 1) b) (h1 : i = a + 1 ∨ lt (f (i - 1)) (f a) = true) (h2 : i = b ∨ lt (f i) (f a) = false) :
    MrgI (ltp lt) f (rot f a (a + 1) i) a b := by
  have hl : Srt (ltp lt) f a (a + 1) := fun p q h1 h2 h3 => by omega
  obtain ⟨s1, s2, s3, s4, s5⟩ := merge_step ht f a (a + 1) b a i (a + (i - (a + 1))) (Nat.le_refl _) (Nat.le_succ _) hi1 hi2 rfl hl hr (.inl rfl) (by
    rcases h1 with h | h
    · exact .inl h
    · exact .inr (.inr (.inl h)))
  refine ⟨?_, within_rot f a b a (a + 1) i (Nat.le_refl _) (Nat.le_succ _) hi1 hi2, rot_out f a b a (a + 1) i (Nat.le_refl _) (Nat.le_succ _) hi1 hi2⟩
  refine srt_join s2 ?_ s5
  refine srt_join s3 s4 fun p q hp hpi hq hqb => ?_
  rcases h2 with h | h
  · omega
  · have e1 : p = a + (i - (a + 1)) := by omega
    have e2 : rot f a (a + 1) i p = f a := by
      rw [rot_left f a (a + 1) i p (by omega) hpi]
      congr 1
      omega
    rw [e2, rot_high f a (a + 1) i q (by omega) hi1 (Nat.le_succ _) hq]
    exact srt_ge ht hr hi1 hq hqb (ltp_of_false h (hlr a i (Nat.le_refl _) (Nat.lt_succ_self _) hi1 (by omega)))
theorem merge_last (ht : ∀ x y z, ltp lt x y → ltp lt y z → ltp lt x z) {a m i : Nat} (hi1 : a ≤ i) (hi2 : i ≤ m) (hl : Srt (ltp lt) f a m) (hlr : LR f a m (m + 1)) (h1 : i = a ∨ lt (f m) (f (i - 1)) = false) (h2 : i = m ∨ lt (f m) (f i) = true) :
    MrgI (ltp lt) f (rot f i m (m + 1)) a (m + 1) := by
  have hr : Srt (ltp lt) f m (m + 1) := fun p q h1 h2 h3 => by omega
  obtain ⟨s1, s2, s3, s4, s5⟩ := merge_step ht f a m (m + 1) i (m + 1) (i + 1) hi1 hi2 (Nat.le_succ _) (Nat.le_refl _) (by omega) hl hr (.inr (.inl rfl)) (by
    rcases h2 with h | h
    · exact .inr (.inl h)
    · exact .inr (.inr (.inl h)))
  refine ⟨?_, within_rot f a (m + 1) i m (m + 1) hi1 hi2 (Nat.le_succ _) (Nat.le_refl _), rot_out f a (m + 1) i m (m + 1) hi1 hi2 (Nat.le_succ _) (Nat.le_refl _)⟩
  refine srt_join ?_ s3 s5
  refine srt_join s1 s2 fun p q hp hpi hq hqb => ?_
  rcases h1 with h | h
  · omega
  · have e1 : q = i := by omega
    have e2 : rot f i m (m + 1) q = f m := by
      rw [rot_right f i m (m + 1) q (by omega) (by omega)]
      congr 1
      omega
    rw [e2, rot_low f i m (m + 1) p hpi]
    exact srt_le ht hl hp (show p ≤ i - 1 by omega) (by omega) (ltp_of_false h (hlr (i - 1) m (by omega) (by omega) (Nat.le_refl _) (Nat.lt_succ_self _)))
/-- Both halves merged, all are merged. -/
theorem merge_both {a mid b : Nat} {f1 f2 f3 : Nat → Nat} (h01 : Within f f1 a b) (ho1 : ∀ p, p < a ∨ b ≤ p → f1 p = f p) (hah : Ahead (ltp lt) f1 a mid b) (h1 : a ≤ mid) (h2 : mid ≤ b) (hA : MrgI (ltp lt) f1 f2 a mid) (hB : MrgI (ltp lt) f2 f3 mid b) : MrgI (ltp lt) f f3 a b := by
  obtain ⟨a1, a2, a3⟩ := hA
  obtain ⟨b1, b2, b3⟩ := hB
  have w1 : Within f1 f3 a mid := fun i hi him => by
    obtain ⟨k, k0, k1, e⟩ := a2 i hi him
    exact ⟨k, k0, k1, by rw [b3 i (.inl him), e]⟩
  have w2 : Within f1 f3 mid b := fun i hi hib => by
    obtain ⟨k, k0, k1, e⟩ := b2 i hi hib
    exact ⟨k, k0, k1, by rw [e, a3 k (.inr k0)]⟩
  refine ⟨srt_join (a1.congr fun p hp hpm => b3 p (.inl hpm)) b1 (ahead_within hah w1 w2), ?_, fun p hp => ?_⟩
  · refine h01.trans fun i hi hib => ?_
    rcases Nat.lt_or_ge i mid with h | h
    · obtain ⟨k, k0, k1, e⟩ := w1 i hi h
      exact ⟨k, k0, by omega, e⟩
    · obtain ⟨k, k0, k1, e⟩ := w2 i h hib
      exact ⟨k, by omega, k1, e⟩
  · rw [b3 p (by omega), a3 p (by omega), ho1 p hp]
theorem mrg_same {a b : Nat} (h : Srt (ltp lt) f a b) : MrgI (ltp lt) f f a b := ⟨h, fun i hi hib => ⟨i, hi, hib, rfl⟩, fun _ _ => rfl⟩
/-- What holds behind the search in the middle. -/
theorem mid_ready (ht : ∀ x y z, ltp lt x y → ltp lt y z → ltp lt x z) {a m b lo hi s mid : Nat} (ham : a < m) (hmb : m < b) (hmid : mid = (a + b) / 2) (hl : Srt (ltp lt) f a m) (hr : Srt (ltp lt) f m b) (hlr : LR f a m b)
    (hlh : (m ≤ mid ∧ lo = a ∧ hi = m) ∨ (mid < m ∧ lo = mid + m - b ∧ hi = mid)) (h1 : lo ≤ s) (h2 : s ≤ hi) (h3 : s = lo ∨ lt (f (mid + m - s)) (f (s - 1)) = false) (h4 : s = hi ∨ lt (f (mid + m - 1 - s)) (f s) = true) :
    a ≤ s ∧ s ≤ m ∧ m ≤ mid + m - s ∧ mid + m - s ≤ b ∧ s ≤ mid ∧ mid ≤ mid + m - s ∧ Srt (ltp lt) (rot f s m (mid + m - s)) a s ∧ Srt (ltp lt) (rot f s m (mid + m - s)) s mid ∧ Srt (ltp lt) (rot f s m (mid + m - s)) mid (mid + m - s) ∧ Srt (ltp lt) (rot f s m (mid + m - s)) (mid + m - s) b ∧ Ahead (ltp lt) (rot f s m (mid + m - s)) a mid b ∧ LR (rot f s m (mid + m - s)) a s mid ∧ LR (rot f s m (mid + m - s)) mid (mid + m - s) b := by
  have g1 : a ≤ s := by omega
  have g2 : s ≤ m := by omega
  have g3 : m ≤ mid + m - s := by omega
  have g4 : mid + m - s ≤ b := by omega
  have g5 : s + (mid + m - s - m) = mid := by omega
  obtain ⟨s1, s2, s3, s4, s5⟩ := merge_step ht f a m b s (mid + m - s) mid g1 g2 g3 g4 g5 hl hr (by
    rcases h3 with h | h
    · rcases hlh with hh | hh
      · exact .inl (by omega)
      · exact .inr (.inl (by omega))
    · by_cases hs : s = a
      · exact .inl hs.symm
      · by_cases he : mid + m - s = b
        · exact .inr (.inl he)
        · exact .inr (.inr (ltp_of_false h (hlr (s - 1) (mid + m - s) (by omega) (by omega) g3 (by omega))))) (by
    rcases h4 with h | h
    · rcases hlh with hh | hh
      · exact .inr (.inl (by omega))
      · exact .inl (by omega)
    · exact .inr (.inr (.inl (by rw [show mid + m - s - 1 = mid + m - 1 - s from by omega]; exact h))))
  refine ⟨g1, g2, g3, g4, by omega, by omega, s1, s2, s3, s4, s5, ?_, ?_⟩
  · intro i j hi his hj hjm
    rw [rot_low f s m _ i his, rot_right f s m _ j hj (by omega)]
    exact hlr _ _ hi (by omega) (by omega) (by omega)
  · intro i j hi hie hj hjb
    rw [rot_left f s m _ i (by omega) hie, rot_high f s m _ j (by omega) g3 g2 hj]
    exact hlr _ _ (by omega) (by omega) (by omega) hjb
end
end Go.Proofs.Ytmiagdmfgebfdaa
