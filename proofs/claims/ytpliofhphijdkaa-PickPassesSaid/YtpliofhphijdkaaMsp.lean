/-
  Two rows that can be, and are the same, are one row; so two bags in which each row is as often are one list.
  No Go in it.
-/
import Derived.Test.YtpliofhphijdkaaOpp
import Derived.Test.YtpliofhphijdkaaPpure
namespace Go.Proofs.Ytpliofhphijdkaa
open Go.RowKit

theorem cmpB_eq (a b : Bool) (h : cmpB a b = 0) : a = b := by
  cases a <;> cases b <;> first | rfl | (exact absurd h (by decide))
theorem cmpI_eq (a b : Int) (h : cmpI a b = 0) : a = b := by
  unfold cmpI at h
  split at h
  · omega
  · split at h <;> omega
theorem cmpL_eq : ∀ (x y : List UInt8), cmpL x y = 0 → x = y
  | [], [], _ => rfl
  | [], _ :: _, h => by simp [cmpL] at h
  | _ :: _, [], h => by simp [cmpL] at h
  | a :: x, b :: y, h => by
    unfold cmpL at h
    by_cases h1 : a < b
    · rw [if_pos h1] at h
      omega
    · by_cases h2 : b < a
      · rw [if_neg h1, if_pos h2] at h
        omega
      · rw [if_neg h1, if_neg h2] at h
        have e : a = b := by
          apply UInt8.toNat_inj.1
          rw [UInt8.lt_iff_toNat_lt] at h1 h2
          omega
        rw [e, cmpL_eq x y h]
theorem cmpS_eq (a b : ByteArray) (h : cmpS a b = 0) : a = b := by
  rw [cmpS_list] at h
  have := cmpL_eq _ _ h
  obtain ⟨⟨l⟩⟩ := a
  obtain ⟨⟨l'⟩⟩ := b
  have e : l = l' := this
  rw [e]
theorem cmpV_eq (a b : V) (ha : rightV a = true) (hb : rightV b = true) : (cmpV a b == 0) = eqV a b := by
  have key : cmpV a b = 0 → a = b := by
    intro h
    rw [cmpV_kind] at h
    split at h
    · omega
    · split at h
      · omega
      · have e : a.k = b.k := by omega
        obtain ⟨k, f, n, t⟩ := a
        obtain ⟨k', f', n', t'⟩ := b
        obtain rfl : k = k' := e
        have t0 : ∀ s : ByteArray, s.size = 0 → s = ⟨#[]⟩ := by
          intro s hs
          obtain ⟨⟨l⟩⟩ := s
          have : l = [] := by simpa [ByteArray.size] using hs
          rw [this]
        simp only [rightV, Bool.and_eq_true, Bool.or_eq_true, decide_eq_true_eq, beq_iff_eq, Bool.not_eq_true'] at ha hb
        obtain ⟨⟨⟨⟨⟨_, _⟩, f1⟩, n1⟩, s1⟩, _⟩ := ha
        obtain ⟨⟨⟨⟨⟨_, _⟩, f2⟩, n2⟩, s2⟩, _⟩ := hb
        unfold sameKind at h
        by_cases k1 : k = 1
        · subst k1
          rw [if_pos rfl] at h
          have e1 := cmpB_eq _ _ h
          have e2 : n = n' := by omega
          have e3 : t = t' := by rw [t0 t (by omega), t0 t' (by omega)]
          simp only at e1
          rw [e1, e2, e3]
        · have e1 : f = f' := by
            rw [f1.resolve_left k1, f2.resolve_left k1]
          rw [if_neg k1] at h
          by_cases k2 : k = 2
          · rw [if_pos k2] at h
            have e2 := cmpI_eq _ _ h
            have e3 : t = t' := by rw [t0 t (by omega), t0 t' (by omega)]
            simp only at e2
            rw [e1, e2, e3]
          · have e2 : n = n' := by
              rw [n1.resolve_left k2, n2.resolve_left k2]
            rw [if_neg k2] at h
            by_cases k3 : k = 3
            · rw [if_pos k3] at h
              have e3 := cmpS_eq _ _ h
              simp only at e3
              rw [e1, e2, e3]
            · have e3 : t = t' := by rw [t0 t (s1.resolve_left k3), t0 t' (s2.resolve_left k3)]
              rw [e1, e2, e3]
  rcases Bool.eq_false_or_eq_true (eqV a b) with h | h
  · rw [h, (eqV_iff a b).1 h, cmpV_ordered.self]
    rfl
  · rw [h, beq_eq_false_iff_ne]
    intro h0
    rw [(eqV_iff a b).2 (key h0)] at h
    cases h

theorem row_one : ∀ (x y : List V), x.all rightV = true → y.all rightV = true → cmpR x y = 0 → x = y
  | [], [], _, _, _ => rfl
  | [], _ :: _, _, _, h => by simp [cmpR] at h
  | _ :: _, [], _, _, h => by simp [cmpR] at h
  | a :: x, b :: y, hx, hy, h => by
    rw [List.all_cons, Bool.and_eq_true] at hx hy
    unfold cmpR at h
    by_cases h1 : cmpV a b = 0
    · rw [if_pos h1] at h
      have h2 := cmpV_eq a b hx.1 hy.1
      rw [h1] at h2
      have h3 := (eqV_iff a b).1 h2.symm
      rw [h3, row_one x y hx.2 hy.2 h]
    · rw [if_neg h1] at h
      exact absurd h h1
theorem rights_one (x y : List V) (hx : rightR x = true) (hy : rightR y = true) (h : cmpR x y = 0) : x = y := by
  unfold rightR at hx hy
  rw [Bool.and_eq_true] at hx hy
  exact row_one x y hx.2 hy.2 h

theorem Good.tail {e : En} {l : List En} (h : Good (e :: l)) : Good l := ⟨h.1.2, fun f hf => h.2 f (by simp [hf])⟩
theorem sub_len : ∀ (b a : List En), Good a → Good b → (∀ e ∈ a, ¬ manyL e.1 b = 0) → a.length ≤ b.length
  | b, [], _, _, _ => Nat.zero_le _
  | [], e :: a, _, _, h => absurd rfl (h e (by simp))
  | f :: b, e :: a, ha, hb, h => by
    have he := h e (by simp)
    rw [List.length_cons, List.length_cons]
    have hlow : ¬ cmpR e.1 f.1 < 0 := by
      intro hl
      apply he
      refine manyL_above _ _ fun g hg => ?_
      rcases List.mem_cons.1 hg with rfl | hg
      · exact hl
      · exact cmpR_lt3 hl (hb.1.1 g hg)
    have fl := cmpR_flip (a := e.1) (b := f.1)
    have hin : ∀ g ∈ a, ¬ manyL g.1 b = 0 := by
      intro g hg
      have h1 := h g (by simp [hg])
      have h2 := cmpR_le_lt (show cmpR f.1 e.1 ≤ 0 by omega) (ha.1.1 g hg)
      rw [manyL_cons, if_pos h2] at h1
      exact h1
    exact Nat.succ_le_succ (sub_len b a ha.tail hb.tail hin)
theorem one_bag : ∀ (a b : List En), Good a → Good b → a.length = b.length → (∀ e ∈ a, manyL e.1 b = e.2) → a = b
  | [], [], _, _, _, _ => rfl
  | [], _ :: _, _, _, h, _ => by simp at h
  | _ :: _, [], _, _, h, _ => by simp at h
  | e :: a, f :: b, ha, hb, hl, h => by
    have he := h e (by simp)
    have ne := (ha.2 e (by simp)).1
    have hl' : a.length = b.length := by simpa using hl
    have hlow : ¬ cmpR e.1 f.1 < 0 := by
      intro hl
      apply ne
      rw [← he]
      refine manyL_above _ _ fun g hg => ?_
      rcases List.mem_cons.1 hg with rfl | hg
      · exact hl
      · exact cmpR_lt3 hl (hb.1.1 g hg)
    have fl := cmpR_flip (a := e.1) (b := f.1)
    have hz : cmpR e.1 f.1 = 0 := by
      rcases cmpR_rng e.1 f.1 with h1 | h1 | h1
      · omega
      · exact h1
      · have hsub : (e :: a).length ≤ b.length := sub_len b (e :: a) ha hb.tail fun g hg => by
          have hg2 := h g hg
          have hlt : cmpR f.1 g.1 < 0 := by
            rcases List.mem_cons.1 hg with rfl | hg
            · omega
            · exact cmpR_lt3 (show cmpR f.1 e.1 < 0 by omega) (ha.1.1 g hg)
          rw [manyL_cons, if_pos hlt] at hg2
          rw [hg2]
          exact (ha.2 g hg).1
        rw [List.length_cons] at hsub
        omega
    have hr := rights_one e.1 f.1 (ha.2 e (by simp)).2.2 (hb.2 f (by simp)).2.2 hz
    have h2 : manyL e.1 (f :: b) = f.2 := by rw [manyL_same hz, manyL_self]
    have hef : e = f := Prod.ext hr (by omega)
    rw [hef, one_bag a b ha.tail hb.tail hl' fun g hg => by
      have h3 := h g (by simp [hg])
      have h4 := ha.1.1 g hg
      rw [hef] at h4
      rw [manyL_cons, if_pos h4] at h3
      exact h3]
end Go.Proofs.Ytpliofhphijdkaa
