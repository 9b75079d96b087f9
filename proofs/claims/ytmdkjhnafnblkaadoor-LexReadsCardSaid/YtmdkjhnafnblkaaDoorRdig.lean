/-
  digits of verdererref01 answers the decimal digits of a number, at every number of 64 bits, and changes nothing.
  No condition.
-/
import Derived.Test.YtmdkjhnafnblkaaDoorBack
namespace Go.Proofs.YtmdkjhnafnblkaaDoor
open Go.RowKit

theorem dig_cat (m : Nat) (l : List UInt8) : (⟨#[48, 49, 50, 51, 52, 53, 54, 55, 56, 57]⟩ : ByteArray).extract (m % 10) (m % 10 + 1) ++ ⟨l.toArray⟩ = ⟨(UInt8.ofNat (48 + m % 10) :: l).toArray⟩ := by
  have h : ∀ d : Fin 10, (⟨#[48, 49, 50, 51, 52, 53, 54, 55, 56, 57]⟩ : ByteArray).extract d.val (d.val + 1) = ⟨#[UInt8.ofNat (48 + d.val)]⟩ := by decide
  have h1 := h ⟨m % 10, Nat.mod_lt _ (by decide)⟩
  simp only at h1
  rw [h1]
  apply ByteArray.ext
  simp

theorem dig_step (m : Nat) (l : List UInt8) : Lib.decDigits m ++ l = (if m < 10 then UInt8.ofNat (48 + m % 10) :: l else Lib.decDigits (m / 10) ++ (UInt8.ofNat (48 + m % 10) :: l)) := by
  rw [Lib.decDigits]
  by_cases h : m < 10
  · rw [dif_pos h, if_pos h, Nat.mod_eq_of_lt h]
    rfl
  · rw [dif_neg h, if_neg h]
    simp

set_option maxHeartbeats 1000000 in
theorem ref_digits (u : Nat) (hu : u < 18446744073709551616) (w : World) : Calls Tryd.prog 59 #[.int .u64 (u : Int)] w fun e w' => e = .returned (.string ⟨(Lib.decDigits u).toArray⟩) ∧ w' = w := by
  obtain ⟨R, hR⟩ : ∃ R, R = Lib.decDigits u := ⟨_, rfl⟩
  rw [← hR]
  have HR := Lib.hid hR
  clear hR
  go_enter Tryd.func59, Tryd.ntmps59
  go_wp2
  go_loopw [0, 3, 4] (fun x s i wr => ∃ (k m : Nat) (l : List UInt8), k ≤ 20 ∧ l.length ≤ k ∧ x = .int .u64 (m : Int) ∧ s = .string ⟨l.toArray⟩ ∧ i = .int .i64 k ∧ m = u / 10 ^ k ∧ ((k = 0 ∧ l = []) ∨ (0 < k ∧ m = 0 ∧ l = R) ∨ (0 < k ∧ 0 < m ∧ Lib.decDigits m ++ l = R)) ∧ wr = w) (fun _ _ i _ => 20 - (intOf i).toNat)
  case atStart => exact ⟨0, u, [], by omega, by simp, rfl, rfl, rfl, by simp, .inl ⟨rfl, rfl⟩, rfl⟩
  case round =>
    obtain ⟨k, m, l, hk, hll, rfl, rfl, rfl, hm, hd, rfl⟩ := hrel
    have HM := Lib.hid hm
    have hmu : m < 18446744073709551616 := by
      rw [hm]
      exact Nat.lt_of_le_of_lt (Nat.div_le_self _ _) hu
    have HD := Lib.hid hd
    have hov : ¬ 9223372036854775807 < min (m % 10 + 1) 10 - m % 10 + l.length := by omega
    have hnext : m / 10 = u / 10 ^ (k + 1) := by rw [hm, Nat.div_div_eq_div_mul, Nat.pow_succ]
    have HN := Lib.hid hnext
    clear hnext
    clear hm hd
    by_cases hgo : k < 20 ∧ (k = 0 ∨ 0 < m)
    · have hr : Lib.decDigits m ++ l = R := by
        rcases HD.out with ⟨h0, h2⟩ | ⟨h0, h2, _⟩ | ⟨_, _, h2⟩
        · subst h0 h2
          have hmm := HM.out
          rw [Nat.pow_zero, Nat.div_one] at hmm
          rw [hmm, HR.out, List.append_nil]
        · omega
        · exact h2
      rw [dig_step] at hr
      have HS := Lib.hid hr
      clear hr
      have hdone : ∃ (k' m' : Nat) (l' : List UInt8), k' ≤ 20 ∧ l'.length ≤ k' ∧ Value.int IntKind.u64 ((m : Int) / 10) = Value.int IntKind.u64 (m' : Int) ∧ Value.string ((⟨#[48, 49, 50, 51, 52, 53, 54, 55, 56, 57]⟩ : ByteArray).extract (m % 10) (m % 10 + 1) ++ ⟨l.toArray⟩) = .string ⟨l'.toArray⟩ ∧ Value.int .i64 (((k + 1 : Nat)) : Int) = .int .i64 ((k' : Nat) : Int) ∧ m' = u / 10 ^ k' ∧ ((k' = 0 ∧ l' = []) ∨ (0 < k' ∧ m' = 0 ∧ l' = R) ∨ (0 < k' ∧ 0 < m' ∧ Lib.decDigits m' ++ l' = R)) := by
        refine ⟨k + 1, m / 10, UInt8.ofNat (48 + m % 10) :: l, by omega, by simp; omega, by simp, by rw [dig_cat], rfl, HN.out, ?_⟩
        by_cases h9 : m < 10
        · refine .inr (.inl ⟨by omega, by omega, ?_⟩)
          have := HS.out
          rwa [if_pos h9] at this
        · refine .inr (.inr ⟨by omega, by omega, ?_⟩)
          have := HS.out
          rwa [if_neg h9] at this
      have HDone := Lib.hid hdone
      clear hdone
      obtain ⟨h1, h2⟩ := hgo
      by_cases h3 : k = 0
      · subst h3
        clear h2
        go_wp2
        obtain ⟨k', m', l', a1, a2, a3, a4, a5, a6, a7⟩ := HDone.out
        exact ⟨⟨k', m', l', a1, a2, a3, a4, a5, a6, a7, trivial⟩, by simp [intOf]⟩
      · have h4 : 0 < m := by omega
        clear h2
        go_wp2
        obtain ⟨k', m', l', a1, a2, a3, a4, a5, a6, a7⟩ := HDone.out
        exact ⟨⟨k', m', l', a1, a2, a3, a4, by rw [← a5]; go_num, a6, a7, trivial⟩, by simp [intOf]; omega⟩
    · have hr : l = R := by
        rcases HD.out with ⟨h0, h2⟩ | ⟨h0, h2, h3⟩ | ⟨h0, h2, _⟩
        · omega
        · exact h3
        · have h20 : k = 20 := by omega
          have hmm := HM.out
          subst h20
          have : u / 10 ^ 20 = 0 := Nat.div_eq_of_lt (by omega)
          omega
      subst hr
      have h20 : ¬ k = 0 := by
        intro h0
        apply hgo
        exact ⟨by omega, .inl h0⟩
      by_cases h1 : k < 20
      · have h5 : m = 0 := by omega
        subst h5
        clear hgo
        go_wp2
        go_ret
        exact ⟨rfl, rfl⟩
      · clear hgo
        go_wp2
        go_ret
        exact ⟨rfl, rfl⟩

set_option maxHeartbeats 1000000 in
theorem ref_num (n : Int) (h0 : -9223372036854775808 ≤ n) (h1 : n ≤ 9223372036854775807) (w : World) : Calls Tryd.prog 49 #[.int .i64 n] w fun e w' => e = .returned (.string ⟨(Lib.itoa n).toArray⟩) ∧ w' = w := by
  by_cases hn : n < 0
  · have hd := ref_digits n.natAbs (by omega)
    have e : ((n.natAbs : Nat) : Int) = IntKind.u64.wrap (-IntKind.u64.wrap n) := by
      unfold IntKind.wrap
      simp [IntKind.bits, IntKind.signed]
      omega
    rw [e] at hd
    have HD := Lib.hid hd
    clear hd e
    have hi : Lib.itoa n = 45 :: Lib.decDigits n.natAbs := by unfold Lib.itoa; rw [if_pos hn]
    have hl := Lib.itoa_length_le n h0 h1
    rw [hi, List.length_cons] at hl
    have hov : ¬ 9223372036854775807 < 1 + (Lib.decDigits n.natAbs).length := by omega
    rw [hi]
    go_enter Tryd.func49, Tryd.ntmps49
    go_wp2_with (go_at_call 59; refine (HD.out _).mono ?_; rintro e w' ⟨rfl, rfl⟩)
    go_ret
    refine ⟨?_, rfl⟩
    congr 2
  · have hd := ref_digits n.toNat (by omega)
    have e : ((n.toNat : Nat) : Int) = n := by omega
    rw [e] at hd
    have HD := Lib.hid hd
    clear hd e
    have hi : Lib.itoa n = Lib.decDigits n.toNat := by unfold Lib.itoa; rw [if_neg hn]
    rw [hi]
    go_enter Tryd.func49, Tryd.ntmps49
    go_wp2_with (go_at_call 59; refine (HD.out _).mono ?_; rintro e w' ⟨rfl, rfl⟩)
    go_ret
    exact ⟨rfl, rfl⟩

end Go.Proofs.YtmdkjhnafnblkaaDoor
