/-
  The word of a value that can be is read as that value: of the plain functions, no Go in it.
-/
import Derived.Test.YtmdkjhnafnblkaaDoorRead
import Derived.Lib.ItoaMem
import Derived.Lib.ItoaLen
import Derived.Lib.ParseIntBCases
namespace Go.Proofs.YtmdkjhnafnblkaaDoor
open Go.RowKit

theorem parse_append (M : Nat) : ∀ (l r : List UInt8) (acc a : Nat), Lib.parseUintM M acc l = .ok a → Lib.parseUintM M acc (l ++ r) = Lib.parseUintM M a r
  | [], r, acc, a, h => by
    simp only [Lib.parseUintM, Lib.NumEnd.ok.injEq] at h
    rw [h]
    rfl
  | c :: l, r, acc, a, h => by
    unfold Lib.parseUintM at h
    rw [List.cons_append, Lib.parseUintM]
    split at h
    · rename_i h1
      rw [if_pos h1]
      split at h
      · cases h
      · rename_i h2
        rw [if_neg h2]
        split at h
        · cases h
        · rename_i h3
          rw [if_neg h3]
          exact parse_append M l r _ a h
    · cases h

theorem digit_nat (d : Nat) (hd : d < 10) : (UInt8.ofNat (48 + d)).toNat = 48 + d := by
  rw [UInt8.toNat_ofNat_of_lt']
  show 48 + d < 256
  omega

theorem parse_dec (u : Nat) (hu : u ≤ 18446744073709551615) : Lib.parseUintM 18446744073709551615 0 (Lib.decDigits u) = .ok u := by
  induction u using Nat.strongRecOn with
  | _ u ih =>
    rw [Lib.decDigits]
    by_cases h : u < 10
    · rw [dif_pos h, Lib.parseUintM, digit_nat u h, if_pos (by omega), if_neg (by omega), if_neg (by omega)]
      simp only [Lib.parseUintM]
      congr 1
      omega
    · rw [dif_neg h, parse_append _ _ _ 0 (u / 10) (ih (u / 10) (by omega) (by omega)), Lib.parseUintM, digit_nat (u % 10) (by omega), if_pos (by omega), if_neg (by omega), if_neg (by omega)]
      simp only [Lib.parseUintM]
      congr 1
      omega

theorem dec_head (u : Nat) : ∃ c r, Lib.decDigits u = c :: r ∧ 48 ≤ c.toNat ∧ c.toNat ≤ 57 := by
  induction u using Nat.strongRecOn with
  | _ u ih =>
    rw [Lib.decDigits]
    by_cases h : u < 10
    · rw [dif_pos h]
      exact ⟨_, _, rfl, by rw [digit_nat u h]; omega, by rw [digit_nat u h]; omega⟩
    · rw [dif_neg h]
      obtain ⟨c, r, e, h1, h2⟩ := ih (u / 10) (by omega)
      rw [e]
      exact ⟨c, r ++ _, rfl, h1, h2⟩

theorem num_itoa (n : Int) (h0 : -9223372036854775808 ≤ n) (h1 : n ≤ 9223372036854775807) : numOf (Lib.itoa n) = n := by
  unfold numOf Lib.itoa
  by_cases hn : n < 0
  · rw [if_pos hn]
    have hp := parse_dec n.natAbs (by omega)
    obtain ⟨c, r, e, _, _⟩ := dec_head n.natAbs
    have hq : Lib.parseIntB 64 (45 :: Lib.decDigits n.natAbs) = .ok n := by
      have hne : Lib.decDigits n.natAbs ≠ [] := by rw [e]; simp
      unfold Lib.parseIntB Lib.parseUintB
      have h45 : (45 : UInt8).toNat = 45 := rfl
      simp only [h45, or_true, if_true, if_neg hne]
      rw [show 2 ^ 64 - 1 = 18446744073709551615 from rfl, hp]
      simp only [Nat.reduceSub, Nat.reducePow]
      rw [if_neg (fun hx => hx.1 trivial), if_neg (fun hx => absurd hx.2 (by omega))]
      congr 1
      omega
    rw [hq]
  · rw [if_neg hn]
    have hp := parse_dec n.toNat (by omega)
    obtain ⟨c, r, e, c0, c1⟩ := dec_head n.toNat
    have hq : Lib.parseIntB 64 (Lib.decDigits n.toNat) = .ok n := by
      rw [e] at hp ⊢
      have hc1 : ¬ (c.toNat = 43 ∨ c.toNat = 45) := by omega
      have hc2 : ¬ c.toNat = 45 := by omega
      have hne : c :: r ≠ [] := by simp
      unfold Lib.parseIntB Lib.parseUintB
      simp only [if_neg hc1, if_neg hc2, if_neg hne]
      rw [show 2 ^ 64 - 1 = 18446744073709551615 from rfl, hp]
      simp only [Nat.reduceSub, Nat.reducePow]
      rw [if_neg (fun hx => absurd hx.2 (by omega)), if_neg (fun hx => hc2 hx.1)]
      congr 1
      omega
    rw [hq]

theorem hx_back (c : UInt8) : hx (hexd (c.toNat / 16)) (hexd (c.toNat % 16)) = c := by
  have h : ∀ n : Fin 256, hx (hexd (n.val / 16)) (hexd (n.val % 16)) = UInt8.ofNat n.val := by decide +kernel
  have h1 := h ⟨c.toNat, c.toNat_lt⟩
  simpa using h1

theorem getD_right (a b : List UInt8) (i : Nat) : (a ++ b).getD (a.length + i) 0 = b.getD i 0 := by
  rw [List.getD_eq_getElem?_getD, List.getD_eq_getElem?_getD, List.getElem?_append_right (by omega)]
  congr 2
  omega

/-- What unquote answers of a text between its quotes. -/
theorem unq_flat : ∀ (t pre : List UInt8) (f : Nat), t.length ≤ f → unqF (pre ++ (t.flatMap qb ++ [34])) f pre.length = t
  | [], pre, f, _ => unq_end _ _ _ (by simp)
  | c :: t, pre, 0, h => by simp at h
  | c :: t, pre, f + 1, h => by
    have hf : t.length ≤ f := by simpa using h
    have key : ∀ (q : List UInt8), unqF (pre ++ (q ++ (t.flatMap qb ++ [34]))) f (pre.length + q.length) = t := by
      intro q
      have := unq_flat t (pre ++ q) f hf
      simpa using this
    rw [List.flatMap_cons, List.append_assoc, unqF]
    have g0 := getD_right pre (qb c ++ (t.flatMap qb ++ [34])) 0
    have g1 := getD_right pre (qb c ++ (t.flatMap qb ++ [34])) 1
    have g2 := getD_right pre (qb c ++ (t.flatMap qb ++ [34])) 2
    have g3 := getD_right pre (qb c ++ (t.flatMap qb ++ [34])) 3
    have hk := key (qb c)
    clear key
    rw [Nat.add_zero] at g0
    rw [g0, g1, g2, g3]
    clear g0 g1 g2 g3
    have hl : (pre ++ (qb c ++ (t.flatMap qb ++ [34]))).length = pre.length + (qb c).length + (t.flatMap qb).length + 1 := by simp only [List.length_append, List.length_cons, List.length_nil]; omega
    unfold qb at hk hl ⊢
    by_cases h1 : c.toNat = 34 ∨ c.toNat = 92
    · simp only [if_pos h1] at hk hl ⊢
      have h120 : ¬ c.toNat = 120 := by omega
      simp only [List.length_cons, List.length_nil] at hk hl
      rw [if_pos (by omega)]
      simp only [List.cons_append, List.nil_append, List.getD_cons_zero, List.getD_cons_succ] at hk ⊢
      rw [if_pos (by rfl), if_neg (fun hx => h120 hx.2)]
      exact congrArg _ hk
    · by_cases h2 : c.toNat < 32 ∨ 126 < c.toNat
      · simp only [if_neg h1, if_pos h2] at hk hl ⊢
        simp only [List.length_cons, List.length_nil] at hk hl
        rw [if_pos (by omega)]
        simp only [List.cons_append, List.nil_append, List.getD_cons_zero, List.getD_cons_succ] at hk ⊢
        rw [if_pos (by rfl), if_pos ⟨by simp only [List.length_append, List.length_cons] at hl ⊢; omega, by rfl⟩, hx_back]
        exact congrArg _ hk
      · simp only [if_neg h1, if_neg h2] at hk hl ⊢
        simp only [List.length_cons, List.length_nil] at hk hl
        rw [if_pos (by omega)]
        simp only [List.cons_append, List.nil_append, List.getD_cons_zero, List.getD_cons_succ] at hk ⊢
        rw [if_neg (fun hx => h1 (.inr hx))]
        exact congrArg _ hk

theorem unq_qs (t : List UInt8) (f : Nat) (h : t.length ≤ f) : unqF (qs t) f 1 = t := by
  have := unq_flat t [34] f h
  unfold qs
  simpa using this

theorem itoa_head (n : Int) : ∃ c r, Lib.itoa n = c :: r ∧ c.toNat < 58 ∧ c.toNat ≠ 34 := by
  unfold Lib.itoa
  by_cases hn : n < 0
  · rw [if_pos hn]
    exact ⟨45, _, rfl, by decide, by decide⟩
  · rw [if_neg hn]
    obtain ⟨c, r, e, h0, h1⟩ := dec_head n.toNat
    exact ⟨c, r, e, by omega, by omega⟩

theorem empty_bytes {t : ByteArray} (h : t.size = 0) : t = ⟨#[]⟩ := by
  apply ByteArray.ext
  apply Array.eq_empty_of_size_eq_zero
  exact h

theorem back_list (t : ByteArray) : (⟨t.data.toList.toArray⟩ : ByteArray) = t := by
  apply ByteArray.ext
  simp

theorem guess_show (v : V) (hr : rightV v = true) (hw : Wide v) : guessV (showV v) = v := by
  obtain ⟨k, f, n, t⟩ := v
  unfold showV
  rw [if_pos hr]
  unfold rightV at hr
  simp only [Bool.and_eq_true, decide_eq_true_eq, Bool.or_eq_true, beq_iff_eq, Bool.not_eq_true'] at hr
  obtain ⟨⟨⟨⟨⟨k0, k3⟩, hf⟩, hn⟩, ht⟩, hl⟩ := hr
  simp only
  by_cases h1 : k = 1
  · subst h1
    rw [if_pos rfl]
    have e1 : n = 0 := by omega
    have e2 : t = ⟨#[]⟩ := empty_bytes (by omega)
    subst e1 e2
    cases f
    · rfl
    · rfl
  · have hff : f = false := by
      rcases hf with hf | hf
      · exact absurd hf h1
      · exact hf
    subst hff
    rw [if_neg h1]
    by_cases h2 : k = 2
    · subst h2
      rw [if_pos rfl]
      have e2 : t = ⟨#[]⟩ := empty_bytes (by omega)
      subst e2
      obtain ⟨c, r, e, c1, c2⟩ := itoa_head n
      have hnum := num_itoa n hw.1 hw.2
      unfold guessV
      rw [hnum, e]
      have q1 : ¬ (c :: r = [110, 117, 108, 108]) := fun hx => by
        have := (List.cons.inj hx).1
        subst this
        exact absurd c1 (by decide)
      have q2 : ¬ (c :: r = [116, 114, 117, 101]) := fun hx => by
        have := (List.cons.inj hx).1
        subst this
        exact absurd c1 (by decide)
      have q3 : ¬ (c :: r = [102, 97, 108, 115, 101]) := fun hx => by
        have := (List.cons.inj hx).1
        subst this
        exact absurd c1 (by decide)
      have q4 : ¬ (Lib.hasPrefix (c :: r) [34] = true) := fun hx => by
        simp only [Lib.hasPrefix, List.isPrefixOf, Bool.and_true, beq_iff_eq] at hx
        subst hx
        exact absurd rfl c2
      rw [if_neg q1, if_neg q2, if_neg q3, if_neg q4]
    · have e1 : n = 0 := by omega
      subst e1
      rw [if_neg h2]
      by_cases h3 : k = 3
      · subst h3
        rw [if_pos rfl]
        have hu := unq_qs t.data.toList (qs t.data.toList).length (by
          have : (t.data.toList.flatMap qb).length ≥ t.data.toList.length := by
            generalize t.data.toList = l
            induction l with
            | nil => simp
            | cons c l ih =>
              have hc : 1 ≤ (qb c).length := by
                unfold qb
                split
                · simp
                · split <;> simp
              simp only [List.flatMap_cons, List.length_append, List.length_cons]
              omega
          unfold qs
          simp only [List.length_append, List.length_cons]
          omega)
        unfold guessV
        rw [hu]
        have hq : ∃ r, qs t.data.toList = 34 :: r := ⟨_, rfl⟩
        obtain ⟨r, e⟩ := hq
        rw [e]
        have q1 : ¬ ((34 : UInt8) :: r = [110, 117, 108, 108]) := fun hx => absurd (List.cons.inj hx).1 (by decide)
        have q2 : ¬ ((34 : UInt8) :: r = [116, 114, 117, 101]) := fun hx => absurd (List.cons.inj hx).1 (by decide)
        have q3 : ¬ ((34 : UInt8) :: r = [102, 97, 108, 115, 101]) := fun hx => absurd (List.cons.inj hx).1 (by decide)
        rw [if_neg q1, if_neg q2, if_neg q3, if_pos (by rfl), back_list]
      · have e2 : t = ⟨#[]⟩ := empty_bytes (by omega)
        subst e2
        rw [if_neg h3]
        have e3 : k = 0 := by omega
        subst e3
        rfl

theorem show_len (v : V) (hr : rightV v = true) (hw : Wide v) : (showV v).length ≤ 242 := by
  unfold showV
  rw [if_pos hr]
  split
  · cases v.f <;> decide
  · split
    · have := Lib.itoa_length_le v.n hw.1 hw.2
      omega
    · split
      · have h1 := flat_len v.t.data.toList
        have h2 := right_size v hr
        have h3 : v.t.data.toList.length = v.t.size := rfl
        unfold qs
        simp only [List.length_append, List.length_cons, List.length_nil]
        omega
      · decide

/-- The word of a value that can be is read as that value. -/
theorem read_show (v : V) (hr : rightV v = true) (hw : Wide v) : readR (showV v) = (v, 0) := by
  unfold readR
  rw [guess_show v hr hw, if_pos ⟨show_len v hr hw, rfl⟩]
end Go.Proofs.YtmdkjhnafnblkaaDoor
