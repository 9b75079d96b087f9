/-
  The word of a value that can be is read as that value: of the plain functions, no Go in it.
  digits of verdererref01 answers the decimal digits of a number, at every number of 64 bits, and changes nothing.
  No condition.
  quoted of verdererref01 answers the bytes that stand for a text between two quotes, at every text, and changes nothing.
  Condition: the text is no longer than a thousand bytes.
  Show of the document's value answers the word of a value, as Show of package value does, at every value; nothing that was there is changed.
  Condition: the number is one of 64 bits.
  hex of verdererref01 answers the digit of base 16 that a byte is, and -1 where it is none; it changes nothing.
  No condition.
-/
import Derived.Lib.ItoaMem
import Derived.Lib.ItoaLen
import Derived.Lib.ParseIntBCases
import Derived.Test.YtkobfngnnblpeaaGreatDoorM2
import Derived.Test.YtkobfngnnblpeaaGreatDoorM5
namespace Go.Proofs.YtkobfngnnblpeaaGreatDoor
section
open Go.RowKit

theorem parse_append (M : Nat) : ∀ (l r : List UInt8) (acc a : Nat), Lib.parseUintM M acc l = .ok a → Lib.parseUintM M acc (l ++ r) = Lib.parseUintM M a r
  | [], r, acc, a, h => by
    simp only [Lib.parseUintM, Lib.NumEnd.ok.injEq] at h
    rw [h]
    rfl
  | c :: l, r, acc, a, h => by
    unfold Lib.parseUintM at h
    rw [List.cons_append, Lib.parseUintM]
    split at h
    · rename_i h1
      rw [if_pos h1]
      split at h
      · cases h
      · rename_i h2
        rw [if_neg h2]
        split at h
        · cases h
        · rename_i h3
          rw [if_neg h3]
          exact parse_append M l r _ a h
    · cases h

theorem digit_nat (d : Nat) (hd : d < 10) : (UInt8.ofNat (48 + d)).toNat = 48 + d := by
  rw [UInt8.toNat_ofNat_of_lt']
  show 48 + d < 256
  omega

theorem parse_dec (u : Nat) (hu : u ≤ 18446744073709551615) : Lib.parseUintM 18446744073709551615 0 (Lib.decDigits u) = .ok u := by
  induction u using Nat.strongRecOn with
  | _ u ih =>
    rw [Lib.decDigits]
    by_cases h : u < 10
    · rw [dif_pos h, Lib.parseUintM, digit_nat u h, if_pos (by omega), if_neg (by omega), if_neg (by omega)]
      simp only [Lib.parseUintM]
      congr 1
      omega
    · rw [dif_neg h, parse_append _ _ _ 0 (u / 10) (ih (u / 10) (by omega) (by omega)), Lib.parseUintM, digit_nat (u % 10) (by omega), if_pos (by omega), if_neg (by omega), if_neg (by omega)]
      simp only [Lib.parseUintM]
      congr 1
      omega

theorem dec_head (u : Nat) : ∃ c r, Lib.decDigits u = c :: r ∧ 48 ≤ c.toNat ∧ c.toNat ≤ 57 := by
  induction u using Nat.strongRecOn with
  | _ u ih =>
    rw [Lib.decDigits]
    by_cases h : u < 10
    · rw [dif_pos h]
      exact ⟨_, _, rfl, by rw [digit_nat u h]; omega, by rw [digit_nat u h]; omega⟩
    · rw [dif_neg h]
      obtain ⟨c, r, e, h1, h2⟩ := ih (u / 10) (by omega)
      rw [e]
      exact ⟨c, r ++ _, rfl, h1, h2⟩

theorem num_itoa (n : Int) (h0 : -9223372036854775808 ≤ n) (h1 : n ≤ 9223372036854775807) : numOf (Lib.itoa n) = n := by
  unfold numOf Lib.itoa
  by_cases hn : n < 0
  · rw [if_pos hn]
    have hp := parse_dec n.natAbs (by omega)
    obtain ⟨c, r, e, _, _⟩ := dec_head n.natAbs
    have hq : Lib.parseIntB 64 (45 :: Lib.decDigits n.natAbs) = .ok n := by
      have hne : Lib.decDigits n.natAbs ≠ [] := by rw [e]; simp
      unfold Lib.parseIntB Lib.parseUintB
      have h45 : (45 : UInt8).toNat = 45 := rfl
      simp only [h45, or_true, if_true, if_neg hne]
      rw [show 2 ^ 64 - 1 = 18446744073709551615 from rfl, hp]
      simp only [Nat.reduceSub, Nat.reducePow]
      rw [if_neg (fun hx => hx.1 trivial), if_neg (fun hx => absurd hx.2 (by omega))]
      congr 1
      omega
    rw [hq]
  · rw [if_neg hn]
    have hp := parse_dec n.toNat (by omega)
    obtain ⟨c, r, e, c0, c1⟩ := dec_head n.toNat
    have hq : Lib.parseIntB 64 (Lib.decDigits n.toNat) = .ok n := by
      rw [e] at hp ⊢
      have hc1 : ¬ (c.toNat = 43 ∨ c.toNat = 45) := by omega
      have hc2 : ¬ c.toNat = 45 := by omega
      have hne : c :: r ≠ [] := by simp
      unfold Lib.parseIntB Lib.parseUintB
      simp only [if_neg hc1, if_neg hc2, if_neg hne]
      rw [show 2 ^ 64 - 1 = 18446744073709551615 from rfl, hp]
      simp only [Nat.reduceSub, Nat.reducePow]
      rw [if_neg (fun hx => absurd hx.2 (by omega)), if_neg (fun hx => hc2 hx.1)]
      congr 1
      omega
    rw [hq]

theorem hx_back (c : UInt8) : hx (hexd (c.toNat / 16)) (hexd (c.toNat % 16)) = c := by
  have h : ∀ n : Fin 256, hx (hexd (n.val / 16)) (hexd (n.val % 16)) = UInt8.ofNat n.val := by decide +kernel
  have h1 := h ⟨c.toNat, c.toNat_lt⟩
  simpa using h1

theorem getD_right (a b : List UInt8) (i : Nat) : (a ++ b).getD (a.length + i) 0 = b.getD i 0 := by
  rw [List.getD_eq_getElem?_getD, List.getD_eq_getElem?_getD, List.getElem?_append_right (by omega)]
  congr 2
  omega

/-- What unquote answers of a text between its quotes. -/
theorem unq_flat : ∀ (t pre : List UInt8) (f : Nat), t.length ≤ f → unqF (pre ++ (t.flatMap qb ++ [34])) f pre.length = t
  | [], pre, f, _ => unq_end _ _ _ (by simp)
  | c :: t, pre, 0, h => by simp at h
  | c :: t, pre, f + 1, h => by
    have hf : t.length ≤ f := by simpa using h
    have key : ∀ (q : List UInt8), unqF (pre ++ (q ++ (t.flatMap qb ++ [34]))) f (pre.length + q.length) = t := by
      intro q
      have := unq_flat t (pre ++ q) f hf
      simpa using this
    rw [List.flatMap_cons, List.append_assoc, unqF]
    have g0 := getD_right pre (qb c ++ (t.flatMap qb ++ [34])) 0
    have g1 := getD_right pre (qb c ++ (t.flatMap qb ++ [34])) 1
    have g2 := getD_right pre (qb c ++ (t.flatMap qb ++ [34])) 2
    have g3 := getD_right pre (qb c ++ (t.flatMap qb ++ [34])) 3
    have hk := key (qb c)
    clear key
    rw [Nat.add_zero] at g0
    rw [g0, g1, g2, g3]
    clear g0 g1 g2 g3
    have hl : (pre ++ (qb c ++ (t.flatMap qb ++ [34]))).length = pre.length + (qb c).length + (t.flatMap qb).length + 1 := by simp only [List.length_append, List.length_cons, List.length_nil]; omega
    unfold qb at hk hl ⊢
    by_cases h1 : c.toNat = 34 ∨ c.toNat = 92
    · simp only [if_pos h1] at hk hl ⊢
      have h120 : ¬ c.toNat = 120 := by omega
      simp only [List.length_cons, List.length_nil] at hk hl
      rw [if_pos (by omega)]
      simp only [List.cons_append, List.nil_append, List.getD_cons_zero, List.getD_cons_succ] at hk ⊢
      rw [if_pos (by rfl), if_neg (fun hx => h120 hx.2)]
      exact congrArg _ hk
    · by_cases h2 : c.toNat < 32 ∨ 126 < c.toNat
      · simp only [if_neg h1, if_pos h2] at hk hl ⊢
        simp only [List.length_cons, List.length_nil] at hk hl
        rw [if_pos (by omega)]
        simp only [List.cons_append, List.nil_append, List.getD_cons_zero, List.getD_cons_succ] at hk ⊢
        rw [if_pos (by rfl), if_pos ⟨by simp only [List.length_append, List.length_cons] at hl ⊢; omega, by rfl⟩, hx_back]
        exact congrArg _ hk
      · simp only [if_neg h1, if_neg h2] at hk hl ⊢
        simp only [List.length_cons, List.length_nil] at hk hl
        rw [if_pos (by omega)]
        simp only [List.cons_append, List.nil_append, List.getD_cons_zero, List.getD_cons_succ] at hk ⊢
        rw [if_neg (fun hx => h1 (.inr hx))]
        exact congrArg _ hk

theorem unq_qs (t : List UInt8) (f : Nat) (h : t.length ≤ f) : unqF (qs t) f 1 = t := by
  have := unq_flat t [34] f h
  unfold qs
  simpa using this

theorem itoa_head (n : Int) : ∃ c r, Lib.itoa n = c :: r ∧ c.toNat < 58 ∧ c.toNat ≠ 34 := by
  unfold Lib.itoa
  by_cases hn : n < 0
  · rw [if_pos hn]
    exact ⟨45, _, rfl, by decide, by decide⟩
  · rw [if_neg hn]
    obtain ⟨c, r, e, h0, h1⟩ := dec_head n.toNat
    exact ⟨c, r, e, by omega, by omega⟩

theorem empty_bytes {t : ByteArray} (h : t.size = 0) : t = ⟨#[]⟩ := by
  apply ByteArray.ext
  apply Array.eq_empty_of_size_eq_zero
  exact h

theorem back_list (t : ByteArray) : (⟨t.data.toList.toArray⟩ : ByteArray) = t := by
  apply ByteArray.ext
  simp

theorem guess_show (v : V) (hr : rightV v = true) (hw : Wide v) : guessV (showV v) = v := by
  obtain ⟨k, f, n, t⟩ := v
  unfold showV
  rw [if_pos hr]
  unfold rightV at hr
  simp only [Bool.and_eq_true, decide_eq_true_eq, Bool.or_eq_true, beq_iff_eq, Bool.not_eq_true'] at hr
  obtain ⟨⟨⟨⟨⟨k0, k3⟩, hf⟩, hn⟩, ht⟩, hl⟩ := hr
  simp only
  by_cases h1 : k = 1
  · subst h1
    rw [if_pos rfl]
    have e1 : n = 0 := by omega
    have e2 : t = ⟨#[]⟩ := empty_bytes (by omega)
    subst e1 e2
    cases f
    · rfl
    · rfl
  · have hff : f = false := by
      rcases hf with hf | hf
      · exact absurd hf h1
      · exact hf
    subst hff
    rw [if_neg h1]
    by_cases h2 : k = 2
    · subst h2
      rw [if_pos rfl]
      have e2 : t = ⟨#[]⟩ := empty_bytes (by omega)
      subst e2
      obtain ⟨c, r, e, c1, c2⟩ := itoa_head n
      have hnum := num_itoa n hw.1 hw.2
      unfold guessV
      rw [hnum, e]
      have q1 : ¬ (c :: r = [110, 117, 108, 108]) := fun hx => by
        have := (List.cons.inj hx).1
        subst this
        exact absurd c1 (by decide)
      have q2 : ¬ (c :: r = [116, 114, 117, 101]) := fun hx => by
        have := (List.cons.inj hx).1
        subst this
        exact absurd c1 (by decide)
      have q3 : ¬ (c :: r = [102, 97, 108, 115, 101]) := fun hx => by
        have := (List.cons.inj hx).1
        subst this
        exact absurd c1 (by decide)
      have q4 : ¬ (Lib.hasPrefix (c :: r) [34] = true) := fun hx => by
        simp only [Lib.hasPrefix, List.isPrefixOf, Bool.and_true, beq_iff_eq] at hx
        subst hx
        exact absurd rfl c2
      rw [if_neg q1, if_neg q2, if_neg q3, if_neg q4]
    · have e1 : n = 0 := by omega
      subst e1
      rw [if_neg h2]
      by_cases h3 : k = 3
      · subst h3
        rw [if_pos rfl]
        have hu := unq_qs t.data.toList (qs t.data.toList).length (by
          have : (t.data.toList.flatMap qb).length ≥ t.data.toList.length := by
            generalize t.data.toList = l
            induction l with
            | nil => simp
            | cons c l ih =>
              have hc : 1 ≤ (qb c).length := by
                unfold qb
                split
                · simp
                · split <;> simp
              simp only [List.flatMap_cons, List.length_append, List.length_cons]
              omega
          unfold qs
          simp only [List.length_append, List.length_cons]
          omega)
        unfold guessV
        rw [hu]
        have hq : ∃ r, qs t.data.toList = 34 :: r := ⟨_, rfl⟩
        obtain ⟨r, e⟩ := hq
        rw [e]
        have q1 : ¬ ((34 : UInt8) :: r = [110, 117, 108, 108]) := fun hx => absurd (List.cons.inj hx).1 (by decide)
        have q2 : ¬ ((34 : UInt8) :: r = [116, 114, 117, 101]) := fun hx => absurd (List.cons.inj hx).1 (by decide)
        have q3 : ¬ ((34 : UInt8) :: r = [102, 97, 108, 115, 101]) := fun hx => absurd (List.cons.inj hx).1 (by decide)
        rw [if_neg q1, if_neg q2, if_neg q3, if_pos (by rfl), back_list]
      · have e2 : t = ⟨#[]⟩ := empty_bytes (by omega)
        subst e2
        rw [if_neg h3]
        have e3 : k = 0 := by omega
        subst e3
        rfl

theorem show_len (v : V) (hr : rightV v = true) (hw : Wide v) : (showV v).length ≤ 242 := by
  unfold showV
  rw [if_pos hr]
  split
  · cases v.f <;> decide
  · split
    · have := Lib.itoa_length_le v.n hw.1 hw.2
      omega
    · split
      · have h1 := flat_len v.t.data.toList
        have h2 := right_size v hr
        have h3 : v.t.data.toList.length = v.t.size := rfl
        unfold qs
        simp only [List.length_append, List.length_cons, List.length_nil]
        omega
      · decide

/-- The word of a value that can be is read as that value. -/
theorem read_show (v : V) (hr : rightV v = true) (hw : Wide v) : readR (showV v) = (v, 0) := by
  unfold readR
  rw [guess_show v hr hw, if_pos ⟨show_len v hr hw, rfl⟩]
end
end Go.Proofs.YtkobfngnnblpeaaGreatDoor
namespace Go.Proofs.YtkobfngnnblpeaaGreatDoor
section
open Go.RowKit

theorem dig_cat (m : Nat) (l : List UInt8) : (⟨#[48, 49, 50, 51, 52, 53, 54, 55, 56, 57]⟩ : ByteArray).extract (m % 10) (m % 10 + 1) ++ ⟨l.toArray⟩ = ⟨(UInt8.ofNat (48 + m % 10) :: l).toArray⟩ := by
  have h : ∀ d : Fin 10, (⟨#[48, 49, 50, 51, 52, 53, 54, 55, 56, 57]⟩ : ByteArray).extract d.val (d.val + 1) = ⟨#[UInt8.ofNat (48 + d.val)]⟩ := by decide
  have h1 := h ⟨m % 10, Nat.mod_lt _ (by decide)⟩
  simp only at h1
  rw [h1]
  apply ByteArray.ext
  simp

theorem dig_step (m : Nat) (l : List UInt8) : Lib.decDigits m ++ l = (if m < 10 then UInt8.ofNat (48 + m % 10) :: l else Lib.decDigits (m / 10) ++ (UInt8.ofNat (48 + m % 10) :: l)) := by
  rw [Lib.decDigits]
  by_cases h : m < 10
  · rw [dif_pos h, if_pos h, Nat.mod_eq_of_lt h]
    rfl
  · rw [dif_neg h, if_neg h]
    simp

set_option maxHeartbeats 1000000 in
theorem ref_digits (u : Nat) (hu : u < 18446744073709551616) (w : World) : Calls Tryz.prog 154 #[.int .u64 (u : Int)] w fun e w' => e = .returned (.string ⟨(Lib.decDigits u).toArray⟩) ∧ w' = w := by
  obtain ⟨R, hR⟩ : ∃ R, R = Lib.decDigits u := ⟨_, rfl⟩
  rw [← hR]
  have HR := Lib.hid hR
  clear hR
  go_enter Tryz.func154, Tryz.ntmps154
  go_wp2
  go_loopw [0, 3, 4] (fun x s i wr => ∃ (k m : Nat) (l : List UInt8), k ≤ 20 ∧ l.length ≤ k ∧ x = .int .u64 (m : Int) ∧ s = .string ⟨l.toArray⟩ ∧ i = .int .i64 k ∧ m = u / 10 ^ k ∧ ((k = 0 ∧ l = []) ∨ (0 < k ∧ m = 0 ∧ l = R) ∨ (0 < k ∧ 0 < m ∧ Lib.decDigits m ++ l = R)) ∧ wr = w) (fun _ _ i _ => 20 - (intOf i).toNat)
  case atStart => exact ⟨0, u, [], by omega, by simp, rfl, rfl, rfl, by simp, .inl ⟨rfl, rfl⟩, rfl⟩
  case round =>
    obtain ⟨k, m, l, hk, hll, rfl, rfl, rfl, hm, hd, rfl⟩ := hrel
    have HM := Lib.hid hm
    have hmu : m < 18446744073709551616 := by
      rw [hm]
      exact Nat.lt_of_le_of_lt (Nat.div_le_self _ _) hu
    have HD := Lib.hid hd
    have hov : ¬ 9223372036854775807 < min (m % 10 + 1) 10 - m % 10 + l.length := by omega
    have hnext : m / 10 = u / 10 ^ (k + 1) := by rw [hm, Nat.div_div_eq_div_mul, Nat.pow_succ]
    have HN := Lib.hid hnext
    clear hnext
    clear hm hd
    by_cases hgo : k < 20 ∧ (k = 0 ∨ 0 < m)
    · have hr : Lib.decDigits m ++ l = R := by
        rcases HD.out with ⟨h0, h2⟩ | ⟨h0, h2, _⟩ | ⟨_, _, h2⟩
        · subst h0 h2
          have hmm := HM.out
          rw [Nat.pow_zero, Nat.div_one] at hmm
          rw [hmm, HR.out, List.append_nil]
        · omega
        · exact h2
      rw [dig_step] at hr
      have HS := Lib.hid hr
      clear hr
      have hdone : ∃ (k' m' : Nat) (l' : List UInt8), k' ≤ 20 ∧ l'.length ≤ k' ∧ Value.int IntKind.u64 ((m : Int) / 10) = Value.int IntKind.u64 (m' : Int) ∧ Value.string ((⟨#[48, 49, 50, 51, 52, 53, 54, 55, 56, 57]⟩ : ByteArray).extract (m % 10) (m % 10 + 1) ++ ⟨l.toArray⟩) = .string ⟨l'.toArray⟩ ∧ Value.int .i64 (((k + 1 : Nat)) : Int) = .int .i64 ((k' : Nat) : Int) ∧ m' = u / 10 ^ k' ∧ ((k' = 0 ∧ l' = []) ∨ (0 < k' ∧ m' = 0 ∧ l' = R) ∨ (0 < k' ∧ 0 < m' ∧ Lib.decDigits m' ++ l' = R)) := by
        refine ⟨k + 1, m / 10, UInt8.ofNat (48 + m % 10) :: l, by omega, by simp; omega, by simp, by rw [dig_cat], rfl, HN.out, ?_⟩
        by_cases h9 : m < 10
        · refine .inr (.inl ⟨by omega, by omega, ?_⟩)
          have := HS.out
          rwa [if_pos h9] at this
        · refine .inr (.inr ⟨by omega, by omega, ?_⟩)
          have := HS.out
          rwa [if_neg h9] at this
      have HDone := Lib.hid hdone
      clear hdone
      obtain ⟨h1, h2⟩ := hgo
      by_cases h3 : k = 0
      · subst h3
        clear h2
        go_wp2
        obtain ⟨k', m', l', a1, a2, a3, a4, a5, a6, a7⟩ := HDone.out
        exact ⟨⟨k', m', l', a1, a2, a3, a4, a5, a6, a7, trivial⟩, by simp [intOf]⟩
      · have h4 : 0 < m := by omega
        clear h2
        go_wp2
        obtain ⟨k', m', l', a1, a2, a3, a4, a5, a6, a7⟩ := HDone.out
        exact ⟨⟨k', m', l', a1, a2, a3, a4, by rw [← a5]; go_num, a6, a7, trivial⟩, by simp [intOf]; omega⟩
    · have hr : l = R := by
        rcases HD.out with ⟨h0, h2⟩ | ⟨h0, h2, h3⟩ | ⟨h0, h2, _⟩
        · omega
        · exact h3
        · have h20 : k = 20 := by omega
          have hmm := HM.out
          subst h20
          have : u / 10 ^ 20 = 0 := Nat.div_eq_of_lt (by omega)
          omega
      subst hr
      have h20 : ¬ k = 0 := by
        intro h0
        apply hgo
        exact ⟨by omega, .inl h0⟩
      by_cases h1 : k < 20
      · have h5 : m = 0 := by omega
        subst h5
        clear hgo
        go_wp2
        go_ret
        exact ⟨rfl, rfl⟩
      · clear hgo
        go_wp2
        go_ret
        exact ⟨rfl, rfl⟩

set_option maxHeartbeats 1000000 in
theorem ref_num (n : Int) (h0 : -9223372036854775808 ≤ n) (h1 : n ≤ 9223372036854775807) (w : World) : Calls Tryz.prog 134 #[.int .i64 n] w fun e w' => e = .returned (.string ⟨(Lib.itoa n).toArray⟩) ∧ w' = w := by
  by_cases hn : n < 0
  · have hd := ref_digits n.natAbs (by omega)
    have e : ((n.natAbs : Nat) : Int) = IntKind.u64.wrap (-IntKind.u64.wrap n) := by
      unfold IntKind.wrap
      simp [IntKind.bits, IntKind.signed]
      omega
    rw [e] at hd
    have HD := Lib.hid hd
    clear hd e
    have hi : Lib.itoa n = 45 :: Lib.decDigits n.natAbs := by unfold Lib.itoa; rw [if_pos hn]
    have hl := Lib.itoa_length_le n h0 h1
    rw [hi, List.length_cons] at hl
    have hov : ¬ 9223372036854775807 < 1 + (Lib.decDigits n.natAbs).length := by omega
    rw [hi]
    go_enter Tryz.func134, Tryz.ntmps134
    go_wp2_with (go_at_call 154; refine (HD.out _).mono ?_; rintro e w' ⟨rfl, rfl⟩)
    go_ret
    refine ⟨?_, rfl⟩
    congr 2
  · have hd := ref_digits n.toNat (by omega)
    have e : ((n.toNat : Nat) : Int) = n := by omega
    rw [e] at hd
    have HD := Lib.hid hd
    clear hd e
    have hi : Lib.itoa n = Lib.decDigits n.toNat := by unfold Lib.itoa; rw [if_neg hn]
    rw [hi]
    go_enter Tryz.func134, Tryz.ntmps134
    go_wp2_with (go_at_call 154; refine (HD.out _).mono ?_; rintro e w' ⟨rfl, rfl⟩)
    go_ret
    exact ⟨rfl, rfl⟩
end
end Go.Proofs.YtkobfngnnblpeaaGreatDoor
namespace Go.Proofs.YtkobfngnnblpeaaGreatDoor
section
open Go.RowKit

theorem hexd_cut (d : Nat) (hd : d < 16) : (⟨#[48, 49, 50, 51, 52, 53, 54, 55, 56, 57, 97, 98, 99, 100, 101, 102]⟩ : ByteArray).extract d (d + 1) = ⟨#[hexd d]⟩ := by
  have h : ∀ e : Fin 16, (⟨#[48, 49, 50, 51, 52, 53, 54, 55, 56, 57, 97, 98, 99, 100, 101, 102]⟩ : ByteArray).extract e.val (e.val + 1) = ⟨#[hexd e.val]⟩ := by decide
  exact h ⟨d, hd⟩
theorem hex_slice (z z1 : Int) (d : Nat) (hz : z = (d : Int)) (hz1 : z1 = (d : Int) + 1) (hd : d < 16) (w : World) :
    (Instr.slice 9 (.string ⟨#[48, 49, 50, 51, 52, 53, 54, 55, 56, 57, 97, 98, 99, 100, 101, 102]⟩) (some (.int .u8 z)) (some (.int .u8 z1)) none).run Tryz.prog w = .ok (.string ⟨#[hexd d]⟩) w := by
  subst hz hz1
  rw [run_slice_string_if w 9 _ .u8 .u8 (d : Int) ((d : Int) + 1) Tryz.underlying9]
  have hs : ByteArray.size ⟨#[48, 49, 50, 51, 52, 53, 54, 55, 56, 57, 97, 98, 99, 100, 101, 102]⟩ = 16 := rfl
  rw [if_pos ⟨by omega, by rw [hs]; omega⟩, if_pos ⟨by omega, by omega⟩]
  have e : ((d : Int)).toNat = d := by omega
  have e1 : ((d : Int) + 1).toNat = d + 1 := by omega
  rw [e, e1, hexd_cut d hd]

theorem cat_bytes (a b : List UInt8) : (⟨a.toArray⟩ : ByteArray) ++ ⟨b.toArray⟩ = ⟨(a ++ b).toArray⟩ := by
  apply ByteArray.ext
  simp
theorem cut_one (s : ByteArray) (k : Nat) (h : k < s.size) : s.extract k (k + 1) = ⟨[s[k]].toArray⟩ := by
  apply ByteArray.ext
  have h' : k < s.data.size := h
  simp only [ByteArray.data_extract]
  apply Array.ext
  · simp only [Array.size_extract, List.size_toArray, List.length_cons, List.length_nil]
    omega
  · intro i h1 h2
    have hi : i = 0 := by simpa using h2
    subst hi
    simp only [Array.getElem_extract, Nat.add_zero]
    rfl
theorem quo_next (s : ByteArray) (k : Nat) (bs : List UInt8) (w wr : World) (h1 : k < s.size) (hbl : bs.length ≤ 1 + 4 * k) (hb : bs = [34] ++ (s.data.toList.take k).flatMap qb) (v : ByteArray) (hv : v = ⟨(bs ++ qb s[k]).toArray⟩) (hw : Below w.heap.size w wr) :
    (∃ (k' : Nat) (bs' : List UInt8), k' ≤ s.size ∧ Value.int .i64 ((k : Int) + 1) = .int .i64 (k' : Int) ∧ Value.string v = .string ⟨bs'.toArray⟩ ∧ bs'.length ≤ 1 + 4 * k' ∧ bs' = [34] ++ (s.data.toList.take k').flatMap qb ∧ Below w.heap.size w wr) ∧
    s.size - (intOf (Value.int .i64 ((k : Int) + 1))).toNat < s.size - (intOf (Value.int .i64 (k : Int))).toNat := by
  refine ⟨⟨k + 1, bs ++ qb s[k], by omega, rfl, by rw [hv], ?_, by rw [take_flat s k h1, hb, List.append_assoc], hw⟩, by simp only [intOf]; omega⟩
  have := qb_len s[k]
  simp only [List.length_append]
  omega

set_option maxRecDepth 100000 in
set_option maxHeartbeats 2000000 in
theorem ref_quoted (s : ByteArray) (hs : s.size ≤ 1000) (w : World) : Calls Tryz.prog 137 #[.string s] w fun e w' => e = .returned (.string ⟨(qs s.data.toList).toArray⟩) ∧ Below w.heap.size w w' := by
  have hsl : s.data.toList.length = s.size := rfl
  have HL := Lib.hid hsl
  clear hsl
  go_enter Tryz.func137, Tryz.ntmps137
  go_wp2
  go_loopw [3, 4] (fun v i wr => ∃ (k : Nat) (bs : List UInt8), k ≤ s.size ∧ i = .int .i64 k ∧ v = .string ⟨bs.toArray⟩ ∧ bs.length ≤ 1 + 4 * k ∧ bs = [34] ++ (s.data.toList.take k).flatMap qb ∧ Below w.heap.size w wr) (fun _ i _ => s.size - (intOf i).toNat)
  case atStart => exact ⟨0, [34], Nat.zero_le _, rfl, rfl, by simp, by simp, Below.refl _ _⟩
  case round =>
    obtain ⟨k, bs, hk, rfl, rfl, hbl, hbs, hbel⟩ := hrel
    have HBel := Lib.hid hbel
    clear hbel
    have HB := Lib.hid hbs
    clear hbs
    by_cases h1 : k < s.size
    · have HT := Lib.hid (take_flat s k h1)
      have hc : s[k].toNat < 256 := s[k].toNat_lt
      have hc1 : (s[k].toNat : Int) < 256 := by omega
      have o2 : ¬ 9223372036854775807 < bs.length + 2 := by omega
      have o3 : ¬ 9223372036854775807 < bs.length + 2 + 1 := by omega
      have o5 : ¬ 9223372036854775807 < bs.length + 3 + 1 := by omega
      have o6 : ¬ 9223372036854775807 < bs.length + 2 + 1 + 1 := by omega
      by_cases c1 : s[k].toNat = 34
      · have b1 : ((s[k].toNat : Int) == 34) = true := by rw [c1]; rfl
        have HQ := Lib.hid (show qb s[k] = [92, s[k]] from if_pos (.inl c1))
        clear c1
        go_wp2
        refine quo_next s k bs _ _ h1 hbl HB.out _ ?_ HBel.out
        rw [HQ.out, cut_one s k h1, ByteArray.append_assoc]
        exact (congrArg (_ ++ ·) (cat_bytes [92] [s[k]])).trans (cat_bytes bs _)
      · have b1 : ((s[k].toNat : Int) == 34) = false := by
          rw [beq_eq_false_iff_ne]
          omega
        by_cases c2 : s[k].toNat = 92
        · have b2 : ((s[k].toNat : Int) == 92) = true := by rw [c2]; rfl
          have HQ := Lib.hid (show qb s[k] = [92, s[k]] from if_pos (.inr c2))
          clear c1 c2
          go_wp2
          refine quo_next s k bs _ _ h1 hbl HB.out _ ?_ HBel.out
          rw [HQ.out, cut_one s k h1, ByteArray.append_assoc]
          exact (congrArg (_ ++ ·) (cat_bytes [92] [s[k]])).trans (cat_bytes bs _)
        · have b2 : ((s[k].toNat : Int) == 92) = false := by
            rw [beq_eq_false_iff_ne]
            omega
          by_cases c3 : s[k].toNat < 32 ∨ 126 < s[k].toNat
          · have HQ := Lib.hid (show qb s[k] = [92, 120, hexd (s[k].toNat / 16), hexd (s[k].toNat % 16)] by unfold qb; rw [if_neg (by omega), if_pos c3])
            have w1 : IntKind.u8.wrap ((s[k].toNat : Int) / 16 + 1) = (s[k].toNat : Int) / 16 + 1 := by rw [IntKind.wrap_u8]; omega
            have w2 : IntKind.u8.wrap ((s[k].toNat : Int) % 16 + 1) = (s[k].toNat : Int) % 16 + 1 := by rw [IntKind.wrap_u8]; omega
            have w3 : IntKind.u8.wrap ((s[k].toNat : Int) / 16) = (s[k].toNat : Int) / 16 := by rw [IntKind.wrap_u8]; omega
            have w4 : IntKind.u8.wrap ((s[k].toNat : Int) % 16) = (s[k].toNat : Int) % 16 := by rw [IntKind.wrap_u8]; omega
            have tm : ((s[k].toNat : Int)).tmod 16 = (s[k].toNat : Int) % 16 := Int.tmod_eq_emod_of_nonneg (by omega)
            have i1 := fun W : World => hex_slice ((s[k].toNat : Int) / 16) ((s[k].toNat : Int) / 16 + 1) (s[k].toNat / 16) (by omega) (by omega) (by omega) W
            have i2 := fun W : World => hex_slice ((s[k].toNat : Int) % 16) ((s[k].toNat : Int) % 16 + 1) (s[k].toNat % 16) (by omega) (by omega) (by omega) W
            by_cases c4 : (s[k].toNat : Int) < 32
            · clear c1 c2 c3
              go_wp2
              go_region_law (fail)
              go_wp2
              refine quo_next s k bs _ _ h1 hbl HB.out _ ?_ (HBel.out.trans (Below.drew (Below.refl _ _)))
              rw [HQ.out, ByteArray.append_assoc, ByteArray.append_assoc]
              exact (congrArg (_ ++ ·) ((congrArg (_ ++ ·) (cat_bytes [_] [_])).trans (cat_bytes [92, 120] _))).trans (cat_bytes bs _)
            · have c5 : 126 < (s[k].toNat : Int) := by omega
              clear c1 c2 c3
              go_wp2
              go_region_law (fail)
              go_wp2
              refine quo_next s k bs _ _ h1 hbl HB.out _ ?_ (HBel.out.trans (Below.drew (Below.refl _ _)))
              rw [HQ.out, ByteArray.append_assoc, ByteArray.append_assoc]
              exact (congrArg (_ ++ ·) ((congrArg (_ ++ ·) (cat_bytes [_] [_])).trans (cat_bytes [92, 120] _))).trans (cat_bytes bs _)
          · have HQ := Lib.hid (show qb s[k] = [s[k]] by unfold qb; rw [if_neg (by omega), if_neg c3])
            have c5 : 32 ≤ (s[k].toNat : Int) := by omega
            have c6 : (s[k].toNat : Int) ≤ 126 := by omega
            clear c1 c2 c3
            go_wp2
            refine quo_next s k bs _ _ h1 hbl HB.out _ ?_ HBel.out
            rw [HQ.out, cut_one s k h1]
            exact cat_bytes bs _
    · obtain rfl : k = s.size := by omega
      have o1 : ¬ 9223372036854775807 < bs.length + 1 := by omega
      go_wp2
      go_ret
      refine ⟨?_, HBel.out⟩
      rw [HB.out, List.take_of_length_le (by rw [HL.out]; omega)]
      exact congrArg (fun x => Ending.returned (Value.string x)) (cat_bytes _ [34])
end
end Go.Proofs.YtkobfngnnblpeaaGreatDoor
namespace Go.Proofs.YtkobfngnnblpeaaGreatDoor
section
open Go.RowKit

set_option maxHeartbeats 1000000 in
theorem ref_show (v : V) (w : World) (hw : Wide v) : Calls Tryz.prog 109 #[v.val] w fun e w' => e = .returned (.string ⟨(showV v).toArray⟩) ∧ Below w.heap.size w w' := by
  obtain ⟨k, f, n, t⟩ := v
  show Calls Tryz.prog 109 #[.agg #[.int .i64 k, .bool f, .int .i64 n, .string t]] w _
  have HW := Lib.hid hw
  have HRV := Lib.hid (fun w => ref_right ⟨k, f, n, t⟩ w)
  clear hw
  rcases Bool.eq_false_or_eq_true (rightV ⟨k, f, n, t⟩) with hr | hr
  · have HR := Lib.hid hr
    have HS := Lib.hid (right_size _ hr)
    clear hr
    by_cases h0 : k = 0
    · subst h0
      have hs : showV ⟨0, f, n, t⟩ = [110, 117, 108, 108] := by unfold showV; rw [if_pos HR.out]; rfl
      have HSH := Lib.hid hs
      clear hs
      go_enter Tryz.func109, Tryz.ntmps109
      go_wp2_with (first
        | (go_at_call 136; refine (HRV.out _).mono ?_; rintro e w1 ⟨rfl, hb1⟩; rw [HR.out]; have hc1 := bcell hb1))
      go_ret
      exact ⟨ret_str HSH.out.symm, (one_new _ _).trans (hb1.mono (by simp))⟩
    · by_cases h1 : k = 1
      · subst h1
        have hs : showV ⟨1, f, n, t⟩ = Lib.formatBool f := by unfold showV; rw [if_pos HR.out]; rfl
        have HSH := Lib.hid hs
        clear hs h0
        cases f
        all_goals
          go_enter Tryz.func109, Tryz.ntmps109
          go_wp2_with (first
            | (go_at_call 136; refine (HRV.out _).mono ?_; rintro e w1 ⟨rfl, hb1⟩; rw [HR.out]; have hc1 := bcell hb1))
          go_ret
          exact ⟨ret_str HSH.out.symm, (one_new _ _).trans (hb1.mono (by simp))⟩
      · by_cases h2 : k = 2
        · subst h2
          have hs : showV ⟨2, f, n, t⟩ = Lib.itoa n := by unfold showV; rw [if_pos HR.out]; rfl
          have HSH := Lib.hid hs
          clear hs h0 h1
          go_enter Tryz.func109, Tryz.ntmps109
          go_wp2_with (first
            | (go_at_call 136; refine (HRV.out _).mono ?_; rintro e w1 ⟨rfl, hb1⟩; rw [HR.out]; have hc1 := bcell hb1)
            | (go_at_call 134; refine (ref_num n HW.out.1 HW.out.2 _).mono ?_; rintro e w2 ⟨rfl, rfl⟩))
          go_ret
          exact ⟨ret_str HSH.out.symm, (one_new _ _).trans (hb1.mono (by simp))⟩
        · have h3 : k = 3 := by
            have := HR.out
            simp only [rightV, Bool.and_eq_true, decide_eq_true_eq] at this
            omega
          subst h3
          have hs : showV ⟨3, f, n, t⟩ = qs t.data.toList := by unfold showV; rw [if_pos HR.out]; rfl
          have HSH := Lib.hid hs
          clear hs h0 h1 h2
          go_enter Tryz.func109, Tryz.ntmps109
          go_wp2_with (first
            | (go_at_call 136; refine (HRV.out _).mono ?_; rintro e w1 ⟨rfl, hb1⟩; rw [HR.out]; have hc1 := bcell hb1)
            | (go_at_call 137; refine (ref_quoted t (Nat.le_trans HS.out (by decide)) _).mono ?_; rintro e w2 ⟨rfl, hb2⟩))
          go_ret
          exact ⟨ret_str HSH.out.symm, ((one_new _ _).trans (hb1.mono (by simp))).trans (hb2.mono (by have := hb1.size; simp at this; omega))⟩
  · have HR := Lib.hid hr
    clear hr
    have hs : showV ⟨k, f, n, t⟩ = [] := by unfold showV; rw [HR.out]; rfl
    have HSH := Lib.hid hs
    clear hs
    go_enter Tryz.func109, Tryz.ntmps109
    go_wp2_with (first
      | (go_at_call 136; refine (HRV.out _).mono ?_; rintro e w1 ⟨rfl, hb1⟩; rw [HR.out]; have hc1 := bcell hb1))
    go_ret
    exact ⟨ret_str HSH.out.symm, (one_new _ _).trans (hb1.mono (by simp))⟩
end
end Go.Proofs.YtkobfngnnblpeaaGreatDoor
namespace Go.Proofs.YtkobfngnnblpeaaGreatDoor
section
open Go.RowKit

/-- The digit of base 16; -1: none. -/
def rhex (c : UInt8) : Int := if 48 ≤ c.toNat ∧ c.toNat ≤ 57 then (c.toNat : Int) - 48 else if 97 ≤ c.toNat ∧ c.toNat ≤ 102 then (c.toNat : Int) - 87 else -1

set_option maxRecDepth 100000 in
set_option maxHeartbeats 1000000 in
theorem ref_hex (c : UInt8) (w : World) : Calls Tryz.prog 135 #[.int .u8 (c.toNat : Int)] w fun e w' => e = .returned (.int .i64 (rhex c)) ∧ w' = w := by
  have hc : c.toNat < 256 := c.toNat_lt
  have hc1 : (c.toNat : Int) < 256 := by omega
  have w48 : 48 ≤ c.toNat → IntKind.u8.wrap ((c.toNat : Int) - 48) = (c.toNat : Int) - 48 := by intro h; rw [IntKind.wrap_u8]; omega
  have w97 : 97 ≤ c.toNat → IntKind.u8.wrap ((c.toNat : Int) - 97) = (c.toNat : Int) - 97 := by intro h; rw [IntKind.wrap_u8]; omega
  by_cases h1 : 48 ≤ c.toNat
  · by_cases h2 : c.toNat ≤ 57
    · have e : rhex c = (c.toNat : Int) - 48 := if_pos ⟨h1, h2⟩
      have q := w48 h1
      clear w48 w97
      rw [e]
      clear e
      go_enter Tryz.func135, Tryz.ntmps135
      go_wp2
      go_ret
      exact ⟨rfl, rfl⟩
    · by_cases h3 : 97 ≤ c.toNat
      · by_cases h4 : c.toNat ≤ 102
        · have e : rhex c = (c.toNat : Int) - 97 + 10 := by
            unfold rhex
            rw [if_neg (by omega), if_pos ⟨h3, h4⟩]
            omega
          have q := w97 h3
          clear w48 w97
          rw [e]
          clear e
          go_enter Tryz.func135, Tryz.ntmps135
          go_wp2
          go_ret
          exact ⟨rfl, rfl⟩
        · have e : rhex c = -1 := by
            unfold rhex
            rw [if_neg (by omega), if_neg (by omega)]
          clear w48 w97
          rw [e]
          clear e
          go_enter Tryz.func135, Tryz.ntmps135
          go_wp2
          go_ret
          exact ⟨rfl, rfl⟩
      · have e : rhex c = -1 := by
          unfold rhex
          rw [if_neg (by omega), if_neg (by omega)]
        clear w48 w97
        rw [e]
        clear e
        go_enter Tryz.func135, Tryz.ntmps135
        go_wp2
        go_ret
        exact ⟨rfl, rfl⟩
  · have e : rhex c = -1 := by
      unfold rhex
      rw [if_neg (by omega), if_neg (by omega)]
    clear w48 w97
    rw [e]
    clear e
    go_enter Tryz.func135, Tryz.ntmps135
    go_wp2
    go_ret
    exact ⟨rfl, rfl⟩
end
end Go.Proofs.YtkobfngnnblpeaaGreatDoor
