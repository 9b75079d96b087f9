/-
  Number of verdererref01 answers the number whose digits a text is, and that it is none where it is none; it changes nothing.
  Condition: the text is no longer than a thousand bytes.
  unquoted of verdererref01 answers a text at every text, and of a text between its quotes that text; it never panics and changes nothing that was there.
  Condition: the text is no longer than a thousand bytes.
-/
import Derived.Test.YthdjkagodccdbaaM6
namespace Go.Proofs.Ythdjkagodccdbaa
section
open Go.RowKit

/-- What digits are, behind a number. -/
def valD : Nat → List UInt8 → Nat
  | a, [] => a
  | a, c :: l => valD (a * 10 + (c.toNat - 48)) l
def allD (l : List UInt8) : Prop := ∀ c ∈ l, 48 ≤ c.toNat ∧ c.toNat ≤ 57

theorem valD_append : ∀ (l r : List UInt8) (a : Nat), valD a (l ++ r) = valD (valD a l) r
  | [], _, _ => rfl
  | _ :: l, r, _ => valD_append l r _

theorem valD_dec (u : Nat) : valD 0 (Lib.decDigits u) = u := by
  induction u using Nat.strongRecOn with
  | _ u ih =>
    rw [Lib.decDigits]
    by_cases h : u < 10
    · rw [dif_pos h]
      show 0 * 10 + ((UInt8.ofNat (48 + u)).toNat - 48) = u
      rw [digit_nat u h]
      omega
    · rw [dif_neg h, valD_append, ih (u / 10) (by omega)]
      show u / 10 * 10 + ((UInt8.ofNat (48 + u % 10)).toNat - 48) = u
      rw [digit_nat (u % 10) (by omega)]
      omega

theorem allD_dec (u : Nat) : allD (Lib.decDigits u) := by
  induction u using Nat.strongRecOn with
  | _ u ih =>
    rw [Lib.decDigits]
    by_cases h : u < 10
    · rw [dif_pos h]
      intro c hc
      rw [List.mem_singleton.1 hc, digit_nat u h]
      omega
    · rw [dif_neg h]
      intro c hc
      rcases List.mem_append.1 hc with hc | hc
      · exact ih (u / 10) (by omega) c hc
      · rw [List.mem_singleton.1 hc, digit_nat (u % 10) (by omega)]
        omega

theorem valD_lt : ∀ (l : List UInt8) (a : Nat), allD l → valD a l < (a + 1) * 10 ^ l.length
  | [], a, _ => by
    show a < (a + 1) * 1
    omega
  | c :: l, a, h => by
    have h1 := h c (by simp)
    have ih := valD_lt l (a * 10 + (c.toNat - 48)) (fun d hd => h d (by simp [hd]))
    refine Nat.lt_of_lt_of_le ih ?_
    rw [List.length_cons, Nat.pow_succ, Nat.mul_comm (10 ^ l.length) 10, ← Nat.mul_assoc]
    exact Nat.mul_le_mul_right _ (by omega)

theorem dec_len : ∀ (k u : Nat), u < 10 ^ (k + 1) → (Lib.decDigits u).length ≤ k + 1
  | 0, u, h => by
    rw [Lib.decDigits, dif_pos (by omega)]
    simp
  | k + 1, u, h => by
    rw [Lib.decDigits]
    by_cases h1 : u < 10
    · rw [dif_pos h1]
      simp
    · rw [dif_neg h1]
      have := dec_len k (u / 10) (by rw [Nat.pow_succ] at h; omega)
      simp
      omega

/-- What Number answers of a text. -/
def NumIs (s : List UInt8) (n : Int) (ok : Bool) : Prop :=
  (-9223372036854775808 ≤ n ∧ n ≤ 9223372036854775807) ∧ (ok = true → s = Lib.itoa n) ∧ ∀ m : Int, -9223372036854775808 ≤ m → m ≤ 9223372036854775807 → s = Lib.itoa m → ok = true ∧ n = m

/-- The digits of a number: behind a sign or not. -/
theorem itoa_parts (m : Int) (h0 : -9223372036854775808 ≤ m) (h1 : m ≤ 9223372036854775807) :
    ∃ u : Nat, u ≤ 9223372036854775808 ∧ ((m < 0 ∧ (u : Int) = -m ∧ Lib.itoa m = 45 :: Lib.decDigits u) ∨ (0 ≤ m ∧ (u : Int) = m ∧ u < 9223372036854775808 ∧ Lib.itoa m = Lib.decDigits u)) := by
  by_cases hm : m < 0
  · exact ⟨m.natAbs, by omega, .inl ⟨hm, by omega, by unfold Lib.itoa; rw [if_pos hm]⟩⟩
  · exact ⟨m.toNat, by omega, .inr ⟨by omega, by omega, by omega, by unfold Lib.itoa; rw [if_neg hm]⟩⟩

/-- No number: so there is none whose digits these are. -/
theorem num_none (s : List UInt8) (h : ∀ m : Int, -9223372036854775808 ≤ m → m ≤ 9223372036854775807 → s ≠ Lib.itoa m) : NumIs s 0 false :=
  ⟨by omega, (fun h => by cases h), fun m a b e => absurd e (h m a b)⟩

/-- The sign's place. -/
def fromN (s : List UInt8) : Nat := if s.head? = some 45 then 1 else 0

theorem itoa_from (m : Int) (h0 : -9223372036854775808 ≤ m) (h1 : m ≤ 9223372036854775807) :
    ∃ u : Nat, u ≤ 9223372036854775808 ∧ (Lib.itoa m).drop (fromN (Lib.itoa m)) = Lib.decDigits u ∧ ((m < 0 ∧ (u : Int) = -m ∧ fromN (Lib.itoa m) = 1) ∨ (0 ≤ m ∧ (u : Int) = m ∧ u < 9223372036854775808 ∧ fromN (Lib.itoa m) = 0)) := by
  obtain ⟨u, hu, ⟨a, b, e⟩ | ⟨a, b, c, e⟩⟩ := itoa_parts m h0 h1
  · refine ⟨u, hu, ?_, .inl ⟨a, b, ?_⟩⟩
    · rw [e]; rfl
    · rw [e]; rfl
  · obtain ⟨x, r, ex, x0, x1⟩ := dec_head u
    have hf : fromN (Lib.itoa m) = 0 := by
      rw [e, ex]
      unfold fromN
      rw [if_neg]
      intro h
      have hx : x = 45 := by simpa using h
      subst hx
      exact absurd x0 (by decide)
    exact ⟨u, hu, by rw [hf, e]; rfl, .inr ⟨a, b, c, hf⟩⟩

theorem dec_pos (u : Nat) : 1 ≤ (Lib.decDigits u).length := by
  obtain ⟨c, r, e, _, _⟩ := dec_head u
  rw [e]
  simp

/-- Too short, or too long. -/
theorem num_short (s : List UInt8) (h : s.length = fromN s ∨ 19 < s.length - fromN s) : NumIs s 0 false := by
  refine num_none s (fun m h0 h1 e => ?_)
  obtain ⟨u, hu, hd, _⟩ := itoa_from m h0 h1
  rw [← e] at hd
  have hl := congrArg List.length hd
  rw [List.length_drop] at hl
  have := dec_pos u
  have := dec_len 18 u (by omega)
  omega

/-- A byte that is no digit. -/
theorem num_bad (s : List UInt8) (c : UInt8) (hc : c ∈ s.drop (fromN s)) (hb : c.toNat < 48 ∨ 57 < c.toNat) : NumIs s 0 false := by
  refine num_none s (fun m h0 h1 e => ?_)
  obtain ⟨u, hu, hd, _⟩ := itoa_from m h0 h1
  rw [← e] at hd
  rw [hd] at hc
  have := allD_dec u c hc
  omega

theorem wrap_neg (u : Nat) (h : u ≤ 9223372036854775808) : IntKind.i64.wrap (IntKind.u64.wrap (-(u : Int))) = -(u : Int) := by
  unfold IntKind.wrap
  simp [IntKind.bits, IntKind.signed]
  omega
theorem wrap_wide (z : Int) : -9223372036854775808 ≤ IntKind.i64.wrap z ∧ IntKind.i64.wrap z ≤ 9223372036854775807 := by
  unfold IntKind.wrap
  simp [IntKind.bits, IntKind.signed]
  omega

theorem wrap_64 (z : Int) : IntKind.i64.wrap z = wrap64 z := IntWalk.i64_left z
/-- All are digits: what they are, and whether it shows so. -/
theorem num_all (s : List UInt8) (n : Int) (hn : n = if fromN s = 1 then IntKind.i64.wrap (IntKind.u64.wrap (-((valD 0 (s.drop (fromN s)) : Nat) : Int))) else IntKind.i64.wrap ((valD 0 (s.drop (fromN s)) : Nat) : Int)) : NumIs s n (Lib.itoa n == s) := by
  have hw : -9223372036854775808 ≤ n ∧ n ≤ 9223372036854775807 := by
    rw [hn]
    split
    · exact wrap_wide _
    · exact wrap_wide _
  refine ⟨hw, fun h => ?_, fun m h0 h1 e => ?_⟩
  · exact (by simpa using h : Lib.itoa n = s).symm
  · obtain ⟨u, hu, hd, hc⟩ := itoa_from m h0 h1
    rw [← e] at hd hc
    rw [hd, valD_dec] at hn
    have hnm : n = m := by
      rw [hn]
      rcases hc with ⟨a, b, hf⟩ | ⟨a, b, c, hf⟩
      · rw [if_pos hf, wrap_neg u hu]
        omega
      · rw [if_neg (by omega)]
        unfold IntKind.wrap
        simp [IntKind.bits, IntKind.signed]
        omega
    exact ⟨by rw [hnm, ← e]; simp, hnm⟩

theorem take_drop_next (s : ByteArray) (f i : Nat) (hf : f ≤ i) (h : i < s.size) : (s.data.toList.take (i + 1)).drop f = (s.data.toList.take i).drop f ++ [s[i]] := by
  have h' : i < s.data.toList.length := h
  rw [List.take_add_one, List.drop_append_of_le_length (by rw [List.length_take]; omega), List.getElem?_eq_getElem h']
  rfl
theorem take_next (s : ByteArray) (i : Nat) (h : i < s.size) : s.data.toList.take (i + 1) = s.data.toList.take i ++ [s[i]] := by
  have h' : i < s.data.toList.length := h
  rw [List.take_add_one, List.getElem?_eq_getElem h']
  rfl
theorem mem_drop_at (s : ByteArray) (f i : Nat) (hf : f ≤ i) (h : i < s.size) : s[i] ∈ s.data.toList.drop f := by
  have h' : i < s.data.toList.length := h
  refine List.mem_iff_getElem?.2 ⟨i - f, ?_⟩
  rw [List.getElem?_drop, show f + (i - f) = i by omega, List.getElem?_eq_getElem h']
  rfl

/-- What Number answers, and the world stays as it was. -/
def NumPost (s : ByteArray) (w : World) (e : Ending) (w' : World) : Prop := ∃ (n : Int) (ok : Bool), NumIs s.data.toList n ok ∧ e = .returned (.tuple #[.int .i64 n, .bool ok]) ∧ w' = w
theorem drop_take_none (l : List UInt8) (f : Nat) : (l.take f).drop f = [] := List.drop_of_length_le (by rw [List.length_take]; omega)

set_option maxRecDepth 100000 in
set_option maxHeartbeats 2000000 in
theorem ref_number_neg (s : ByteArray) (hs : s.size ≤ 1000) (h0 : 0 < s.size) (hc : s[0].toNat = 45) (hfr : fromN s.data.toList = 1) (w : World) : Calls Try.prog 74 #[.string s] w (NumPost s w) := by
  have hl : s.data.toList.length = s.size := rfl
  have HL := Lib.hid hl
  have HF := Lib.hid hfr
  clear hl hfr
  have b0 : ((s[0].toNat : Int) == 45) = true := by simp; omega
  clear hc
  by_cases hsz : s.size = 1 ∨ 1 + 19 < s.size
  · have HN := Lib.hid (num_short s.data.toList (by rw [HF.out, HL.out]; omega))
    by_cases h1 : s.size = 1
    · have e1 : ((s.size : Int) == 1) = true := by simp; omega
      clear hsz
      go_enter Try.func74, Try.ntmps74
      go_wp2
      go_ret2
      exact ⟨0, false, HN.out, rfl, rfl⟩
    · have e1 : ((s.size : Int) == 1) = false := by rw [beq_eq_false_iff_ne]; omega
      have e2 : 1 + 19 < s.size := by omega
      clear hsz
      go_enter Try.func74, Try.ntmps74
      go_wp2
      go_ret2
      exact ⟨0, false, HN.out, rfl, rfl⟩
  · have e1 : ((s.size : Int) == 1) = false := by rw [beq_eq_false_iff_ne]; omega
    have e2 : 1 < s.size := by omega
    have e3 : s.size ≤ 1 + 19 := by omega
    clear hsz
    go_enter Try.func74, Try.ntmps74
    go_wp2
    go_loopw [4, 6] (fun u i wr => ∃ (k m : Nat), 1 ≤ k ∧ k ≤ s.size ∧ i = .int .i64 k ∧ u = .int .u64 (m : Int) ∧ m = valD 0 ((s.data.toList.take k).drop 1) ∧ allD ((s.data.toList.take k).drop 1) ∧ wr = w) (fun _ i _ => s.size - (intOf i).toNat)
    case atStart => exact ⟨1, 0, Nat.le_refl _, by omega, rfl, rfl, by rw [drop_take_none]; rfl, by rw [drop_take_none]; intro c hc; simp at hc, rfl⟩
    case round =>
      obtain ⟨k, m, hk0, hk, rfl, rfl, hm, ha, rfl⟩ := hrel
      have HM := Lib.hid hm
      have HA := Lib.hid ha
      clear hm ha
      by_cases h1 : k < s.size
      · have hmb : m < 1000000000000000000 := by
          have h3 := valD_lt ((s.data.toList.take k).drop 1) 0 HA.out
          rw [← HM.out] at h3
          have h4 : ((s.data.toList.take k).drop 1).length ≤ 18 := by rw [List.length_drop, List.length_take]; omega
          have h5 : (0 + 1) * 10 ^ ((s.data.toList.take k).drop 1).length ≤ 1000000000000000000 := Nat.le_trans (Nat.mul_le_mul_left _ (Nat.pow_le_pow_right (by decide) h4)) (by decide)
          exact Nat.lt_of_lt_of_le h3 h5
        have hc256 : s[k].toNat < 256 := s[k].toNat_lt
        have hc1 : (s[k].toNat : Int) < 256 := by omega
        have HT := Lib.hid (take_drop_next s 1 k hk0 h1)
        by_cases hd : 48 ≤ s[k].toNat ∧ s[k].toNat ≤ 57
        · obtain ⟨d0, d1⟩ := hd
          have q0 : 48 ≤ (s[k].toNat : Int) := by omega
          have q1 : (s[k].toNat : Int) ≤ 57 := by omega
          have w1 : IntKind.u64.wrap ((m : Int) * 10) = (m : Int) * 10 := by rw [IntKind.wrap_u64]; omega
          have w2 : IntKind.u8.wrap ((s[k].toNat : Int) - 48) = (s[k].toNat : Int) - 48 := by rw [IntKind.wrap_u8]; omega
          have w3 : IntKind.u64.wrap ((s[k].toNat : Int) - 48) = (s[k].toNat : Int) - 48 := by rw [IntKind.wrap_u64]; omega
          have w4 : IntKind.u64.wrap ((m : Int) * 10 + ((s[k].toNat : Int) - 48)) = (m : Int) * 10 + ((s[k].toNat : Int) - 48) := by rw [IntKind.wrap_u64]; omega
          go_wp2
          refine ⟨⟨k + 1, m * 10 + (s[k].toNat - 48), by omega, by omega, by go_num, ?_, ?_, ?_, trivial⟩, by simp [intOf]; omega⟩
          · congr 1; omega
          · rw [HT.out, valD_append, ← HM.out]; rfl
          · rw [HT.out]
            intro c hc
            rcases List.mem_append.1 hc with hc | hc
            · exact HA.out c hc
            · rw [List.mem_singleton.1 hc]
              exact ⟨d0, d1⟩
        · have HN := Lib.hid (num_bad s.data.toList s[k] (by rw [HF.out]; exact mem_drop_at s 1 k hk0 h1) (by omega))
          by_cases h2 : s[k].toNat < 48
          · have q0 : (s[k].toNat : Int) < 48 := by omega
            clear hd
            go_wp2
            go_ret2
            exact ⟨0, false, HN.out, rfl, rfl⟩
          · have q0 : 48 ≤ (s[k].toNat : Int) := by omega
            have q1 : 57 < (s[k].toNat : Int) := by omega
            clear hd
            go_wp2
            go_ret2
            exact ⟨0, false, HN.out, rfl, rfl⟩
      · obtain rfl : k = s.size := by omega
        have hmm : m = valD 0 (s.data.toList.drop 1) := by
          have := HM.out
          rwa [List.take_of_length_le (by rw [HL.out]; exact Nat.le_refl _)] at this
        obtain ⟨n, hn⟩ : ∃ n, n = wrap64 (IntKind.u64.wrap (-(m : Int))) := ⟨_, rfl⟩
        have HN := Lib.hid (num_all s.data.toList n (by rw [HF.out, ← hmm, if_pos rfl, wrap_64]; exact hn))
        have hb : -9223372036854775808 ≤ n ∧ n ≤ 9223372036854775807 := by rw [hn, ← wrap_64]; exact wrap_wide _
        have HR := Lib.hid (fun W : World => ref_num n hb.1 hb.2 W)
        have htl : s.toList = s.data.toList := ByteArray.toList_eq s
        have HTL := Lib.hid htl
        clear htl hmm hb
        go_wp2_with fail
        rw [← hn]
        refine (HR.out _).mono ?_
        rintro e w1 ⟨rfl, rfl⟩
        go_wp2
        go_ret2
        subst hn
        refine ⟨_, _, HN.out, ?_, rfl⟩
        rw [← HTL.out]
        exact rfl

set_option maxRecDepth 100000 in
set_option maxHeartbeats 2000000 in
theorem ref_number_pos (s : ByteArray) (hs : s.size ≤ 1000) (h0 : 0 < s.size) (hc : ¬ s[0].toNat = 45) (hfr : fromN s.data.toList = 0) (w : World) : Calls Try.prog 74 #[.string s] w (NumPost s w) := by
  have hl : s.data.toList.length = s.size := rfl
  have HL := Lib.hid hl
  have HF := Lib.hid hfr
  clear hl hfr
  have b0 : ((s[0].toNat : Int) == 45) = false := by rw [beq_eq_false_iff_ne]; omega
  clear hc
  by_cases hsz : s.size = 0 ∨ 0 + 19 < s.size
  · have HN := Lib.hid (num_short s.data.toList (by rw [HF.out, HL.out]; omega))
    by_cases h1 : s.size = 0
    · have e1 : ((s.size : Int) == 0) = true := by simp; omega
      clear hsz
      go_enter Try.func74, Try.ntmps74
      go_wp2
      go_ret2
      exact ⟨0, false, HN.out, rfl, rfl⟩
    · have e1 : ((s.size : Int) == 0) = false := by rw [beq_eq_false_iff_ne]; omega
      have e2 : 0 + 19 < s.size := by omega
      clear hsz
      go_enter Try.func74, Try.ntmps74
      go_wp2
      go_ret2
      exact ⟨0, false, HN.out, rfl, rfl⟩
  · have e1 : ((s.size : Int) == 0) = false := by rw [beq_eq_false_iff_ne]; omega
    have e2 : 0 < s.size := by omega
    have e3 : s.size ≤ 0 + 19 := by omega
    clear hsz
    go_enter Try.func74, Try.ntmps74
    go_wp2
    go_loopw [4, 6] (fun u i wr => ∃ (k m : Nat), 0 ≤ k ∧ k ≤ s.size ∧ i = .int .i64 k ∧ u = .int .u64 (m : Int) ∧ m = valD 0 (s.data.toList.take k) ∧ allD (s.data.toList.take k) ∧ wr = w) (fun _ i _ => s.size - (intOf i).toNat)
    case atStart => exact ⟨0, 0, Nat.le_refl _, by omega, rfl, rfl, by rw [List.take_zero]; rfl, by rw [List.take_zero]; intro c hc; simp at hc, rfl⟩
    case round =>
      obtain ⟨k, m, hk0, hk, rfl, rfl, hm, ha, rfl⟩ := hrel
      have HM := Lib.hid hm
      have HA := Lib.hid ha
      clear hm ha
      by_cases h1 : k < s.size
      · have hmb : m < 1000000000000000000 := by
          have h3 := valD_lt (s.data.toList.take k) 0 HA.out
          rw [← HM.out] at h3
          have h4 : (s.data.toList.take k).length ≤ 18 := by rw [List.length_take]; omega
          have h5 : (0 + 1) * 10 ^ (s.data.toList.take k).length ≤ 1000000000000000000 := Nat.le_trans (Nat.mul_le_mul_left _ (Nat.pow_le_pow_right (by decide) h4)) (by decide)
          exact Nat.lt_of_lt_of_le h3 h5
        have hc256 : s[k].toNat < 256 := s[k].toNat_lt
        have hc1 : (s[k].toNat : Int) < 256 := by omega
        have HT := Lib.hid (take_next s k h1)
        by_cases hd : 48 ≤ s[k].toNat ∧ s[k].toNat ≤ 57
        · obtain ⟨d0, d1⟩ := hd
          have q0 : 48 ≤ (s[k].toNat : Int) := by omega
          have q1 : (s[k].toNat : Int) ≤ 57 := by omega
          have w1 : IntKind.u64.wrap ((m : Int) * 10) = (m : Int) * 10 := by rw [IntKind.wrap_u64]; omega
          have w2 : IntKind.u8.wrap ((s[k].toNat : Int) - 48) = (s[k].toNat : Int) - 48 := by rw [IntKind.wrap_u8]; omega
          have w3 : IntKind.u64.wrap ((s[k].toNat : Int) - 48) = (s[k].toNat : Int) - 48 := by rw [IntKind.wrap_u64]; omega
          have w4 : IntKind.u64.wrap ((m : Int) * 10 + ((s[k].toNat : Int) - 48)) = (m : Int) * 10 + ((s[k].toNat : Int) - 48) := by rw [IntKind.wrap_u64]; omega
          go_wp2
          refine ⟨⟨k + 1, m * 10 + (s[k].toNat - 48), by omega, by omega, by go_num, ?_, ?_, ?_, trivial⟩, by simp [intOf]; omega⟩
          · congr 1; omega
          · rw [HT.out, valD_append, ← HM.out]; rfl
          · rw [HT.out]
            intro c hc
            rcases List.mem_append.1 hc with hc | hc
            · exact HA.out c hc
            · rw [List.mem_singleton.1 hc]
              exact ⟨d0, d1⟩
        · have HN := Lib.hid (num_bad s.data.toList s[k] (by rw [HF.out]; exact mem_drop_at s 0 k (Nat.zero_le _) h1) (by omega))
          by_cases h2 : s[k].toNat < 48
          · have q0 : (s[k].toNat : Int) < 48 := by omega
            clear hd
            go_wp2
            go_ret2
            exact ⟨0, false, HN.out, rfl, rfl⟩
          · have q0 : 48 ≤ (s[k].toNat : Int) := by omega
            have q1 : 57 < (s[k].toNat : Int) := by omega
            clear hd
            go_wp2
            go_ret2
            exact ⟨0, false, HN.out, rfl, rfl⟩
      · obtain rfl : k = s.size := by omega
        have hmm : m = valD 0 s.data.toList := by
          have := HM.out
          rwa [List.take_of_length_le (by rw [HL.out]; exact Nat.le_refl _)] at this
        obtain ⟨n, hn⟩ : ∃ n, n = wrap64 (m : Int) := ⟨_, rfl⟩
        have HN := Lib.hid (num_all s.data.toList n (by rw [HF.out, List.drop_zero, ← hmm, if_neg (by decide), wrap_64]; exact hn))
        have hb : -9223372036854775808 ≤ n ∧ n ≤ 9223372036854775807 := by rw [hn, ← wrap_64]; exact wrap_wide _
        have HR := Lib.hid (fun W : World => ref_num n hb.1 hb.2 W)
        have htl : s.toList = s.data.toList := ByteArray.toList_eq s
        have HTL := Lib.hid htl
        clear htl hmm hb
        go_wp2_with fail
        rw [← hn]
        refine (HR.out _).mono ?_
        rintro e w1 ⟨rfl, rfl⟩
        go_wp2
        go_ret2
        subst hn
        refine ⟨_, _, HN.out, ?_, rfl⟩
        rw [← HTL.out]
        exact rfl

set_option maxHeartbeats 1000000 in
theorem ref_number (s : ByteArray) (hs : s.size ≤ 1000) (w : World) : Calls Try.prog 74 #[.string s] w (NumPost s w) := by
  have hl : s.data.toList.length = s.size := rfl
  by_cases h0 : 0 < s.size
  · have hh : s.data.toList.head? = some s[0] := by
      rw [List.head?_eq_getElem?, List.getElem?_eq_getElem (by exact h0)]
      rfl
    by_cases hc : s[0].toNat = 45
    · refine ref_number_neg s hs h0 hc ?_ w
      unfold fromN
      rw [hh, if_pos]
      congr 1
      exact UInt8.toNat_inj.1 hc
    · refine ref_number_pos s hs h0 hc ?_ w
      unfold fromN
      rw [hh, if_neg]
      intro h
      injection h with h
      exact hc (by rw [h]; rfl)
  · have hz : s.data.toList = [] := List.eq_nil_of_length_eq_zero (by omega)
    have HN := Lib.hid (num_short s.data.toList (by rw [hz]; exact .inl rfl))
    have e0 : s.size = 0 := by omega
    clear hz hl h0
    go_enter Try.func74, Try.ntmps74
    go_wp2
    go_ret2
    exact ⟨0, false, HN.out, rfl, rfl⟩
end
end Go.Proofs.Ythdjkagodccdbaa
namespace Go.Proofs.Ythdjkagodccdbaa
section
open Go.RowKit

/-- The byte that two digits of base 16 are, as the document reckons it. -/
def hb (a b : UInt8) : UInt8 := UInt8.ofNat (IntKind.u8.wrap (16 * rhex a + rhex b)).toNat
theorem hb_val (a b : UInt8) : ((hb a b).toNat : Int) = IntKind.u8.wrap (16 * rhex a + rhex b) := by
  have h : 0 ≤ IntKind.u8.wrap (16 * rhex a + rhex b) ∧ IntKind.u8.wrap (16 * rhex a + rhex b) < 256 := by
    rw [IntKind.wrap_u8]
    omega
  unfold hb
  have e : (UInt8.ofNat (IntKind.u8.wrap (16 * rhex a + rhex b)).toNat).toNat = (IntKind.u8.wrap (16 * rhex a + rhex b)).toNat := by
    rw [UInt8.toNat_ofNat_of_lt']
    show _ < 256
    omega
  rw [e]
  omega
theorem hb_cell (a b : UInt8) : (#[Value.int .u8 (IntKind.u8.wrap (16 * rhex a + rhex b))] : Array Value).toList = [hb a b].map bv := by
  rw [← hb_val]
  rfl
theorem step_hex {ops : Array Oper} {o : Oper} {a : Act} {K : Act → World → Prop} {Q : Exit → Act → World → Prop} {E : Prop} (w : World) (hgd : o.guard = none) (x : Operand)
    (ho : o.op = .call { callee := .value (.func 86), args := #[x], argTypes := #[5] }) (c : UInt8) (hx : a.eval x = .int .u8 (c.toNat : Int)) (h : K (a.put o.dst (.int .i64 (rhex c))) w) :
    if Region.wanted o (yielded ops a.tmps) = true then Oper.wp Try.prog o a w K Q else E := by
  have hw : Region.wanted o (yielded ops a.tmps) = true := by simp [Region.wanted, hgd]
  rw [if_pos hw]
  have e : (execOp a.eval o).run Try.prog w = .ok (.enter 86 #[a.eval x]) w := by simp [execOp, ho, go_sem]
  unfold Oper.wp
  rw [e, Oper.upon_enter, hx]
  refine (ref_hex c w).mono ?_
  rintro e w' ⟨rfl, rfl⟩
  exact h
theorem rhex_bound (c : UInt8) : -1 ≤ rhex c ∧ rhex c ≤ 15 := by
  unfold rhex
  split
  · omega
  · split <;> omega
theorem hb_back (c : UInt8) : hb (hexd (c.toNat / 16)) (hexd (c.toNat % 16)) = c := by
  have h : ∀ n : Fin 256, hb (hexd (n.val / 16)) (hexd (n.val % 16)) = UInt8.ofNat n.val := by decide +kernel
  have h1 := h ⟨c.toNat, c.toNat_lt⟩
  simpa using h1

/-- What unquoted answers of s from place i on, in f rounds. -/
def ruqF (s : List UInt8) : Nat → Nat → List UInt8
  | 0, _ => []
  | f + 1, i =>
    if i + 1 < s.length then
      (if (s.getD i 0).toNat = 92 then
        (if (s.getD (i + 1) 0).toNat = 120 then (if i + 4 < s.length then hb (s.getD (i + 2) 0) (s.getD (i + 3) 0) :: ruqF s f (i + 4) else []) else s.getD (i + 1) 0 :: ruqF s f (i + 2))
      else s.getD i 0 :: ruqF s f (i + 1))
    else []

theorem ruq_hex (s : ByteArray) (g k : Nat) (h3 : k + 4 < s.size) (h2 : s[k].toNat = 92) (h4 : s[k + 1].toNat = 120) : ruqF s.data.toList (g + 1) k = hb s[k + 2] s[k + 3] :: ruqF s.data.toList g (k + 4) := by
  have hl : s.data.toList.length = s.size := rfl
  rw [ruqF, if_pos (by omega), getD_at s k (by omega), getD_at s (k + 1) (by omega), getD_at s (k + 2) (by omega), getD_at s (k + 3) (by omega), if_pos h2, if_pos h4, if_pos (by omega)]
theorem ruq_cut (s : ByteArray) (g k : Nat) (h1 : k + 1 < s.size) (h3 : ¬ k + 4 < s.size) (h2 : s[k].toNat = 92) (h4 : s[k + 1].toNat = 120) : ruqF s.data.toList (g + 1) k = [] := by
  have hl : s.data.toList.length = s.size := rfl
  rw [ruqF, if_pos (by omega), getD_at s k (by omega), getD_at s (k + 1) (by omega), if_pos h2, if_pos h4, if_neg (by omega)]
theorem ruq_esc (s : ByteArray) (g k : Nat) (h1 : k + 1 < s.size) (h2 : s[k].toNat = 92) (h4 : ¬ s[k + 1].toNat = 120) : ruqF s.data.toList (g + 1) k = s[k + 1] :: ruqF s.data.toList g (k + 2) := by
  have hl : s.data.toList.length = s.size := rfl
  rw [ruqF, if_pos (by omega), getD_at s k (by omega), getD_at s (k + 1) (by omega), if_pos h2, if_neg h4]
theorem ruq_one (s : ByteArray) (g k : Nat) (h1 : k + 1 < s.size) (h2 : ¬ s[k].toNat = 92) : ruqF s.data.toList (g + 1) k = s[k] :: ruqF s.data.toList g (k + 1) := by
  have hl : s.data.toList.length = s.size := rfl
  rw [ruqF, if_pos (by omega), getD_at s k (by omega), if_neg h2]
theorem ruq_end (l : List UInt8) (f k : Nat) (h : ¬ k + 1 < l.length) : ruqF l f k = [] := by
  cases f with
  | zero => rfl
  | succ f => rw [ruqF, if_neg h]

/-- What unquoted answers of a text between its quotes. -/
theorem ruq_flat : ∀ (t pre : List UInt8) (f : Nat), t.length ≤ f → ruqF (pre ++ (t.flatMap qb ++ [34])) f pre.length = t
  | [], pre, f, _ => ruq_end _ _ _ (by simp)
  | c :: t, pre, 0, h => by simp at h
  | c :: t, pre, f + 1, h => by
    have hf : t.length ≤ f := by simpa using h
    have key : ∀ (q : List UInt8), ruqF (pre ++ (q ++ (t.flatMap qb ++ [34]))) f (pre.length + q.length) = t := by
      intro q
      have := ruq_flat t (pre ++ q) f hf
      simpa using this
    rw [List.flatMap_cons, List.append_assoc, ruqF]
    have g0 := getD_right pre (qb c ++ (t.flatMap qb ++ [34])) 0
    have g1 := getD_right pre (qb c ++ (t.flatMap qb ++ [34])) 1
    have g2 := getD_right pre (qb c ++ (t.flatMap qb ++ [34])) 2
    have g3 := getD_right pre (qb c ++ (t.flatMap qb ++ [34])) 3
    have hk := key (qb c)
    clear key
    rw [Nat.add_zero] at g0
    rw [g0, g1, g2, g3]
    clear g0 g1 g2 g3
    have hl : (pre ++ (qb c ++ (t.flatMap qb ++ [34]))).length = pre.length + (qb c).length + (t.flatMap qb).length + 1 := by simp only [List.length_append, List.length_cons, List.length_nil]; omega
    unfold qb at hk hl ⊢
    by_cases h1 : c.toNat = 34 ∨ c.toNat = 92
    · simp only [if_pos h1] at hk hl ⊢
      have h120 : ¬ c.toNat = 120 := by omega
      simp only [List.length_cons, List.length_nil] at hk hl
      rw [if_pos (by omega)]
      simp only [List.cons_append, List.nil_append, List.getD_cons_zero, List.getD_cons_succ] at hk ⊢
      rw [if_pos (by rfl), if_neg h120]
      exact congrArg _ hk
    · by_cases h2 : c.toNat < 32 ∨ 126 < c.toNat
      · simp only [if_neg h1, if_pos h2] at hk hl ⊢
        simp only [List.length_cons, List.length_nil] at hk hl
        rw [if_pos (by omega)]
        simp only [List.cons_append, List.nil_append, List.getD_cons_zero, List.getD_cons_succ] at hk ⊢
        rw [if_pos (by rfl), if_pos (by rfl), if_pos (by simp only [List.length_append, List.length_cons] at hl ⊢; omega), hb_back]
        exact congrArg _ hk
      · simp only [if_neg h1, if_neg h2] at hk hl ⊢
        simp only [List.length_cons, List.length_nil] at hk hl
        rw [if_pos (by omega)]
        simp only [List.cons_append, List.nil_append, List.getD_cons_zero, List.getD_cons_succ] at hk ⊢
        rw [if_neg (fun hx => h1 (.inr hx))]
        exact congrArg _ hk

theorem ruq_qs (t : List UInt8) (f : Nat) (h : t.length ≤ f) : ruqF (qs t) f 1 = t := by
  have := ruq_flat t [34] f h
  unfold qs
  simpa using this

set_option maxRecDepth 100000 in
set_option maxHeartbeats 2000000 in
theorem ref_unquoted (s : ByteArray) (w : World) (hs : s.size ≤ 1000) : Calls Try.prog 75 #[.string s] w fun e w' => e = .returned (.string ⟨(ruqF s.data.toList s.size 1).toArray⟩) ∧ Below w.heap.size w w' := by
  have hsl : s.data.toList.length = s.size := rfl
  have HL := Lib.hid hsl
  clear hsl
  obtain ⟨R, hR⟩ : ∃ R, R = ruqF s.data.toList s.size 1 := ⟨_, rfl⟩
  rw [← hR]
  have HR := Lib.hid hR
  clear hR
  go_enter Try.func75, Try.ntmps75
  go_wp2
  go_loopw [3, 4] (fun v i wr => ∃ (k f : Nat) (bs : List UInt8), 1 ≤ k ∧ k ≤ s.size + 4 ∧ s.size ≤ f + k ∧ bs.length < k ∧ i = .int .i64 k ∧ OwnB wr w.heap.size v bs ∧ R = bs ++ ruqF s.data.toList f k ∧ Below w.heap.size w wr) (fun _ i _ => s.size + 4 - (intOf i).toNat)
  case atStart => exact ⟨1, s.size, [], by omega, by omega, by omega, by simp, rfl, World.ownsRow_nil _ _ _ _, by rw [HR.out]; rfl, Below.refl _ _⟩
  case round =>
    obtain ⟨k, f, bs, hk1, hk4, hf, hbl, rfl, hown, hr, hb⟩ := hrel
    have HO := Lib.hid hown
    have HB := Lib.hid hb
    have HRR := Lib.hid hr
    have hsz : w.heap.size ≤ wr.heap.size := hb.size
    clear hown hb hr
    by_cases h1 : k + 1 < s.size
    · obtain ⟨g, rfl⟩ : ∃ g, f = g + 1 := ⟨f - 1, by omega⟩
      by_cases h2 : s[k].toNat = 92
      · have b2 : ((s[k].toNat : Int) == 92) = true := by rw [h2]; rfl
        by_cases h4 : s[k + 1].toNat = 120
        · have b4 : ((s[k + 1].toNat : Int) == 120) = true := by rw [h4]; rfl
          by_cases h3 : k + 4 < s.size
          · have HE := Lib.hid (ruq_hex s g k h3 h2 h4)
            have bnd1 := rhex_bound s[k + 2]
            have bnd2 := rhex_bound s[k + 3]
            have v1 : IntKind.i64.wrap (16 * rhex s[k + 2]) = 16 * rhex s[k + 2] := IntWalk.i64_in _ (by omega)
            have v2 : IntKind.i64.wrap (16 * rhex s[k + 2] + rhex s[k + 3]) = 16 * rhex s[k + 2] + rhex s[k + 3] := IntWalk.i64_in _ (by omega)
            clear h2 h4
            go_wp2
            have q1 : IntKind.i64.wrap ((k : Int) + 2) = (k : Int) + 2 := IntWalk.i64_in _ (by omega)
            have q2 : IntKind.i64.wrap ((k : Int) + 3) = (k : Int) + 3 := IntWalk.i64_in _ (by omega)
            have q3 : (0 : Int) ≤ (k : Int) + 2 := by omega
            have q4 : (0 : Int) ≤ (k : Int) + 3 := by omega
            have q5 : ((k : Int) + 2).toNat = k + 2 := by omega
            have q6 : ((k : Int) + 3).toNat = k + 3 := by omega
            have q7 : (k : Int) + 2 < (s.size : Int) := by omega
            have q8 : (k : Int) + 3 < (s.size : Int) := by omega
            go_region_law (first
              | (refine step_hex _ (by rfl) _ (by rfl) _ (by rfl) ?_)
              | (refine step_append_B _ (by rfl) _ _ (by rfl) w.heap.size _ bs [hb s[k + 2] s[k + 3]] (by rfl) (by exact HO.out) _ (by exact hb_cell _ _) _ _ _ (by rfl) (by simp) (by rfl) (by simp; omega) (by exact hsz) ?_; intro v1 w1 ho1 hb1))
            all_goals
              go_wp2
              go_roundw
              case rel =>
                refine ⟨k + 4, g, bs ++ [hb s[k + 2] s[k + 3]], by omega, by omega, by omega, by simp; omega, by go_num, ho1, ?_, HB.out.trans hb1⟩
                rw [HRR.out, HE.out, snoc]
              case measure => simp [intOf]; omega
          · have he : R = bs := by rw [HRR.out, ruq_cut s g k h1 h3 h2 h4, List.append_nil]
            obtain ⟨A, n, c, rfl, hcv⟩ := conv_B HO.out
            rw [← he] at hcv
            have q2 : IntKind.i64.wrap ((k : Int) + 3) = (k : Int) + 3 := IntWalk.i64_in _ (by omega)
            have HE := Lib.hid he
            clear he h2 h4
            go_wp2
            go_ret
            exact ⟨rfl, HB.out⟩
        · have b4 : ((s[k + 1].toNat : Int) == 120) = false := by
            rw [beq_eq_false_iff_ne]
            omega
          have HE := Lib.hid (ruq_esc s g k h1 h2 h4)
          clear h2 h4
          go_wp2_with (at_builtin; refine wp_append_B _ rfl (.tmp 27) (.tmp 32) rfl w.heap.size _ bs [s[k + 1]] rfl (by exact HO.out) _ (by rfl) _ _ _ rfl rfl rfl (by simp; omega) (by exact hsz) ?_; intro v1 w1 ho1 hb1)
          go_roundw
          case rel =>
            refine ⟨k + 2, g, bs ++ [s[k + 1]], by omega, by omega, by omega, by simp; omega, by go_num, ho1, ?_, HB.out.trans hb1⟩
            rw [HRR.out, HE.out, snoc]
          case measure => simp [intOf]; omega
      · have b2 : ((s[k].toNat : Int) == 92) = false := by
          rw [beq_eq_false_iff_ne]
          omega
        have HE := Lib.hid (ruq_one s g k h1 h2)
        clear h2
        go_wp2_with (at_builtin; refine wp_append_B _ rfl (.tmp 16) (.tmp 20) rfl w.heap.size _ bs [s[k]] rfl (by exact HO.out) _ (by rfl) _ _ _ rfl rfl rfl (by simp; omega) (by exact hsz) ?_; intro v1 w1 ho1 hb1)
        go_roundw
        case rel =>
          refine ⟨k + 1, g, bs ++ [s[k]], by omega, by omega, by omega, by simp; omega, by go_num, ho1, ?_, HB.out.trans hb1⟩
          rw [HRR.out, HE.out, snoc]
        case measure => simp [intOf]; omega
    · have he : R = bs := by rw [HRR.out, ruq_end _ _ _ (by rw [HL.out]; exact h1), List.append_nil]
      obtain ⟨A, n, c, rfl, hcv⟩ := conv_B HO.out
      rw [← he] at hcv
      have HE := Lib.hid he
      clear he
      go_wp2
      go_ret
      exact ⟨rfl, HB.out⟩
end
end Go.Proofs.Ythdjkagodccdbaa
