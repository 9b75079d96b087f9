/-
  The document's own tokens: a word, a number, a text, a sign: how many bytes each has; nothing that was there is changed.
  Condition: a text of at most 300 bytes.
-/
import Derived.Test.YtkobfngnnblpeaaGreatDoorM15
namespace Go.Proofs.YtkobfngnnblpeaaGreatDoor
open Go.RowKit

set_option maxHeartbeats 1000000 in
theorem rf_letter (c : UInt8) (w : World) : Calls Tryz.prog 73 #[.int .u8 (c.toNat : Int)] w fun e w' => e = .returned (.bool (ltr c)) ∧ w = w' := by
  have hc := c.toNat_lt
  by_cases h1 : 97 ≤ c.toNat
  · by_cases h2 : c.toNat ≤ 122
    · have hr : ltr c = true := by unfold ltr; simp [h1, h2]
      rw [hr]
      go_enter Tryz.func73, Tryz.ntmps73
      go_wp2
      go_ret
      refine ⟨ret_bool ?_, rfl⟩
      simp
      omega
    · have hr : ltr c = false := by unfold ltr; simp [h2]
      rw [hr]
      go_enter Tryz.func73, Tryz.ntmps73
      go_wp2
      go_ret
      refine ⟨ret_bool ?_, rfl⟩
      simp
      omega
  · have hr : ltr c = false := by unfold ltr; simp [h1]
    rw [hr]
    go_enter Tryz.func73, Tryz.ntmps73
    go_wp2
    go_ret
    exact ⟨by simp, rfl⟩
set_option maxHeartbeats 1000000 in
theorem rf_digit (c : UInt8) (w : World) : Calls Tryz.prog 76 #[.int .u8 (c.toNat : Int)] w fun e w' => e = .returned (.bool (dgt c)) ∧ w = w' := by
  have hc := c.toNat_lt
  by_cases h1 : 48 ≤ c.toNat
  · by_cases h2 : c.toNat ≤ 57
    · have hr : dgt c = true := by unfold dgt; simp [h1, h2]
      rw [hr]
      go_enter Tryz.func76, Tryz.ntmps76
      go_wp2
      go_ret
      refine ⟨ret_bool ?_, rfl⟩
      simp
      omega
    · have hr : dgt c = false := by unfold dgt; simp [h2]
      rw [hr]
      go_enter Tryz.func76, Tryz.ntmps76
      go_wp2
      go_ret
      refine ⟨ret_bool ?_, rfl⟩
      simp
      omega
  · have hr : dgt c = false := by unfold dgt; simp [h1]
    rw [hr]
    go_enter Tryz.func76, Tryz.ntmps76
    go_wp2
    go_ret
    exact ⟨by simp, rfl⟩

theorem tw_len {p : UInt8 → Bool} : ∀ (k : Nat) (l : List UInt8), (∀ j, j < k → ∃ c, l[j]? = some c ∧ p c = true) → (l[k]? = none ∨ ∃ c, l[k]? = some c ∧ p c = false) → (l.takeWhile p).length = k
  | 0, [], _, _ => rfl
  | 0, c :: r, _, h => by
    rcases h with h | ⟨d, h, hp⟩
    · simp at h
    · have : c = d := by simpa using h
      subst this
      rw [List.takeWhile_cons_of_neg (by rw [hp]; simp)]
      rfl
  | k + 1, [], h, _ => by
    obtain ⟨c, hc, _⟩ := h 0 (by omega)
    simp at hc
  | k + 1, c :: r, h, he => by
    obtain ⟨d, hd, hp⟩ := h 0 (by omega)
    have : c = d := by simpa using hd
    subst this
    rw [List.takeWhile_cons_of_pos hp, List.length_cons, tw_len k r (fun j hj => by have := h (j + 1) (by omega); simpa using this) (by simpa using he)]

set_option maxRecDepth 100000 in
set_option maxHeartbeats 4000000 in
theorem rf_word (s : ByteArray) (w : World) (hs : s.size ≤ 300) (h0 : 0 < s.size) (hl : ltr s[0] = true) : Calls Tryz.prog 74 #[.string s] w fun e w' => e = .returned (.int .i64 (wordF s.data.toList)) ∧ w = w' := by
  obtain ⟨N, hN⟩ : ∃ N, N = wordF s.data.toList := ⟨_, rfl⟩
  rw [← hN]
  have HN := Lib.hid hN
  have HL := Lib.hid hl
  have hsl : s.data.toList.length = s.size := rfl
  have HSL := Lib.hid hsl
  clear hN hl hsl
  go_enter Tryz.func74, Tryz.ntmps74
  go_wp2
  go_loop [3] (fun i => ∃ k : Nat, k ≤ s.size ∧ i = .int .i64 k ∧ Hid (∀ j, j < k → ∃ c, s.data.toList[j]? = some c ∧ wch c = true)) (fun i => s.size - (intOf i).toNat)
  case atStart => exact ⟨0, by omega, rfl, Lib.hid (fun j h => by omega)⟩
  case round =>
    obtain ⟨k, hk, rfl, HJ⟩ := hrel
    have next : ∀ (hlt : k < s.size), wch s[k] = true → Hid (∀ j, j < k + 1 → ∃ c, s.data.toList[j]? = some c ∧ wch c = true) := fun hlt hw => Lib.hid (fun j hj => by
      by_cases h : j = k
      · subst h; exact ⟨_, at_some s j hlt, hw⟩
      · exact HJ.out j (by omega))
    have HNX := Lib.hid next
    clear next
    by_cases hlt : k < s.size
    · rcases Bool.eq_false_or_eq_true (ltr s[k]) with ha | ha
      · have HA := Lib.hid ha
        have hw : wch s[k] = true := by unfold wch; rw [ha]; rfl
        have HX := HNX.out hlt hw
        clear ha hw
        go_wp2_with (go_at_call 73; refine (rf_letter _ _).mono ?_; rintro e w' ⟨rfl, rfl⟩; rw [HA.out])
        go_round
        case rel => exact ⟨k + 1, by omega, by go_num, HX⟩
        case measure => simp [intOf]; omega
      · have HA := Lib.hid ha
        have hk0 : 0 < k := by
          rcases Nat.eq_zero_or_pos k with h | h
          · subst h
            have := HL.out
            rw [ha] at this
            cases this
          · exact h
        rcases Bool.eq_false_or_eq_true (dgt s[k]) with hd | hd
        · have HD := Lib.hid hd
          have hw : wch s[k] = true := by unfold wch; rw [hd]; simp
          have HX := HNX.out hlt hw
          clear ha hd hw
          go_wp2_with (first
            | (go_at_call 73; refine (rf_letter _ _).mono ?_; rintro e w' ⟨rfl, rfl⟩; rw [HA.out])
            | (go_at_call 76; refine (rf_digit _ _).mono ?_; rintro e w' ⟨rfl, rfl⟩; rw [HD.out]))
          go_round
          case rel => exact ⟨k + 1, by omega, by go_num, HX⟩
          case measure => simp [intOf]; omega
        · have HD := Lib.hid hd
          by_cases hu : s[k].toNat = 95
          · have b1 : ((s[k].toNat : Int) == 95) = true := by rw [hu]; rfl
            have hw : wch s[k] = true := by
              unfold wch
              have : s[k] = 95 := by rw [eq_of_nat hu]; rfl
              rw [this]
              rfl
            have HX := HNX.out hlt hw
            clear ha hd hu hw
            go_wp2_with (first
              | (go_at_call 73; refine (rf_letter _ _).mono ?_; rintro e w' ⟨rfl, rfl⟩; rw [HA.out])
              | (go_at_call 76; refine (rf_digit _ _).mono ?_; rintro e w' ⟨rfl, rfl⟩; rw [HD.out]))
            go_round
            case rel => exact ⟨k + 1, by omega, by go_num, HX⟩
            case measure => simp [intOf]; omega
          · have b1 : ((s[k].toNat : Int) == 95) = false := by rw [beq_eq_false_iff_ne]; omega
            have hw : wch s[k] = false := by
              unfold wch
              rw [ha, hd]
              simp only [Bool.false_or, decide_eq_false_iff_not]
              exact ne_of_nat (n := 95) (by omega) hu
            have hE : N = k := by
              rw [HN.out]
              exact tw_len k _ HJ.out (.inr ⟨_, at_some s k hlt, hw⟩)
            have HE := Lib.hid hE
            clear ha hd hu hw hE
            go_wp2_with (first
              | (go_at_call 73; refine (rf_letter _ _).mono ?_; rintro e w' ⟨rfl, rfl⟩; rw [HA.out])
              | (go_at_call 76; refine (rf_digit _ _).mono ?_; rintro e w' ⟨rfl, rfl⟩; rw [HD.out]))
            go_ret
            exact ⟨by rw [HE.out]; rfl, rfl⟩
    · have hE : N = k := by
        rw [HN.out]
        exact tw_len k _ HJ.out (.inl (List.getElem?_eq_none_iff.2 (by rw [HSL.out]; omega)))
      have HE := Lib.hid hE
      clear hE
      go_wp2
      go_ret
      exact ⟨by rw [HE.out]; rfl, rfl⟩

theorem numF_dash {l : List UInt8} (h : l[0]? = some 45) {k : Nat} (h1 : 1 ≤ k) (hj : ∀ j, 1 ≤ j → j < k → ∃ c, l[j]? = some c ∧ dgt c = true) (he : l[k]? = none ∨ ∃ c, l[k]? = some c ∧ dgt c = false) : numF l = k := by
  match l, h with
  | c :: r, h =>
    have : c = 45 := by simpa using h
    subst this
    unfold numF
    rw [if_pos (by rfl)]
    show 1 + (r.takeWhile dgt).length = k
    obtain ⟨m, rfl⟩ : ∃ m, k = m + 1 := ⟨k - 1, by omega⟩
    rw [tw_len m r (fun j hj' => by have := hj (j + 1) (by omega) (by omega); simpa using this) (by simpa using he)]
    omega
theorem numF_plain {l : List UInt8} (h : l[0]? ≠ some 45) {k : Nat} (hj : ∀ j, j < k → ∃ c, l[j]? = some c ∧ dgt c = true) (he : l[k]? = none ∨ ∃ c, l[k]? = some c ∧ dgt c = false) : numF l = k := by
  unfold numF
  rw [if_neg (by rw [List.head?_eq_getElem?]; exact h)]
  exact tw_len k l hj he

set_option maxRecDepth 100000 in
set_option maxHeartbeats 4000000 in
theorem rf_number (s : ByteArray) (w : World) (hs : s.size ≤ 300) (h0 : 0 < s.size) : Calls Tryz.prog 77 #[.string s] w fun e w' => e = .returned (.int .i64 (numF s.data.toList)) ∧ w = w' := by
  obtain ⟨N, hN⟩ : ∃ N, N = numF s.data.toList := ⟨_, rfl⟩
  rw [← hN]
  have HN := Lib.hid hN
  have hsl : s.data.toList.length = s.size := rfl
  have HSL := Lib.hid hsl
  have hat := at_some s 0 h0
  obtain ⟨m, hm, hmz⟩ : ∃ m : Nat, (m = 1 ∧ s[0].toNat = 45 ∨ m = 0 ∧ ¬ s[0].toNat = 45) ∧ m ≤ s.size := by
    by_cases h : s[0].toNat = 45
    · exact ⟨1, .inl ⟨rfl, h⟩, by omega⟩
    · exact ⟨0, .inr ⟨rfl, h⟩, by omega⟩
  have hend : Hid (∀ k : Nat, m ≤ k → (∀ j, m ≤ j → j < k → ∃ c, s.data.toList[j]? = some c ∧ dgt c = true) → (s.data.toList[k]? = none ∨ ∃ c, s.data.toList[k]? = some c ∧ dgt c = false) → N = k) := Lib.hid (fun k hk hj he => by
    rw [HN.out]
    rcases hm with ⟨rfl, h⟩ | ⟨rfl, h⟩
    · exact numF_dash (by rw [hat, eq_of_nat h]; rfl) hk hj he
    · refine numF_plain (fun e => h ?_) (fun j h1 => hj j (by omega) h1) he
      rw [hat] at e
      rw [Option.some.inj e]
      rfl)
  have HM := Lib.hid hm
  clear hN hsl hat hm
  have loop : ∀ (k : Nat), Hid (∀ j, m ≤ j → j < k → ∃ c, s.data.toList[j]? = some c ∧ dgt c = true) → ∀ (hlt : k < s.size), dgt s[k] = true → Hid (∀ j, m ≤ j → j < k + 1 → ∃ c, s.data.toList[j]? = some c ∧ dgt c = true) := fun k HJ hlt hd => Lib.hid (fun j h1 h2 => by
    by_cases h : j = k
    · subst h; exact ⟨_, at_some s j hlt, hd⟩
    · exact HJ.out j h1 (by omega))
  have HLP := Lib.hid loop
  clear loop
  have bs : (((s[0].toNat : Int) == 45) = true ∧ m = 1) ∨ (((s[0].toNat : Int) == 45) = false ∧ m = 0) := by
    rcases HM.out with ⟨h1, h⟩ | ⟨h1, h⟩
    · exact .inl ⟨by rw [h]; rfl, h1⟩
    · exact .inr ⟨by rw [beq_eq_false_iff_ne]; omega, h1⟩
  rcases bs with ⟨b1, hm⟩ | ⟨b1, hm⟩
  all_goals
    have HMM := Lib.hid hm
    clear hm
    go_enter Tryz.func77, Tryz.ntmps77
    go_wp2
    go_loop [3] (fun i => ∃ k : Nat, k ≤ s.size ∧ i = .int .i64 k ∧ Hid (∀ j, m ≤ j → j < k → ∃ c, s.data.toList[j]? = some c ∧ dgt c = true) ∧ m ≤ k) (fun i => s.size - (intOf i).toNat)
    case atStart => exact ⟨m, hmz, by rw [HMM.out]; rfl, Lib.hid (fun j h1 h2 => by omega), Nat.le_refl _⟩
    case round =>
      obtain ⟨k, hk, rfl, HJ, hmk⟩ := hrel
      by_cases hlt : k < s.size
      · rcases Bool.eq_false_or_eq_true (dgt s[k]) with hd | hd
        · have HD := Lib.hid hd
          have HX := HLP.out k HJ hlt hd
          clear hd
          go_wp2_with (go_at_call 76; refine (rf_digit _ _).mono ?_; rintro e w' ⟨rfl, rfl⟩; rw [HD.out])
          go_round
          case rel => exact ⟨k + 1, by omega, by go_num, HX, by omega⟩
          case measure => simp [intOf]; omega
        · have HD := Lib.hid hd
          have HE := Lib.hid (hend.out k hmk HJ.out (.inr ⟨_, at_some s k hlt, hd⟩))
          clear hd
          go_wp2_with (go_at_call 76; refine (rf_digit _ _).mono ?_; rintro e w' ⟨rfl, rfl⟩; rw [HD.out])
          go_ret
          exact ⟨by rw [HE.out]; rfl, rfl⟩
      · have HE := Lib.hid (hend.out k hmk HJ.out (.inl (List.getElem?_eq_none_iff.2 (by rw [HSL.out]; omega))))
        go_wp2
        go_ret
        exact ⟨by rw [HE.out]; rfl, rfl⟩

set_option maxHeartbeats 2000000 in
theorem rf_text (s : ByteArray) (w : World) (hs : s.size ≤ 300) : Calls Tryz.prog 78 #[.string s] w fun e w' => e = .returned (.int .i64 (txtF (s.data.toList.drop 1) 1)) ∧ w = w' := by
  obtain ⟨R, hR⟩ : ∃ R, R = txtF (s.data.toList.drop 1) 1 := ⟨_, rfl⟩
  rw [← hR]
  have HR := Lib.hid hR.symm
  have hsl : s.data.toList.length = s.size := rfl
  have HL := Lib.hid hsl
  clear hR hsl
  go_enter Tryz.func78, Tryz.ntmps78
  go_wp2
  go_loop [3] (fun i => ∃ k : Nat, 1 ≤ k ∧ k ≤ s.size + 1 ∧ i = .int .i64 k ∧ Hid (txtF (s.data.toList.drop k) k = R)) (fun i => s.size + 1 - (intOf i).toNat)
  case atStart => exact ⟨1, by omega, by omega, rfl, HR⟩
  case round =>
    obtain ⟨k, hk1, hk, rfl, HK⟩ := hrel
    by_cases hlt : k < s.size
    · have hat := at_some s k hlt
      by_cases h1 : s[k].toNat = 92
      · have b1 : ((s[k].toNat : Int) == 92) = true := by rw [h1]; rfl
        have HE := Lib.hid ((txtF_92 (by rw [hat, eq_of_nat h1]; rfl)).symm.trans HK.out)
        clear h1 hat
        go_wp2
        go_round
        case rel => exact ⟨k + 2, by omega, by omega, by go_num, HE⟩
        case measure => simp [intOf]; omega
      · have b1 : ((s[k].toNat : Int) == 92) = false := by rw [beq_eq_false_iff_ne]; omega
        by_cases h2 : s[k].toNat = 34
        · have b2 : ((s[k].toNat : Int) == 34) = true := by rw [h2]; rfl
          have hE := (txtF_34 (by rw [hat, eq_of_nat h2]; rfl)).symm.trans HK.out
          have HE := Lib.hid hE
          clear h1 h2 hat hE
          go_wp2
          go_ret
          exact ⟨by rw [← HE.out]; rfl, rfl⟩
        · have b2 : ((s[k].toNat : Int) == 34) = false := by rw [beq_eq_false_iff_ne]; omega
          have HE := Lib.hid ((txtF_other hat (ne_of_nat (n := 92) (by omega) h1) (ne_of_nat (n := 34) (by omega) h2)).symm.trans HK.out)
          clear h1 h2 hat
          go_wp2
          go_round
          case rel => exact ⟨k + 1, by omega, by omega, by go_num, HE⟩
          case measure => simp [intOf]; omega
    · have hE := (txtF_over (l := s.data.toList) (k := k) (by rw [HL.out]; omega)).symm.trans HK.out
      have HE := Lib.hid hE
      clear hE
      go_wp2
      go_ret
      exact ⟨by rw [← HE.out]; rfl, rfl⟩
end Go.Proofs.YtkobfngnnblpeaaGreatDoor
