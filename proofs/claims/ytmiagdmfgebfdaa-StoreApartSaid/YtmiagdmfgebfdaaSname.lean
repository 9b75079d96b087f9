/-
  Name, letter and word of package schema answer whether a name can be, and what kinds of values are called; the world stays as it was.
  No condition.
-/
import Derived.Test.YtmiagdmfgebfdaaScp
namespace Go.Proofs.Ytmiagdmfgebfdaa
open Go.RowKit

/-- What a column of that kind is called; nothing, if none can be of it. -/
def wordR (k : Int) : ByteArray := if k = 1 then ⟨#[98, 111, 111, 108]⟩ else if k = 2 then ⟨#[105, 110, 116]⟩ else if k = 3 then ⟨#[116, 101, 120, 116]⟩ else ⟨#[]⟩

set_option maxHeartbeats 400000 in
theorem s_letter (c : UInt8) (w : World) : Calls Try.prog 107 #[.int .u8 (c.toNat : Int)] w fun e w' => e = .returned (.bool (letterB c)) ∧ w' = w := by
  have e : letterB c = (decide ((97 : Int) ≤ c.toNat) && decide ((c.toNat : Int) ≤ 122)) := by
    unfold letterB
    congr 1
    · simp only [decide_eq_decide]; omega
    · simp only [decide_eq_decide]; omega
  rw [e]
  clear e
  by_cases h : (97 : Int) ≤ c.toNat
  · go_enter Try.func107, Try.ntmps107
    go_wp2
    go_ret
    exact ⟨by simp [h], rfl⟩
  · go_enter Try.func107, Try.ntmps107
    go_wp2
    go_ret
    exact ⟨by simp; omega, rfl⟩

set_option maxHeartbeats 400000 in
theorem s_word (k : Int) (w : World) : Calls Try.prog 109 #[.int .i64 k] w fun e w' => e = .returned (.string (wordR k)) ∧ w' = w := by
  by_cases h1 : k = 1
  · subst h1
    go_enter Try.func109, Try.ntmps109
    go_wp2
    go_ret
    exact ⟨rfl, rfl⟩
  by_cases h2 : k = 2
  · subst h2
    go_enter Try.func109, Try.ntmps109
    go_wp2
    go_ret
    exact ⟨rfl, rfl⟩
  by_cases h3 : k = 3
  · subst h3
    go_enter Try.func109, Try.ntmps109
    go_wp2
    go_ret
    exact ⟨rfl, rfl⟩
  have e : wordR k = ⟨#[]⟩ := by unfold wordR; rw [if_neg h1, if_neg h2, if_neg h3]
  rw [e]
  have b1 : (k == 1) = false := by simpa using h1
  have b2 : (k == 2) = false := by simpa using h2
  have b3 : (k == 3) = false := by simpa using h3
  clear h1 h2 h3 e
  go_enter Try.func109, Try.ntmps109
  go_wp2
  go_ret
  exact ⟨rfl, rfl⟩

theorem restB_int (c : UInt8) : restB c = (letterB c || (decide ((48 : Int) ≤ c.toNat) && decide ((c.toNat : Int) ≤ 57)) || ((c.toNat : Int) == 95)) := by
  unfold restB
  have e1 : decide (48 ≤ c.toNat) = decide ((48 : Int) ≤ c.toNat) := by simp only [decide_eq_decide]; omega
  have e2 : decide (c.toNat ≤ 57) = decide ((c.toNat : Int) ≤ 57) := by simp only [decide_eq_decide]; omega
  have e3 : decide (c.toNat = 95) = ((c.toNat : Int) == 95) := by
    by_cases h : c.toNat = 95
    · rw [h]; rfl
    · have : ((c.toNat : Int) == 95) = false := by rw [beq_eq_false_iff_ne]; omega
      rw [this]
      simpa using h
  rw [e1, e2, e3]

theorem all_take_next (s : ByteArray) (k : Nat) (h : k < s.size) : (s.data.toList.take (k + 1)).all restB = ((s.data.toList.take k).all restB && restB s[k]) := by
  have h' : k < s.data.toList.length := h
  rw [List.take_add_one, List.getElem?_eq_getElem h', List.all_append]
  simp
  rfl
theorem all_false (s : ByteArray) (k : Nat) (h : k < s.size) (hr : restB s[k] = false) : s.data.toList.all restB = false := by
  rcases Bool.eq_false_or_eq_true (s.data.toList.all restB) with ha | ha
  · have := List.all_eq_true.1 ha s.data.toList[k] (List.getElem_mem h)
    exact absurd (this.symm.trans (show restB s.data.toList[k] = false from hr)) (by decide)
  · exact ha
/-- A name by its first byte. -/
theorem name_of (s : ByteArray) (h0 : 0 < s.size) : nameR s.data.toList = (decide (s.size ≤ 16) && letterB s[0] && s.data.toList.all restB) := by
  have hl : s.data.toList.length = s.size := rfl
  cases hd : s.data.toList with
  | nil => rw [hd] at hl; simp at hl; omega
  | cons c r =>
    have hc : s[0] = c := by
      have h1 : s.data.toList[0]? = some s[0] := by rw [List.getElem?_eq_getElem (by exact h0)]; rfl
      rw [hd] at h1
      simpa using h1.symm
    rw [hc, ← hl, hd]
    rfl

set_option maxRecDepth 100000 in
set_option maxHeartbeats 2000000 in
theorem s_name (s : ByteArray) (w : World) : Calls Try.prog 84 #[.string s] w fun e w' => e = .returned (.bool (nameR s.data.toList)) ∧ w' = w := by
  have hl : s.data.toList.length = s.size := rfl
  by_cases h0 : s.size = 0
  · have hs : s.data.toList = [] := List.eq_nil_of_length_eq_zero (by omega)
    have b0 : (s.toList == []) = true := by rw [ByteArray.toList_eq, hs]; rfl
    rw [hs]
    clear hs hl h0
    go_enter Try.func84, Try.ntmps84
    go_wp2
    go_ret
    exact ⟨rfl, rfl⟩
  have h1 : 0 < s.size := by omega
  have b0 : (s.toList == []) = false := by
    rw [ByteArray.toList_eq]
    cases hd : s.data.toList with
    | nil => rw [hd] at hl; simp at hl; omega
    | cons c r => rfl
  rw [name_of s h1]
  clear hl h0
  by_cases h2 : s.size ≤ 16
  · rcases Bool.eq_false_or_eq_true (letterB s[0]) with h3 | h3
    · have hd : decide (s.size ≤ 16) = true := by simpa using h2
      rw [hd, h3, Bool.true_and, Bool.true_and]
      have H3 := Lib.hid h3
      obtain ⟨A, hA⟩ : ∃ A, A = s.data.toList.all restB := ⟨_, rfl⟩
      rw [← hA]
      have HA := Lib.hid hA
      clear h3 hd hA
      go_enter Try.func84, Try.ntmps84
      go_wp2_with (go_at_call 107; refine (s_letter _ _).mono ?_; rintro e w1 ⟨rfl, rfl⟩; rw [H3.out])
      go_loopw [20] (fun i wr => ∃ k : Nat, k ≤ s.size ∧ i = .int .i64 k ∧ (s.data.toList.take k).all restB = true ∧ wr = w1) (fun i _ => s.size - (intOf i).toNat)
      case atStart => exact ⟨0, Nat.zero_le _, rfl, by simp, rfl⟩
      case round =>
        obtain ⟨k, hk, rfl, ha, rfl⟩ := hrel
        have HT := Lib.hid ha
        clear ha
        by_cases h4 : k < s.size
        · have hc : s[k].toNat < 256 := s[k].toNat_lt
          have hc1 : (s[k].toNat : Int) < 256 := by omega
          have HR := Lib.hid (restB_int s[k])
          obtain ⟨L, hL⟩ : ∃ L, L = letterB s[k] := ⟨_, rfl⟩
          have HL := Lib.hid hL
          clear hL
          rcases Bool.eq_false_or_eq_true (restB s[k]) with h5 | h5
          · have H5 := Lib.hid h5
            have HN := Lib.hid (all_take_next s k h4)
            have hend : (s.data.toList.take (k + 1)).all restB = true := by rw [HN.out, HT.out, h5]; rfl
            have HE := Lib.hid hend
            clear hend
            have hcs := h5.symm.trans HR.out
            rw [← HL.out] at hcs
            clear h5
            cases L with
            | true =>
              clear hcs
              go_wp2_with (go_at_call 107; refine (s_letter _ _).mono ?_; rintro e w1 ⟨rfl, rfl⟩; rw [← HL.out])
              exact ⟨⟨k + 1, by omega, by go_num, HE.out, trivial⟩, by simp [intOf]; omega⟩
            | false =>
              by_cases h6 : (48 : Int) ≤ s[k].toNat
              · by_cases h7 : (s[k].toNat : Int) ≤ 57
                · clear hcs
                  go_wp2_with (go_at_call 107; refine (s_letter _ _).mono ?_; rintro e w1 ⟨rfl, rfl⟩; rw [← HL.out])
                  exact ⟨⟨k + 1, by omega, by go_num, HE.out, trivial⟩, by simp [intOf]; omega⟩
                · have h8 : ((s[k].toNat : Int) == 95) = true := by simpa [h7] using hcs.symm
                  have h9 : 57 < (s[k].toNat : Int) := by omega
                  clear hcs h7
                  go_wp2_with (go_at_call 107; refine (s_letter _ _).mono ?_; rintro e w1 ⟨rfl, rfl⟩; rw [← HL.out])
                  exact ⟨⟨k + 1, by omega, by go_num, HE.out, trivial⟩, by simp [intOf]; omega⟩
              · have h8 : ((s[k].toNat : Int) == 95) = true := by simpa [h6] using hcs.symm
                have h9 : (s[k].toNat : Int) = 95 := by simpa using h8
                omega
          · have H5 := Lib.hid h5
            have hend : A = false := by rw [HA.out]; exact all_false s k h4 H5.out
            subst hend
            have hcs := h5.symm.trans HR.out
            rw [← HL.out] at hcs
            clear h5
            cases L with
            | true => simp at hcs
            | false =>
              have h8 : ((s[k].toNat : Int) == 95) = false := by
                rcases Bool.eq_false_or_eq_true ((s[k].toNat : Int) == 95) with h | h
                · rw [h] at hcs; simp at hcs
                · exact h
              by_cases h6 : (48 : Int) ≤ s[k].toNat
              · have h7 : 57 < (s[k].toNat : Int) := by
                  by_cases h7 : (s[k].toNat : Int) ≤ 57
                  · simp [h6, h7] at hcs
                  · omega
                clear hcs
                go_wp2_with (go_at_call 107; refine (s_letter _ _).mono ?_; rintro e w1 ⟨rfl, rfl⟩; rw [← HL.out])
                go_ret
                exact ⟨rfl, rfl⟩
              · have h7 : (s[k].toNat : Int) < 48 := by omega
                clear hcs h6
                go_wp2_with (go_at_call 107; refine (s_letter _ _).mono ?_; rintro e w1 ⟨rfl, rfl⟩; rw [← HL.out])
                go_ret
                exact ⟨rfl, rfl⟩
        · have hend : A = true := by
            rw [HA.out]
            have := HT.out
            rwa [List.take_of_length_le (by show s.size ≤ k; omega)] at this
          subst hend
          go_wp2
          go_ret
          exact ⟨rfl, rfl⟩
    · have hd : decide (s.size ≤ 16) = true := by simpa using h2
      rw [hd, h3, Bool.true_and, Bool.false_and]
      have H3 := Lib.hid h3
      clear h3 hd
      go_enter Try.func84, Try.ntmps84
      go_wp2_with (go_at_call 107; refine (s_letter _ _).mono ?_; rintro e w1 ⟨rfl, rfl⟩; rw [H3.out])
      go_ret
      exact ⟨rfl, rfl⟩
  · have hd : decide (s.size ≤ 16) = false := by simpa using h2
    rw [hd, Bool.false_and, Bool.false_and]
    have h3 : 16 < s.size := by omega
    clear hd h2
    go_enter Try.func84, Try.ntmps84
    go_wp2
    go_ret
    exact ⟨rfl, rfl⟩
end Go.Proofs.Ytmiagdmfgebfdaa
