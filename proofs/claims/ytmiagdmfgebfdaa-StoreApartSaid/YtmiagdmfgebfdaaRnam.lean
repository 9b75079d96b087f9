/-
  Name of the document's schema answers whether a name can be; the world stays as it was.
  No condition.
-/
import Derived.Test.YtmiagdmfgebfdaaSname
namespace Go.Proofs.Ytmiagdmfgebfdaa
open Go.RowKit

set_option maxRecDepth 100000 in
set_option maxHeartbeats 4000000 in
theorem ref_name (s : ByteArray) (w : World) : Calls Try.prog 91 #[.string s] w fun e w' => e = .returned (.bool (nameR s.data.toList)) ∧ w' = w := by
  have hl : s.data.toList.length = s.size := rfl
  by_cases h0 : s.size = 0
  · have hs : s.data.toList = [] := List.eq_nil_of_length_eq_zero (by omega)
    rw [hs]
    have h1 : (s.size : Int) < 1 := by omega
    clear hs hl h0
    go_enter Try.func91, Try.ntmps91
    go_wp2
    go_ret
    exact ⟨rfl, rfl⟩
  have h1 : 0 < s.size := by omega
  have h1' : 1 ≤ (s.size : Int) := by omega
  rw [name_of s h1]
  clear hl h0
  by_cases h2 : s.size ≤ 16
  · have hd : decide (s.size ≤ 16) = true := by simpa using h2
    rw [hd, Bool.true_and]
    obtain ⟨A, hA⟩ : ∃ A, A = (letterB s[0] && s.data.toList.all restB) := ⟨_, rfl⟩
    rw [← hA]
    have HA := Lib.hid hA
    clear hd hA
    go_enter Try.func91, Try.ntmps91
    go_wp2
    go_loopw [3] (fun i wr => ∃ k : Nat, k ≤ s.size ∧ i = .int .i64 k ∧ (s.data.toList.take k).all restB = true ∧ (0 < k → letterB s[0] = true) ∧ wr = w) (fun i _ => s.size - (intOf i).toNat)
    case atStart => exact ⟨0, Nat.zero_le _, rfl, by simp, (fun h => by omega), rfl⟩
    case round =>
      obtain ⟨k, hk, rfl, ha, hf, rfl⟩ := hrel
      have HT := Lib.hid ha
      have HF := Lib.hid hf
      clear ha hf
      by_cases h4 : k < s.size
      · have hc : s[k].toNat < 256 := s[k].toNat_lt
        have hc1 : (s[k].toNat : Int) < 256 := by omega
        have HR := Lib.hid (restB_int s[k])
        have HN := Lib.hid (all_take_next s k h4)
        have hlet : letterB s[k] = (decide ((97 : Int) ≤ s[k].toNat) && decide ((s[k].toNat : Int) ≤ 122)) := by
          unfold letterB
          congr 1
          · simp only [decide_eq_decide]; omega
          · simp only [decide_eq_decide]; omega
        have HLT := Lib.hid hlet
        clear hlet
        rcases Bool.eq_false_or_eq_true (letterB s[k]) with h5 | h5
        · have hr : restB s[k] = true := by unfold restB; rw [h5]; rfl
          have hend : (s.data.toList.take (k + 1)).all restB = true := by rw [HN.out, HT.out, hr]; rfl
          have hlet0 : letterB s[0] = true := by
            by_cases hk0 : k = 0
            · subst hk0; exact h5
            · exact HF.out (by omega)
          have HE := Lib.hid (And.intro hend hlet0)
          have h6 := h5.symm.trans HLT.out
          have h7 : (97 : Int) ≤ s[k].toNat := by simp at h6; omega
          have h8 : (s[k].toNat : Int) ≤ 122 := by simp at h6; omega
          clear hr hend hlet0 h5 h6
          go_wp2
          exact ⟨⟨k + 1, by omega, by go_num, HE.out.1, fun _ => HE.out.2, by trivial⟩, by simp [intOf]; omega⟩
        · have h6 := h5.symm.trans HLT.out
          by_cases hk0 : k = 0
          · subst hk0
            have hz : A = false := by rw [HA.out, h5]; rfl
            subst hz
            by_cases h7 : (97 : Int) ≤ s[0].toNat
            · have h8 : 122 < (s[0].toNat : Int) := by simp at h6; omega
              have p122 : decide ((s[0].toNat : Int) ≤ 122) = false := by simp; omega
              clear h5 h6
              go_wp2
              go_ret
              exact ⟨rfl, rfl⟩
            · have h8 : (s[0].toNat : Int) < 97 := by omega
              clear h5 h6 h7
              go_wp2
              go_ret
              exact ⟨rfl, rfl⟩
          · have hl0 := HF.out (by omega)
            have HL0 := Lib.hid hl0
            have bk : ((k : Int) == 0) = false := by rw [beq_eq_false_iff_ne]; omega
            have hrest : restB s[k] = ((decide ((48 : Int) ≤ s[k].toNat) && decide ((s[k].toNat : Int) ≤ 57)) || ((s[k].toNat : Int) == 95)) := by rw [HR.out, h5, Bool.false_or]
            have h7 : (s[k].toNat : Int) < 97 ∨ 122 < (s[k].toNat : Int) := by simp at h6; omega
            clear hl0 h5 h6
            rcases Bool.eq_false_or_eq_true (restB s[k]) with h9 | h9
            · have hend : (s.data.toList.take (k + 1)).all restB = true := by rw [HN.out, HT.out, h9]; rfl
              have HE := Lib.hid hend
              rw [h9] at hrest
              clear hend h9
              by_cases g1 : (s[k].toNat : Int) = 95
              · have g2 : ((s[k].toNat : Int) == 95) = true := by simpa using g1
                have g3 : (s[k].toNat : Int) < 97 := by omega
                have p97 : decide ((97 : Int) ≤ s[k].toNat) = false := by simp; omega
                have g4 : (48 : Int) ≤ s[k].toNat := by omega
                have g5 : 57 < (s[k].toNat : Int) := by omega
                clear hrest h7 g1
                go_wp2
                exact ⟨⟨k + 1, by omega, by go_num, HE.out, fun _ => HL0.out, by trivial⟩, by simp [intOf]; omega⟩
              · have g2 : ((s[k].toNat : Int) == 95) = false := by simpa using g1
                have g3 : (48 : Int) ≤ s[k].toNat := by simp [g2] at hrest; omega
                have g4 : (s[k].toNat : Int) ≤ 57 := by simp [g2] at hrest; omega
                have g5 : (s[k].toNat : Int) < 97 := by omega
                have p97 : decide ((97 : Int) ≤ s[k].toNat) = false := by simp; omega
                clear hrest h7 g1
                go_wp2
                exact ⟨⟨k + 1, by omega, by go_num, HE.out, fun _ => HL0.out, by trivial⟩, by simp [intOf]; omega⟩
            · have hz : A = false := by rw [HA.out, all_false s k h4 h9, Bool.and_false]
              subst hz
              rw [h9] at hrest
              have g2 : ((s[k].toNat : Int) == 95) = false := by
                rcases Bool.eq_false_or_eq_true ((s[k].toNat : Int) == 95) with h | h
                · rw [h] at hrest; simp at hrest
                · exact h
              have g6 : ((s[k].toNat : Int) != 95) = true := by unfold bne; rw [g2]; rfl
              clear h9
              by_cases g3 : (48 : Int) ≤ s[k].toNat
              · have g4 : 57 < (s[k].toNat : Int) := by simp [g2] at hrest; omega
                clear hrest
                rcases h7 with h7 | h7
                · have p97 : decide ((97 : Int) ≤ s[k].toNat) = false := by simp; omega
                  go_wp2
                  go_ret
                  exact ⟨rfl, rfl⟩
                · have h8 : (97 : Int) ≤ s[k].toNat := by omega
                  have p122 : decide ((s[k].toNat : Int) ≤ 122) = false := by simp; omega
                  go_wp2
                  go_ret
                  exact ⟨rfl, rfl⟩
              · have g4 : (s[k].toNat : Int) < 48 := by omega
                have h8 : (s[k].toNat : Int) < 97 := by omega
                clear hrest h7 g3
                go_wp2
                go_ret
                exact ⟨rfl, rfl⟩
      · have hz : A = true := by
          have h9 := HT.out
          rw [List.take_of_length_le (by show s.size ≤ k; omega)] at h9
          rw [HA.out, h9, HF.out (by omega)]
          rfl
        subst hz
        go_wp2
        go_ret
        exact ⟨rfl, rfl⟩
  · have hd : decide (s.size ≤ 16) = false := by simpa using h2
    rw [hd, Bool.false_and, Bool.false_and]
    have h3 : 16 < s.size := by omega
    clear hd h2
    go_enter Try.func91, Try.ntmps91
    go_wp2
    go_ret
    exact ⟨rfl, rfl⟩

end Go.Proofs.Ytmiagdmfgebfdaa
