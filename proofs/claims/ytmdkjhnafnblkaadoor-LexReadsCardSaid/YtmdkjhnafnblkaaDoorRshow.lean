/-
  Show of the document's value answers the word of a value, as Show of package value does, at every value; nothing that was there is changed.
  Condition: the number is one of 64 bits.
-/
import Derived.Test.YtmdkjhnafnblkaaDoorRquo
import Derived.Test.YtmdkjhnafnblkaaDoorRref
namespace Go.Proofs.YtmdkjhnafnblkaaDoor
open Go.RowKit

set_option maxHeartbeats 1000000 in
theorem ref_show (v : V) (w : World) (hw : Wide v) : Calls Tryd.prog 41 #[v.val] w fun e w' => e = .returned (.string ⟨(showV v).toArray⟩) ∧ Below w.heap.size w w' := by
  obtain ⟨k, f, n, t⟩ := v
  show Calls Tryd.prog 41 #[.agg #[.int .i64 k, .bool f, .int .i64 n, .string t]] w _
  have HW := Lib.hid hw
  have HRV := Lib.hid (fun w => ref_right ⟨k, f, n, t⟩ w)
  clear hw
  rcases Bool.eq_false_or_eq_true (rightV ⟨k, f, n, t⟩) with hr | hr
  · have HR := Lib.hid hr
    have HS := Lib.hid (right_size _ hr)
    clear hr
    by_cases h0 : k = 0
    · subst h0
      have hs : showV ⟨0, f, n, t⟩ = [110, 117, 108, 108] := by unfold showV; rw [if_pos HR.out]; rfl
      have HSH := Lib.hid hs
      clear hs
      go_enter Tryd.func41, Tryd.ntmps41
      go_wp2_with (first
        | (go_at_call 51; refine (HRV.out _).mono ?_; rintro e w1 ⟨rfl, hb1⟩; rw [HR.out]; have hc1 := bcell hb1))
      go_ret
      exact ⟨ret_str HSH.out.symm, (one_new _ _).trans (hb1.mono (by simp))⟩
    · by_cases h1 : k = 1
      · subst h1
        have hs : showV ⟨1, f, n, t⟩ = Lib.formatBool f := by unfold showV; rw [if_pos HR.out]; rfl
        have HSH := Lib.hid hs
        clear hs h0
        cases f
        all_goals
          go_enter Tryd.func41, Tryd.ntmps41
          go_wp2_with (first
            | (go_at_call 51; refine (HRV.out _).mono ?_; rintro e w1 ⟨rfl, hb1⟩; rw [HR.out]; have hc1 := bcell hb1))
          go_ret
          exact ⟨ret_str HSH.out.symm, (one_new _ _).trans (hb1.mono (by simp))⟩
      · by_cases h2 : k = 2
        · subst h2
          have hs : showV ⟨2, f, n, t⟩ = Lib.itoa n := by unfold showV; rw [if_pos HR.out]; rfl
          have HSH := Lib.hid hs
          clear hs h0 h1
          go_enter Tryd.func41, Tryd.ntmps41
          go_wp2_with (first
            | (go_at_call 51; refine (HRV.out _).mono ?_; rintro e w1 ⟨rfl, hb1⟩; rw [HR.out]; have hc1 := bcell hb1)
            | (go_at_call 49; refine (ref_num n HW.out.1 HW.out.2 _).mono ?_; rintro e w2 ⟨rfl, rfl⟩))
          go_ret
          exact ⟨ret_str HSH.out.symm, (one_new _ _).trans (hb1.mono (by simp))⟩
        · have h3 : k = 3 := by
            have := HR.out
            simp only [rightV, Bool.and_eq_true, decide_eq_true_eq] at this
            omega
          subst h3
          have hs : showV ⟨3, f, n, t⟩ = qs t.data.toList := by unfold showV; rw [if_pos HR.out]; rfl
          have HSH := Lib.hid hs
          clear hs h0 h1 h2
          go_enter Tryd.func41, Tryd.ntmps41
          go_wp2_with (first
            | (go_at_call 51; refine (HRV.out _).mono ?_; rintro e w1 ⟨rfl, hb1⟩; rw [HR.out]; have hc1 := bcell hb1)
            | (go_at_call 52; refine (ref_quoted t (Nat.le_trans HS.out (by decide)) _).mono ?_; rintro e w2 ⟨rfl, hb2⟩))
          go_ret
          exact ⟨ret_str HSH.out.symm, ((one_new _ _).trans (hb1.mono (by simp))).trans (hb2.mono (by have := hb1.size; simp at this; omega))⟩
  · have HR := Lib.hid hr
    clear hr
    have hs : showV ⟨k, f, n, t⟩ = [] := by unfold showV; rw [HR.out]; rfl
    have HSH := Lib.hid hs
    clear hs
    go_enter Tryd.func41, Tryd.ntmps41
    go_wp2_with (first
      | (go_at_call 51; refine (HRV.out _).mono ?_; rintro e w1 ⟨rfl, hb1⟩; rw [HR.out]; have hc1 := bcell hb1))
    go_ret
    exact ⟨ret_str HSH.out.symm, (one_new _ _).trans (hb1.mono (by simp))⟩
end Go.Proofs.YtmdkjhnafnblkaaDoor
