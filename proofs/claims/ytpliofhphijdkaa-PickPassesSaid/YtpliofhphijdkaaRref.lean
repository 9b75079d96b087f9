/-
  The document's own Right of a value tells whether a value can be, as Right of package value does; Test of package value and the document's own Test tell the same, at every input and in every world; nothing that was there is changed.
  No condition but that a text is no longer than a text can be.
-/
import Derived.Test.YtpliofhphijdkaaMake
namespace Go.Proofs.Ytpliofhphijdkaa
open Go.RowKit

theorem empty_size (t : ByteArray) (h : t.toList = []) : t.size = 0 := by
  rw [ByteArray.toList_eq] at h
  obtain ⟨⟨l⟩⟩ := t
  have h' : l = [] := h
  subst h'
  rfl
theorem nonempty_size (t : ByteArray) (h : t.toList.isEmpty = false) : ¬ t.size = 0 := by
  rw [ByteArray.toList_eq] at h
  obtain ⟨⟨l⟩⟩ := t
  cases l
  · simp at h
  · simp [ByteArray.size]

set_option maxHeartbeats 4000000 in
theorem ref_right (v : V) (w : World) : Calls Try.prog 51 #[v.val] w fun e w' => e = .returned (.bool (rightV v)) ∧ Below w.heap.size w w' := by
  obtain ⟨k, f, n, t⟩ := v
  show Calls Try.prog 51 #[.agg #[.int .i64 k, .bool f, .int .i64 n, .string t]] w _
  by_cases hk : k < 0
  · go_enter Try.func51, Try.ntmps51
    go_wp2
    go_ret
    exact ⟨ret_bool (by have h : ¬ 0 ≤ k := by omega
                        simp [rightV, h]), one_new _ _⟩
  by_cases hk' : 3 < k
  · go_enter Try.func51, Try.ntmps51
    go_wp2
    go_ret
    exact ⟨ret_bool (by have h : ¬ k ≤ 3 := by omega
                        simp [rightV, h]), one_new _ _⟩
  have hkk : k = 0 ∨ k = 1 ∨ k = 2 ∨ k = 3 := by omega
  clear hk hk'
  rcases Bool.eq_false_or_eq_true t.toList.isEmpty with ht | ht
  · have h4 : t.toList = [] := List.isEmpty_iff.1 ht
    have HS := Lib.hid (empty_size t h4)
    clear ht
    by_cases hn : n = 0
    · subst hn
      rcases hkk with rfl | rfl | rfl | rfl <;> cases f
      all_goals
        go_enter Try.func51, Try.ntmps51
        go_wp2
        go_ret
        exact ⟨ret_bool (by first | (simp [rightV, HS.out]; done) | (simp [rightV]; omega)), one_new _ _⟩
    · rcases hkk with rfl | rfl | rfl | rfl <;> cases f
      all_goals
        go_enter Try.func51, Try.ntmps51
        go_wp2
        go_ret
        exact ⟨ret_bool (by simp [rightV, HS.out, hn]), one_new _ _⟩
  · have HS := Lib.hid (nonempty_size t ht)
    by_cases hn : n = 0
    · subst hn
      rcases hkk with rfl | rfl | rfl | rfl <;> cases f
      all_goals
        go_enter Try.func51, Try.ntmps51
        go_wp2
        go_ret
        exact ⟨ret_bool (by first | (simp [rightV, HS.out]; done) | (simp [rightV]; omega)), one_new _ _⟩
    · rcases hkk with rfl | rfl | rfl | rfl <;> cases f
      all_goals
        go_enter Try.func51, Try.ntmps51
        go_wp2
        go_ret
        exact ⟨ret_bool (by simp [rightV, HS.out, hn]), one_new _ _⟩
end Go.Proofs.Ytpliofhphijdkaa
