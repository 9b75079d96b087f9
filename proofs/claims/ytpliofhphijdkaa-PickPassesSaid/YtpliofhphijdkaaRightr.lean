/-
  Right of package row, and the document's own Right of a row, tell whether a row can be, at every row and in every world; nothing that was there is changed.
  No condition but that a row is no longer than it can be.
-/
import Derived.Test.YtpliofhphijdkaaRow
namespace Go.Proofs.Ytpliofhphijdkaa
open Go.RowKit

/-- Can a row be? -/
def rightR (xs : List V) : Bool := decide (xs.length ≤ 40) && xs.all rightV

set_option maxHeartbeats 400000 in
theorem not_right (v : V) (w : World) : Calls Try.prog 63 #[v.val] w fun e w' => e = .returned (.bool (!rightV v)) ∧ Below w.heap.size w w' := by
  obtain ⟨k, f, n, t⟩ := v
  show Calls Try.prog 63 #[.agg #[.int .i64 k, .bool f, .int .i64 n, .string t]] w _
  go_enter Try.func63, Try.ntmps63
  go_wp2_with (go_at_call 64; refine (right_val ⟨k, f, n, t⟩ _).mono ?_; rintro e w' ⟨rfl, hb⟩)
  go_ret
  exact ⟨rfl, (one_new _ _).trans (hb.mono (by simp))⟩

theorem all_drop (xs : List V) (k : Nat) (v : V) (h : xs[k]? = some v) : (xs.drop k).all rightV = (rightV v && (xs.drop (k + 1)).all rightV) := by
  obtain ⟨h1, h2⟩ := List.getElem?_eq_some_iff.1 h
  rw [List.drop_eq_getElem_cons h1, h2]
  rfl

/-- Is there a value that can not be? -/
def noneWrong (xs : List V) (z : Int) : Prop := (z < 0 ∧ xs.all rightV = true) ∨ (0 ≤ z ∧ xs.all rightV = false)

set_option maxHeartbeats 1000000 in
theorem index_func (A : Option Addr) (xs : List V) (n c : Nat) (w : World) (hn : n = xs.length) (hl : n ≤ maxLen) (hx : RowAt w w.heap.size A xs) :
    Calls Try.prog 70 #[.slice A n c, .func (.func 63) #[] #[]] w fun e w' => ∃ z : Int, e = .returned (.int .i64 z) ∧ noneWrong xs z ∧ Below w.heap.size w w' := by
  unfold maxLen at hl
  have HX := Lib.hid hx
  have HN := Lib.hid hn
  clear hx hn
  have hpost : ∀ (z : Int) (w' : World), noneWrong xs z → Below w.heap.size w w' → ∃ z' : Int, Ending.returned (.int .i64 z) = .returned (.int .i64 z') ∧ noneWrong xs z' ∧ Below w.heap.size w w' := fun z w' h1 h2 => ⟨z, rfl, h1, h2⟩
  have HP := Lib.hid hpost
  clear hpost
  go_enter Try.func70, Try.ntmps70
  go_wp2
  go_loopw [8] (fun i wr => ∃ k : Nat, k ≤ n ∧ i = .int .i64 k ∧ xs.all rightV = (xs.drop k).all rightV ∧ Below w.heap.size w wr) (fun i _ => n - (intOf i).toNat)
  case atStart => exact ⟨0, Nat.zero_le _, rfl, rfl, Below.refl _ _⟩
  case round =>
    obtain ⟨k, hk, rfl, hc, hb⟩ := hrel
    have HC := Lib.hid hc
    have HB := Lib.hid hb
    clear hc hb
    by_cases h1 : k < n
    · obtain ⟨v, hv⟩ : ∃ v, xs[k]? = some v := ⟨_, List.getElem?_eq_getElem (by rw [← HN.out]; exact h1)⟩
      obtain ⟨a, rfl, ha, a0, a1, a2, a3⟩ := (HX.out.below HB.out) k v hv
      have HV := Lib.hid hv
      clear hv
      rcases Bool.eq_false_or_eq_true (rightV v) with hz | hz
      · have HZ := Lib.hid hz
        clear hz
        go_wp2_with (go_at_call 63; refine (not_right v _).mono ?_; rintro e w' ⟨rfl, hb2⟩; rw [HZ.out])
        go_roundw
        case rel => exact ⟨k + 1, by omega, by go_num, by rw [HC.out, all_drop _ _ _ HV.out, HZ.out, Bool.true_and], HB.out.trans (hb2.mono HB.out.size)⟩
        case measure => simp [intOf]; omega
      · have HZ := Lib.hid hz
        clear hz
        go_wp2_with (go_at_call 63; refine (not_right v _).mono ?_; rintro e w' ⟨rfl, hb2⟩; rw [HZ.out])
        go_ret
        exact HP.out _ _ (.inr ⟨by omega, by rw [HC.out, all_drop _ _ _ HV.out, HZ.out, Bool.false_and]⟩) (HB.out.trans (hb2.mono HB.out.size))
    · go_wp2
      go_ret
      exact HP.out _ _ (.inl ⟨by omega, by rw [HC.out, List.drop_of_length_le (by rw [← HN.out]; omega)]; rfl⟩) HB.out

set_option maxHeartbeats 400000 in
theorem contains_func (A : Option Addr) (xs : List V) (n c : Nat) (w : World) (hn : n = xs.length) (hl : n ≤ maxLen) (hx : RowAt w w.heap.size A xs) :
    Calls Try.prog 62 #[.slice A n c, .func (.func 63) #[] #[]] w fun e w' => e = .returned (.bool (!xs.all rightV)) ∧ Below w.heap.size w w' := by
  have HF := Lib.hid (index_func A xs n c w hn hl hx)
  clear hx hn hl
  rcases Bool.eq_false_or_eq_true (xs.all rightV) with hz | hz
  all_goals
    have HZ := Lib.hid hz
    rw [hz]
    clear hz
    go_enter Try.func62, Try.ntmps62
    go_wp2_with fail
    refine HF.out.mono ?_
    rintro e w' ⟨z, rfl, hnw, hb⟩
    unfold noneWrong at hnw
    rw [HZ.out] at hnw
  · have h0 : z < 0 := by
      rcases hnw with ⟨h, _⟩ | ⟨_, h⟩
      · exact h
      · cases h
    clear hnw
    go_wp2
    go_ret
    exact ⟨ret_bool (by simp; omega), hb⟩
  · have h0 : 0 ≤ z := by
      rcases hnw with ⟨_, h⟩ | ⟨h, _⟩
      · cases h
      · exact h
    clear hnw
    go_wp2
    go_ret
    exact ⟨ret_bool (by simp), hb⟩

set_option maxHeartbeats 1000000 in
theorem row_right (A : Option Addr) (xs : List V) (n c : Nat) (w : World) (hn : n = xs.length) (hl : n ≤ maxLen) (hx : RowAt w w.heap.size A xs) :
    Calls Try.prog 48 #[.slice A n c] w fun e w' => e = .returned (.bool (rightR xs)) ∧ Below w.heap.size w w' := by
  have HF := Lib.hid (contains_func A xs n c w hn hl hx)
  have HN := Lib.hid hn
  clear hx hn hl
  by_cases h1 : n ≤ 40
  · have hr : rightR xs = xs.all rightV := by unfold rightR; rw [← HN.out]; simp [h1]
    have HR := Lib.hid hr
    clear hr
    have hd : decide ((n : Int) ≤ 40) = true := by simp; omega
    go_enter Try.func48, Try.ntmps48
    go_wp2_with fail
    refine HF.out.mono ?_
    rintro e w' ⟨rfl, hb⟩
    go_wp2
    go_ret
    exact ⟨ret_bool (by rw [HR.out]), hb⟩
  · have hr : rightR xs = false := by unfold rightR; rw [← HN.out]; simp [h1]
    have HR := Lib.hid hr
    clear hr HF
    have hd : decide ((n : Int) ≤ 40) = false := by simp; omega
    go_enter Try.func48, Try.ntmps48
    go_wp2
    go_ret
    exact ⟨ret_bool (by rw [HR.out]), Below.refl _ _⟩

set_option maxHeartbeats 1000000 in
theorem ref_rightR (A : Option Addr) (xs : List V) (n c : Nat) (w : World) (hn : n = xs.length) (hx : RowAt w w.heap.size A xs) :
    Calls Try.prog 33 #[.slice A n c] w fun e w' => e = .returned (.bool (rightR xs)) ∧ Below w.heap.size w w' := by
  have HX := Lib.hid hx
  have HN := Lib.hid hn
  clear hx hn
  by_cases h0 : n ≤ 40
  · have hr : rightR xs = xs.all rightV := by unfold rightR; rw [← HN.out]; simp [h0]
    have HR := Lib.hid hr
    clear hr
    go_enter Try.func33, Try.ntmps33
    go_wp2
    go_loopw [3] (fun i wr => ∃ k : Nat, k ≤ n ∧ i = .int .i64 k ∧ xs.all rightV = (xs.drop k).all rightV ∧ Below w.heap.size w wr) (fun i _ => n - (intOf i).toNat)
    case atStart => exact ⟨0, Nat.zero_le _, rfl, rfl, Below.refl _ _⟩
    case round =>
      obtain ⟨k, hk, rfl, hc, hb⟩ := hrel
      have HC := Lib.hid hc
      have HB := Lib.hid hb
      clear hc hb
      by_cases h1 : k < n
      · obtain ⟨v, hv⟩ : ∃ v, xs[k]? = some v := ⟨_, List.getElem?_eq_getElem (by rw [← HN.out]; exact h1)⟩
        obtain ⟨a, rfl, ha, a0, a1, a2, a3⟩ := (HX.out.below HB.out) k v hv
        have HV := Lib.hid hv
        clear hv
        rcases Bool.eq_false_or_eq_true (rightV v) with hz | hz
        · have HZ := Lib.hid hz
          clear hz
          go_wp2_with (go_at_call 51; refine (ref_right v _).mono ?_; rintro e w' ⟨rfl, hb2⟩; rw [HZ.out])
          go_roundw
          case rel => exact ⟨k + 1, by omega, by go_num, by rw [HC.out, all_drop _ _ _ HV.out, HZ.out, Bool.true_and], HB.out.trans (hb2.mono HB.out.size)⟩
          case measure => simp [intOf]; omega
        · have HZ := Lib.hid hz
          clear hz
          go_wp2_with (go_at_call 51; refine (ref_right v _).mono ?_; rintro e w' ⟨rfl, hb2⟩; rw [HZ.out])
          go_ret
          exact ⟨ret_bool (by rw [HR.out, HC.out, all_drop _ _ _ HV.out, HZ.out, Bool.false_and]), HB.out.trans (hb2.mono HB.out.size)⟩
      · go_wp2
        go_ret
        exact ⟨ret_bool (by rw [HR.out, HC.out, List.drop_of_length_le (by rw [← HN.out]; omega)]; rfl), HB.out⟩
  · have hr : rightR xs = false := by unfold rightR; rw [← HN.out]; simp [h0]
    have HR := Lib.hid hr
    clear hr
    go_enter Try.func33, Try.ntmps33
    go_wp2
    go_ret
    exact ⟨ret_bool (by rw [HR.out]), Below.refl _ _⟩
end Go.Proofs.Ytpliofhphijdkaa
