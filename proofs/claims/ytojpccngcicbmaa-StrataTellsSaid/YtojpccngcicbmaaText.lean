/-
  The document's own comparison of two texts, and of two values, answer the plain order, at every input and in every world; nothing that was there is changed.
  No condition but that a text is no longer than a text can be.
-/
import Derived.Test.YtojpccngcicbmaaVal
namespace Go.Proofs.Ytojpccngcicbmaa
open Go.RowKit

/-- -1, 0, 1: which of two lists of bytes goes ahead. -/
def cmpL : List UInt8 → List UInt8 → Int
  | [], [] => 0
  | [], _ :: _ => -1
  | _ :: _, [] => 1
  | a :: x, b :: y => if a < b then -1 else if b < a then 1 else cmpL x y

theorem cmpL_cut : ∀ (x y : List UInt8), cmpL x y = if Op.bytesLess x y = true then -1 else if (x == y) = true then 0 else 1
  | [], [] => by simp [cmpL, Op.bytesLess]
  | [], _ :: _ => by simp [cmpL, Op.bytesLess]
  | _ :: _, [] => by simp [cmpL, Op.bytesLess]
  | a :: x, b :: y => by
    have ih := cmpL_cut x y
    unfold cmpL
    by_cases h1 : a < b
    · simp [Op.bytesLess, h1]
    · by_cases h2 : b < a
      · have h3 : ¬ a = b := by
          rintro rfl
          exact h1 h2
        simp [Op.bytesLess, h1, h2, h3]
      · have h3 : a = b := by
          apply UInt8.toNat_inj.1
          rw [UInt8.lt_iff_toNat_lt] at h1 h2
          omega
        subst h3
        simp only [Op.bytesLess, h1, if_false, ih]
        simp

theorem cmpS_list (a b : ByteArray) : cmpS a b = cmpL a.data.toList b.data.toList := by
  rw [cmpL_cut]
  unfold cmpS
  rw [ByteArray.toList_eq, ByteArray.toList_eq]

theorem cmpL_drop : ∀ (k : Nat) (x y : List UInt8) (h : k < x.length) (h' : k < y.length), cmpL (x.drop k) (y.drop k) = if x[k] < y[k] then -1 else if y[k] < x[k] then 1 else cmpL (x.drop (k + 1)) (y.drop (k + 1)) := by
  intro k x y h h'
  rw [List.drop_eq_getElem_cons h, List.drop_eq_getElem_cons h']
  rfl

theorem cmpL_endl (k : Nat) (x y : List UInt8) (h : k = x.length) (hy : k ≤ y.length) : cmpL (x.drop k) (y.drop k) = if x.length < y.length then -1 else 0 := by
  subst h
  rw [List.drop_length]
  by_cases hl : x.length < y.length
  · rw [List.drop_eq_getElem_cons hl, if_pos hl]
    rfl
  · rw [if_neg hl, List.drop_of_length_le (by omega)]
    rfl
theorem cmpL_endr (k : Nat) (x y : List UInt8) (h : k = y.length) (hx : k < x.length) : cmpL (x.drop k) (y.drop k) = 1 := by
  subst h
  rw [List.drop_length, List.drop_eq_getElem_cons hx]
  rfl

theorem drewN2 (w : World) (a b : Nat) : ∃ n, (w.drewN a).drewN b = w.drewN n := ⟨a + b, World.drewN_drewN _ _ _⟩
theorem drewN3 (w : World) (a b c : Nat) : ∃ n, ((w.drewN a).drewN b).drewN c = w.drewN n := ⟨a + (b + c), by rw [World.drewN_drewN, World.drewN_drewN]⟩

set_option maxHeartbeats 1000000 in
theorem ref_text (a b : ByteArray) (w : World) (ha : a.size ≤ maxLen) : Calls Try.prog 32 #[.string a, .string b] w fun e w' => e = .returned (.int .i64 (cmpS a b)) ∧ ∃ n, w' = w.drewN n := by
  rw [cmpS_list]
  unfold maxLen at ha
  go_enter Try.func32, Try.ntmps32
  go_wp2
  go_loopw [5] (fun i wr => ∃ k : Nat, k ≤ a.size ∧ k ≤ b.size ∧ i = .int .i64 k ∧ cmpL a.data.toList b.data.toList = cmpL (a.data.toList.drop k) (b.data.toList.drop k) ∧ ∃ n, wr = w.drewN n) (fun i _ => a.size - (intOf i).toNat)
  case atStart => exact ⟨0, Nat.zero_le _, Nat.zero_le _, rfl, rfl, 0, rfl⟩
  case round =>
    obtain ⟨k, hka, hkb, rfl, hc, n, rfl⟩ := hrel
    have HC := Lib.hid hc
    clear hc
    by_cases h1 : k < a.size
    · by_cases h2 : k < b.size
      · have HD := Lib.hid (cmpL_drop k a.data.toList b.data.toList h1 h2)
        by_cases h3 : (a[k].toNat : Int) < (b[k].toNat : Int)
        · go_wp2
          go_quiet (fail)
          go_wp2
          go_ret
          exact ⟨ret_int (by rw [HC.out, HD.out, if_pos (UInt8.lt_iff_toNat_lt.2 (by have : a.data.toList[k].toNat = a[k].toNat := rfl; have : b.data.toList[k].toNat = b[k].toNat := rfl; omega))]), drewN2 _ _ _⟩
        · by_cases h4 : (b[k].toNat : Int) < (a[k].toNat : Int)
          · go_wp2
            go_quiet (fail)
            go_wp2
            go_quiet (fail)
            go_wp2
            go_ret
            have e1 : ¬ a.data.toList[k] < b.data.toList[k] := by
              rw [UInt8.lt_iff_toNat_lt]
              have e1 : a.data.toList[k].toNat = a[k].toNat := rfl
              have e2 : b.data.toList[k].toNat = b[k].toNat := rfl
              omega
            have e2 : b.data.toList[k] < a.data.toList[k] := by
              rw [UInt8.lt_iff_toNat_lt]
              have e1 : a.data.toList[k].toNat = a[k].toNat := rfl
              have e2 : b.data.toList[k].toNat = b[k].toNat := rfl
              omega
            exact ⟨ret_int (by rw [HC.out, HD.out, if_neg e1, if_pos e2]), drewN3 _ _ _ _⟩
          · go_wp2
            go_quiet (fail)
            go_wp2
            go_quiet (fail)
            go_wp2
            go_roundw
            case rel =>
              have e1 : ¬ a.data.toList[k] < b.data.toList[k] := by
                rw [UInt8.lt_iff_toNat_lt]
                have e1 : a.data.toList[k].toNat = a[k].toNat := rfl
                have e2 : b.data.toList[k].toNat = b[k].toNat := rfl
                omega
              have e2 : ¬ b.data.toList[k] < a.data.toList[k] := by
                rw [UInt8.lt_iff_toNat_lt]
                have e1 : a.data.toList[k].toNat = a[k].toNat := rfl
                have e2 : b.data.toList[k].toNat = b[k].toNat := rfl
                omega
              exact ⟨k + 1, by omega, by omega, by go_num, by rw [HC.out, HD.out, if_neg e1, if_neg e2], _, rfl⟩
            case measure => simp [intOf]; omega
      · have hk : k = b.data.toList.length := by
          have : b.data.toList.length = b.size := rfl
          omega
        have HE := Lib.hid (cmpL_endr k a.data.toList b.data.toList hk h1)
        have hlt : b.size < a.size := by omega
        clear hk
        go_wp2
        go_ret
        exact ⟨ret_int (by rw [HC.out, HE.out]), _, rfl⟩
    · have hk : k = a.data.toList.length := by
        have : a.data.toList.length = a.size := rfl
        omega
      have HE := Lib.hid (cmpL_endl k a.data.toList b.data.toList hk hkb)
      clear hk
      by_cases hlt : a.size < b.size
      · go_wp2
        go_ret
        exact ⟨ret_int (by rw [HC.out, HE.out]; exact (if_pos hlt).symm), _, rfl⟩
      · have hge : ¬ b.size < a.size := by omega
        go_wp2
        go_ret
        exact ⟨ret_int (by rw [HC.out, HE.out]; exact (if_neg hlt).symm), _, rfl⟩

end Go.Proofs.Ytojpccngcicbmaa
