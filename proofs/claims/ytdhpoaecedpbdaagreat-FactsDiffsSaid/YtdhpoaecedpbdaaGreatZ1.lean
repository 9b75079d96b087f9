/-
  The calls that compare two integers, two texts or two truths answer -1, 0 or 1 by the plain order, at every input and in every world, and change nothing.
  No condition.
  Compare of package value, and the document's own comparison beside it, answer the plain order of two values, at every two values and in every world; nothing that was there is changed.
  No condition.
  The document's own comparison of two texts, and of two values, answer the plain order, at every input and in every world; nothing that was there is changed.
  No condition but that a text is no longer than a text can be.
-/
import Derived.Test.YtdhpoaecedpbdaaGreatProg
import Derived.WalkKit
import Derived.WalkSpells
import Derived.WalkLawsBesides
import Derived.Lib.Hide
import Derived.Deep.QuietTactic
import Derived.BigQuiet
namespace Go.Proofs.YtdhpoaecedpbdaaGreat
section
open Go.RowKit

/-- -1, 0, 1: which of two numbers goes ahead. -/
def cmpI (a b : Int) : Int := if a < b then -1 else if b < a then 1 else 0
/-- -1, 0, 1: which of two texts goes ahead. -/
def cmpS (a b : ByteArray) : Int := if Op.bytesLess a.toList b.toList = true then -1 else if (a.toList == b.toList) = true then 0 else 1
/-- -1, 0, 1: which of two truths goes ahead. -/
def cmpB (a b : Bool) : Int := if a = b then 0 else if b = true then -1 else 1

set_option maxHeartbeats 400000 in
theorem isNaN_int (a : Int) (w : World) : Calls Tryz.prog 195 #[.int .i64 a] w fun e w' => e = .returned (.bool false) ∧ w = w' := by
  go_enter Tryz.func195, Tryz.ntmps195
  go_wp2
  go_ret
  exact ⟨by simp, rfl⟩
set_option maxHeartbeats 400000 in
theorem isNaN_int64 (a : Int) (w : World) : Calls Tryz.prog 196 #[.int .i64 a] w fun e w' => e = .returned (.bool false) ∧ w = w' := by
  go_enter Tryz.func196, Tryz.ntmps196
  go_wp2
  go_ret
  exact ⟨by simp, rfl⟩
set_option maxHeartbeats 400000 in
theorem isNaN_string (a : ByteArray) (w : World) : Calls Tryz.prog 116 #[.string a] w fun e w' => e = .returned (.bool false) ∧ w = w' := by
  go_enter Tryz.func116, Tryz.ntmps116
  go_wp2
  go_ret
  exact ⟨by simp, rfl⟩

set_option maxHeartbeats 400000 in
theorem cmp_int (a b : Int) (w : World) : Calls Tryz.prog 192 #[.int .i64 a, .int .i64 b] w fun e w' => e = .returned (.int .i64 (cmpI a b)) ∧ w = w' := by
  unfold cmpI
  go_enter Tryz.func192, Tryz.ntmps192
  go_wp2_with (go_at_call 195; refine (isNaN_int _ _).mono ?_; rintro e w' ⟨rfl, rfl⟩)
  all_goals go_ret
  all_goals exact ⟨by simp [*], rfl⟩
set_option maxHeartbeats 400000 in
theorem cmp_int64 (a b : Int) (w : World) : Calls Tryz.prog 194 #[.int .i64 a, .int .i64 b] w fun e w' => e = .returned (.int .i64 (cmpI a b)) ∧ w = w' := by
  unfold cmpI
  go_enter Tryz.func194, Tryz.ntmps194
  go_wp2_with (go_at_call 196; refine (isNaN_int64 _ _).mono ?_; rintro e w' ⟨rfl, rfl⟩)
  all_goals go_ret
  all_goals exact ⟨by simp [*], rfl⟩
set_option maxHeartbeats 400000 in
theorem cmp_string (a b : ByteArray) (w : World) : Calls Tryz.prog 85 #[.string a, .string b] w fun e w' => e = .returned (.int .i64 (cmpS a b)) ∧ w = w' := by
  have H : ∀ x y : Bool, Op.bytesLess a.toList b.toList = x → (a.toList == b.toList) = y → cmpS a b = if x = true then -1 else if y = true then 0 else 1 := by
    intro x y hx hy
    unfold cmpS
    rw [hx, hy]
  have H' := Lib.hid H
  clear H
  rcases Bool.eq_false_or_eq_true (Op.bytesLess a.toList b.toList) with h1 | h1 <;> rcases Bool.eq_false_or_eq_true (a.toList == b.toList) with h2 | h2
  all_goals
    go_enter Tryz.func85, Tryz.ntmps85
    go_wp2_with (go_at_call 116; refine (isNaN_string _ _).mono ?_; rintro e w' ⟨rfl, rfl⟩)
    go_ret
    exact ⟨by rw [H'.out _ _ h1 h2]; rfl, rfl⟩
set_option maxHeartbeats 400000 in
theorem cmp_flags (a b : Bool) (w : World) : Calls Tryz.prog 193 #[.bool a, .bool b] w fun e w' => e = .returned (.int .i64 (cmpB a b)) ∧ w = w' := by
  cases a <;> cases b
  all_goals
    go_enter Tryz.func193, Tryz.ntmps193
    go_wp2
    go_ret
    exact ⟨by simp [cmpB], rfl⟩
end
end Go.Proofs.YtdhpoaecedpbdaaGreat
namespace Go.Proofs.YtdhpoaecedpbdaaGreat
section
open Go.RowKit

/-- A value: its kind, its truth, its number, its text. -/
structure V where
  k : Int
  f : Bool
  n : Int
  t : ByteArray

/-- A value as the program holds it. -/
abbrev V.val (v : V) : Value := .agg #[.int .i64 v.k, .bool v.f, .int .i64 v.n, .string v.t]

/-- -1, 0, 1: which of two values goes ahead. -/
def cmpV (a b : V) : Int := if a.k < b.k then -1 else if b.k < a.k then 1 else if a.k = 1 then cmpB a.f b.f else if a.k = 2 then cmpI a.n b.n else if a.k = 3 then cmpS a.t b.t else 0

theorem one_new (w : World) (o : Obj) : Below w.heap.size w (w.alloc o) := (Below.refl _ _).alloc (Nat.le_refl _) _
theorem two_new (w : World) (o p : Obj) : Below w.heap.size w ((w.alloc o).alloc p) := (one_new w o).alloc (by simp) _
theorem below_drewN' {B : Nat} {a w : World} (h : Below B a w) (n : Nat) : Below B a (w.drewN n) := ⟨h.os, h.tape, h.output, h.size, h.block⟩

theorem ret_int {k : IntKind} {a b : Int} (h : a = b) : Ending.returned (.int k a) = .returned (.int k b) := by rw [h]
theorem ret_bool {a b : Bool} (h : a = b) : Ending.returned (.bool a) = .returned (.bool b) := by rw [h]

set_option maxHeartbeats 400000 in
theorem cmp_val (a b : V) (w : World) : Calls Tryz.prog 188 #[a.val, b.val] w fun e w' => e = .returned (.int .i64 (cmpV a b)) ∧ Below w.heap.size w w' := by
  obtain ⟨k, f, n, t⟩ := a
  obtain ⟨k', f', n', t'⟩ := b
  show Calls Tryz.prog 188 #[.agg #[.int .i64 k, .bool f, .int .i64 n, .string t], .agg #[.int .i64 k', .bool f', .int .i64 n', .string t']] w _
  by_cases hk : k = k'
  · subst hk
    by_cases h1 : k = 1
    · subst h1
      go_enter Tryz.func188, Tryz.ntmps188
      go_wp2_with (go_at_call 193; refine (cmp_flags _ _ _).mono ?_; rintro e w' ⟨rfl, rfl⟩)
      go_ret
      exact ⟨ret_int (by simp [cmpV]), two_new _ _ _⟩
    · by_cases h2 : k = 2
      · subst h2
        clear h1
        go_enter Tryz.func188, Tryz.ntmps188
        go_wp2_with (go_at_call 194; refine (cmp_int64 _ _ _).mono ?_; rintro e w' ⟨rfl, rfl⟩)
        go_ret
        exact ⟨ret_int (by simp [cmpV]), two_new _ _ _⟩
      · by_cases h3 : k = 3
        · subst h3
          clear h1 h2
          go_enter Tryz.func188, Tryz.ntmps188
          go_wp2_with (go_at_call 85; refine (cmp_string _ _ _).mono ?_; rintro e w' ⟨rfl, rfl⟩)
          go_ret
          exact ⟨ret_int (by simp [cmpV]), two_new _ _ _⟩
        · go_enter Tryz.func188, Tryz.ntmps188
          go_wp2
          go_ret
          exact ⟨ret_int (by simp [cmpV, h1, h2, h3]), two_new _ _ _⟩
  · go_enter Tryz.func188, Tryz.ntmps188
    go_wp2_with (go_at_call 192; refine (cmp_int _ _ _).mono ?_; rintro e w' ⟨rfl, rfl⟩)
    go_ret
    refine ⟨ret_int ?_, two_new _ _ _⟩
    unfold cmpI cmpV
    by_cases h : k < k'
    · simp [h]
    · have h' : k' < k := by omega
      simp [h, h']
end
end Go.Proofs.YtdhpoaecedpbdaaGreat
namespace Go.Proofs.YtdhpoaecedpbdaaGreat
section
open Go.RowKit

/-- -1, 0, 1: which of two lists of bytes goes ahead. -/
def cmpL : List UInt8 → List UInt8 → Int
  | [], [] => 0
  | [], _ :: _ => -1
  | _ :: _, [] => 1
  | a :: x, b :: y => if a < b then -1 else if b < a then 1 else cmpL x y

theorem cmpL_cut : ∀ (x y : List UInt8), cmpL x y = if Op.bytesLess x y = true then -1 else if (x == y) = true then 0 else 1
  | [], [] => by simp [cmpL, Op.bytesLess]
  | [], _ :: _ => by simp [cmpL, Op.bytesLess]
  | _ :: _, [] => by simp [cmpL, Op.bytesLess]
  | a :: x, b :: y => by
    have ih := cmpL_cut x y
    unfold cmpL
    by_cases h1 : a < b
    · simp [Op.bytesLess, h1]
    · by_cases h2 : b < a
      · have h3 : ¬ a = b := by
          rintro rfl
          exact h1 h2
        simp [Op.bytesLess, h1, h2, h3]
      · have h3 : a = b := by
          apply UInt8.toNat_inj.1
          rw [UInt8.lt_iff_toNat_lt] at h1 h2
          omega
        subst h3
        simp only [Op.bytesLess, h1, if_false, ih]
        simp

theorem cmpS_list (a b : ByteArray) : cmpS a b = cmpL a.data.toList b.data.toList := by
  rw [cmpL_cut]
  unfold cmpS
  rw [ByteArray.toList_eq, ByteArray.toList_eq]

theorem cmpL_drop : ∀ (k : Nat) (x y : List UInt8) (h : k < x.length) (h' : k < y.length), cmpL (x.drop k) (y.drop k) = if x[k] < y[k] then -1 else if y[k] < x[k] then 1 else cmpL (x.drop (k + 1)) (y.drop (k + 1)) := by
  intro k x y h h'
  rw [List.drop_eq_getElem_cons h, List.drop_eq_getElem_cons h']
  rfl

theorem cmpL_endl (k : Nat) (x y : List UInt8) (h : k = x.length) (hy : k ≤ y.length) : cmpL (x.drop k) (y.drop k) = if x.length < y.length then -1 else 0 := by
  subst h
  rw [List.drop_length]
  by_cases hl : x.length < y.length
  · rw [List.drop_eq_getElem_cons hl, if_pos hl]
    rfl
  · rw [if_neg hl, List.drop_of_length_le (by omega)]
    rfl
theorem cmpL_endr (k : Nat) (x y : List UInt8) (h : k = y.length) (hx : k < x.length) : cmpL (x.drop k) (y.drop k) = 1 := by
  subst h
  rw [List.drop_length, List.drop_eq_getElem_cons hx]
  rfl

theorem drewN2 (w : World) (a b : Nat) : ∃ n, (w.drewN a).drewN b = w.drewN n := ⟨a + b, World.drewN_drewN _ _ _⟩
theorem drewN3 (w : World) (a b c : Nat) : ∃ n, ((w.drewN a).drewN b).drewN c = w.drewN n := ⟨a + (b + c), by rw [World.drewN_drewN, World.drewN_drewN]⟩

set_option maxHeartbeats 1000000 in
theorem ref_text (a b : ByteArray) (w : World) (ha : a.size ≤ maxLen) : Calls Tryz.prog 68 #[.string a, .string b] w fun e w' => e = .returned (.int .i64 (cmpS a b)) ∧ ∃ n, w' = w.drewN n := by
  rw [cmpS_list]
  unfold maxLen at ha
  go_enter Tryz.func68, Tryz.ntmps68
  go_wp2
  go_loopw [5] (fun i wr => ∃ k : Nat, k ≤ a.size ∧ k ≤ b.size ∧ i = .int .i64 k ∧ cmpL a.data.toList b.data.toList = cmpL (a.data.toList.drop k) (b.data.toList.drop k) ∧ ∃ n, wr = w.drewN n) (fun i _ => a.size - (intOf i).toNat)
  case atStart => exact ⟨0, Nat.zero_le _, Nat.zero_le _, rfl, rfl, 0, rfl⟩
  case round =>
    obtain ⟨k, hka, hkb, rfl, hc, n, rfl⟩ := hrel
    have HC := Lib.hid hc
    clear hc
    by_cases h1 : k < a.size
    · by_cases h2 : k < b.size
      · have HD := Lib.hid (cmpL_drop k a.data.toList b.data.toList h1 h2)
        by_cases h3 : (a[k].toNat : Int) < (b[k].toNat : Int)
        · go_wp2
          go_quiet (fail)
          go_wp2
          go_ret
          exact ⟨ret_int (by rw [HC.out, HD.out, if_pos (UInt8.lt_iff_toNat_lt.2 (by have : a.data.toList[k].toNat = a[k].toNat := rfl; have : b.data.toList[k].toNat = b[k].toNat := rfl; omega))]), drewN2 _ _ _⟩
        · by_cases h4 : (b[k].toNat : Int) < (a[k].toNat : Int)
          · go_wp2
            go_quiet (fail)
            go_wp2
            go_quiet (fail)
            go_wp2
            go_ret
            have e1 : ¬ a.data.toList[k] < b.data.toList[k] := by
              rw [UInt8.lt_iff_toNat_lt]
              have e1 : a.data.toList[k].toNat = a[k].toNat := rfl
              have e2 : b.data.toList[k].toNat = b[k].toNat := rfl
              omega
            have e2 : b.data.toList[k] < a.data.toList[k] := by
              rw [UInt8.lt_iff_toNat_lt]
              have e1 : a.data.toList[k].toNat = a[k].toNat := rfl
              have e2 : b.data.toList[k].toNat = b[k].toNat := rfl
              omega
            exact ⟨ret_int (by rw [HC.out, HD.out, if_neg e1, if_pos e2]), drewN3 _ _ _ _⟩
          · go_wp2
            go_quiet (fail)
            go_wp2
            go_quiet (fail)
            go_wp2
            go_roundw
            case rel =>
              have e1 : ¬ a.data.toList[k] < b.data.toList[k] := by
                rw [UInt8.lt_iff_toNat_lt]
                have e1 : a.data.toList[k].toNat = a[k].toNat := rfl
                have e2 : b.data.toList[k].toNat = b[k].toNat := rfl
                omega
              have e2 : ¬ b.data.toList[k] < a.data.toList[k] := by
                rw [UInt8.lt_iff_toNat_lt]
                have e1 : a.data.toList[k].toNat = a[k].toNat := rfl
                have e2 : b.data.toList[k].toNat = b[k].toNat := rfl
                omega
              exact ⟨k + 1, by omega, by omega, by go_num, by rw [HC.out, HD.out, if_neg e1, if_neg e2], _, rfl⟩
            case measure => simp [intOf]; omega
      · have hk : k = b.data.toList.length := by
          have : b.data.toList.length = b.size := rfl
          omega
        have HE := Lib.hid (cmpL_endr k a.data.toList b.data.toList hk h1)
        have hlt : b.size < a.size := by omega
        clear hk
        go_wp2
        go_ret
        exact ⟨ret_int (by rw [HC.out, HE.out]), _, rfl⟩
    · have hk : k = a.data.toList.length := by
        have : a.data.toList.length = a.size := rfl
        omega
      have HE := Lib.hid (cmpL_endl k a.data.toList b.data.toList hk hkb)
      clear hk
      by_cases hlt : a.size < b.size
      · go_wp2
        go_ret
        exact ⟨ret_int (by rw [HC.out, HE.out]; exact (if_pos hlt).symm), _, rfl⟩
      · have hge : ¬ b.size < a.size := by omega
        go_wp2
        go_ret
        exact ⟨ret_int (by rw [HC.out, HE.out]; exact (if_neg hlt).symm), _, rfl⟩

set_option maxHeartbeats 1000000 in
theorem ref_cmp (a b : V) (w : World) (ha : a.t.size ≤ maxLen) : Calls Tryz.prog 119 #[a.val, b.val] w fun e w' => e = .returned (.int .i64 (cmpV a b)) ∧ Below w.heap.size w w' := by
  obtain ⟨k, f, n, t⟩ := a
  obtain ⟨k', f', n', t'⟩ := b
  show Calls Tryz.prog 119 #[.agg #[.int .i64 k, .bool f, .int .i64 n, .string t], .agg #[.int .i64 k', .bool f', .int .i64 n', .string t']] w _
  have ha' : t.size ≤ maxLen := ha
  clear ha
  by_cases hk : k < k'
  · go_enter Tryz.func119, Tryz.ntmps119
    go_wp2
    go_ret
    exact ⟨ret_int (by simp [cmpV, hk]), two_new _ _ _⟩
  by_cases hk' : k' < k
  · go_enter Tryz.func119, Tryz.ntmps119
    go_wp2
    go_ret
    exact ⟨ret_int (by simp [cmpV, hk, hk']), two_new _ _ _⟩
  obtain rfl : k = k' := by omega
  clear hk hk'
  by_cases h1 : k = 1
  · subst h1
    cases f <;> cases f'
    all_goals
      go_enter Tryz.func119, Tryz.ntmps119
      go_wp2
      go_ret
      exact ⟨ret_int (by simp [cmpV, cmpB]), two_new _ _ _⟩
  by_cases h2 : k = 2
  · subst h2
    clear h1
    by_cases hn : n < n'
    · go_enter Tryz.func119, Tryz.ntmps119
      go_wp2
      go_ret
      exact ⟨ret_int (by simp [cmpV, cmpI, hn]), two_new _ _ _⟩
    by_cases hn' : n' < n
    · go_enter Tryz.func119, Tryz.ntmps119
      go_wp2
      go_ret
      exact ⟨ret_int (by simp [cmpV, cmpI, hn, hn']), two_new _ _ _⟩
    · go_enter Tryz.func119, Tryz.ntmps119
      go_wp2
      go_ret
      exact ⟨ret_int (by simp [cmpV, cmpI, Int.not_lt.2 hn, Int.not_lt.2 hn']), two_new _ _ _⟩
  by_cases h3 : k = 3
  · subst h3
    clear h1 h2
    have HA := Lib.hid ha'
    clear ha'
    go_enter Tryz.func119, Tryz.ntmps119
    go_wp2_with (go_at_call 68; refine (ref_text _ _ _ HA.out).mono ?_; rintro e w' ⟨rfl, nd, rfl⟩)
    go_ret
    exact ⟨ret_int (by simp [cmpV]), below_drewN' (two_new _ _ _) _⟩
  · go_enter Tryz.func119, Tryz.ntmps119
    go_wp2
    go_ret
    exact ⟨ret_int (by simp [cmpV, h1, h2, h3]), two_new _ _ _⟩
end
end Go.Proofs.YtdhpoaecedpbdaaGreat
