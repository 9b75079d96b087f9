/-
  The signs, the reserved words and the first byte of a text: what the functions of package lex that ask them answer; nothing is changed.
  No condition.
-/
import Derived.Test.YtmdkjhnafnblkaaDoorLxq
import Derived.Shelf.Strings.SlTrimAscii
namespace Go.Proofs.YtmdkjhnafnblkaaDoor
open Go.RowKit

/-- A comparison's sign. -/
def sgnS (op : Int) : List UInt8 :=
  if op = 1 then [61, 61] else if op = 2 then [33, 61] else if op = 3 then [60] else if op = 4 then [60, 61] else if op = 5 then [62] else if op = 6 then [62, 61] else []
/-- The comparison that a sign is. -/
def opF (l : List UInt8) : Int :=
  if l = [61, 61] then 1 else if l = [33, 61] then 2 else if l = [60] then 3 else if l = [60, 61] then 4 else if l = [62] then 5 else if l = [62, 61] then 6 else 0

set_option maxHeartbeats 1000000 in
theorem lx_sgn (op : Int) (w : World) : Calls Tryd.prog 15 #[.int .i64 op] w fun e w' => e = .returned (.string ⟨(sgnS op).toArray⟩) ∧ w = w' := by
  by_cases h1 : op = 1
  · subst h1
    go_enter Tryd.func15, Tryd.ntmps15
    go_wp2
    go_ret
    exact ⟨rfl, rfl⟩
  have b1 : (op == 1) = false := by simpa using h1
  by_cases h2 : op = 2
  · subst h2
    clear h1 b1
    go_enter Tryd.func15, Tryd.ntmps15
    go_wp2
    go_ret
    exact ⟨rfl, rfl⟩
  have b2 : (op == 2) = false := by simpa using h2
  by_cases h3 : op = 3
  · subst h3
    clear h1 b1 h2 b2
    go_enter Tryd.func15, Tryd.ntmps15
    go_wp2
    go_ret
    exact ⟨rfl, rfl⟩
  have b3 : (op == 3) = false := by simpa using h3
  by_cases h4 : op = 4
  · subst h4
    clear h1 b1 h2 b2 h3 b3
    go_enter Tryd.func15, Tryd.ntmps15
    go_wp2
    go_ret
    exact ⟨rfl, rfl⟩
  have b4 : (op == 4) = false := by simpa using h4
  by_cases h5 : op = 5
  · subst h5
    clear h1 b1 h2 b2 h3 b3 h4 b4
    go_enter Tryd.func15, Tryd.ntmps15
    go_wp2
    go_ret
    exact ⟨rfl, rfl⟩
  have b5 : (op == 5) = false := by simpa using h5
  by_cases h6 : op = 6
  · subst h6
    clear h1 b1 h2 b2 h3 b3 h4 b4 h5 b5
    go_enter Tryd.func15, Tryd.ntmps15
    go_wp2
    go_ret
    exact ⟨rfl, rfl⟩
  have b6 : (op == 6) = false := by simpa using h6
  have hs : sgnS op = [] := by unfold sgnS; rw [if_neg h1, if_neg h2, if_neg h3, if_neg h4, if_neg h5, if_neg h6]
  rw [hs]
  clear h1 h2 h3 h4 h5 h6 hs
  go_enter Tryd.func15, Tryd.ntmps15
  go_wp2
  go_ret
  exact ⟨rfl, rfl⟩

theorem op_at (l : List UInt8) (k : Nat) (h1 : 1 ≤ k) (h6 : k ≤ 6) (h : sgnS k = l) : opF l = k := by
  subst h
  have : k = 1 ∨ k = 2 ∨ k = 3 ∨ k = 4 ∨ k = 5 ∨ k = 6 := by omega
  rcases this with rfl | rfl | rfl | rfl | rfl | rfl <;> rfl
theorem op_none (l : List UInt8) (h : ∀ j : Nat, 1 ≤ j → j < 7 → sgnS j ≠ l) : opF l = 0 := by
  unfold opF
  rw [if_neg (fun e => h 1 (by omega) (by omega) e.symm), if_neg (fun e => h 2 (by omega) (by omega) e.symm), if_neg (fun e => h 3 (by omega) (by omega) e.symm), if_neg (fun e => h 4 (by omega) (by omega) e.symm), if_neg (fun e => h 5 (by omega) (by omega) e.symm), if_neg (fun e => h 6 (by omega) (by omega) e.symm)]

set_option maxHeartbeats 1000000 in
theorem lx_op (s : ByteArray) (w : World) : Calls Tryd.prog 13 #[.string s] w fun e w' => e = .returned (.int .i64 (opF s.data.toList)) ∧ w = w' := by
  have htl : s.toList = s.data.toList := ByteArray.toList_eq s
  have HTL := Lib.hid htl
  clear htl
  go_enter Tryd.func13, Tryd.ntmps13
  go_wp2
  go_loop [3] (fun i => ∃ k : Nat, 1 ≤ k ∧ k ≤ 7 ∧ i = .int .i64 k ∧ Hid (∀ j : Nat, 1 ≤ j → j < k → sgnS j ≠ s.data.toList)) (fun i => 7 - (intOf i).toNat)
  case atStart => exact ⟨1, by omega, by omega, rfl, Lib.hid (fun j h1 h2 => by omega)⟩
  case round =>
    obtain ⟨k, hk1, hk7, rfl, HJ⟩ := hrel
    by_cases hk : k ≤ 6
    · by_cases he : sgnS k = s.data.toList
      · have b1 : (sgnS (k : Int) == s.toList) = true := by rw [HTL.out, he]; simp
        have HE := Lib.hid (op_at _ k hk1 hk he)
        clear he
        go_wp2_with (go_at_call 15; refine (lx_sgn _ _).mono ?_; rintro e w' ⟨rfl, rfl⟩)
        go_ret
        exact ⟨by rw [HE.out]; rfl, rfl⟩
      · have b1 : (sgnS (k : Int) == s.toList) = false := by rw [HTL.out]; simpa using he
        have HE := Lib.hid he
        clear he
        go_wp2_with (go_at_call 15; refine (lx_sgn _ _).mono ?_; rintro e w' ⟨rfl, rfl⟩)
        go_round
        case rel =>
          refine ⟨k + 1, by omega, by omega, by go_num, Lib.hid (fun j h1 h2 => ?_)⟩
          by_cases h3 : j = k
          · subst h3; exact HE.out
          · exact HJ.out j h1 (by omega)
        case measure => simp [intOf]; omega
    · have HE := Lib.hid (op_none _ (fun j h1 h2 => HJ.out j h1 (by omega)))
      go_wp2
      go_ret
      exact ⟨by rw [HE.out]; rfl, rfl⟩

/-- Is it a sign? -/
def isSg (l : List UInt8) : Bool := if l = [40] ∨ l = [41] ∨ l = [44] ∨ l = [95] then true else decide (opF l ≠ 0)

set_option maxHeartbeats 1000000 in
theorem lx_isSign (s : ByteArray) (w : World) : Calls Tryd.prog 48 #[.string s] w fun e w' => e = .returned (.bool (isSg s.data.toList)) ∧ w = w' := by
  have htl : s.toList = s.data.toList := ByteArray.toList_eq s
  by_cases h1 : s.data.toList = [40]
  · have hs : isSg s.data.toList = true := if_pos (.inl h1)
    rw [hs]
    have b1 : (s.toList == [40]) = true := by rw [htl, h1]; rfl
    clear h1 hs htl
    go_enter Tryd.func48, Tryd.ntmps48
    go_wp2
    go_ret
    exact ⟨rfl, rfl⟩
  have b1 : (s.toList == [40]) = false := by rw [htl]; simpa using h1
  by_cases h2 : s.data.toList = [41]
  · have hs : isSg s.data.toList = true := if_pos (.inr (.inl h2))
    rw [hs]
    have b2 : (s.toList == [41]) = true := by rw [htl, h2]; rfl
    clear h1 h2 hs htl
    go_enter Tryd.func48, Tryd.ntmps48
    go_wp2
    go_ret
    exact ⟨rfl, rfl⟩
  have b2 : (s.toList == [41]) = false := by rw [htl]; simpa using h2
  by_cases h3 : s.data.toList = [44]
  · have hs : isSg s.data.toList = true := if_pos (.inr (.inr (.inl h3)))
    rw [hs]
    have b3 : (s.toList == [44]) = true := by rw [htl, h3]; rfl
    clear h1 h2 h3 hs htl
    go_enter Tryd.func48, Tryd.ntmps48
    go_wp2
    go_ret
    exact ⟨rfl, rfl⟩
  have b3 : (s.toList == [44]) = false := by rw [htl]; simpa using h3
  by_cases h4 : s.data.toList = [95]
  · have hs : isSg s.data.toList = true := if_pos (.inr (.inr (.inr h4)))
    rw [hs]
    have b4 : (s.toList == [95]) = true := by rw [htl, h4]; rfl
    clear h1 h2 h3 h4 hs htl
    go_enter Tryd.func48, Tryd.ntmps48
    go_wp2
    go_ret
    exact ⟨rfl, rfl⟩
  have b4 : (s.toList == [95]) = false := by rw [htl]; simpa using h4
  have hs : isSg s.data.toList = decide (opF s.data.toList ≠ 0) := by
    unfold isSg
    rw [if_neg (by rintro (h | h | h | h) <;> contradiction)]
  rw [hs]
  clear h1 h2 h3 h4 hs htl
  obtain ⟨z, hz⟩ : ∃ z, z = opF s.data.toList := ⟨_, rfl⟩
  rw [← hz]
  have HZ := Lib.hid hz
  clear hz
  go_enter Tryd.func48, Tryd.ntmps48
  go_wp2_with (go_at_call 13; refine (lx_op _ _).mono ?_; rintro e w' ⟨rfl, rfl⟩; rw [← HZ.out])
  go_ret
  refine ⟨?_, rfl⟩
  by_cases h : z = 0 <;> simp [h]
end Go.Proofs.YtmdkjhnafnblkaaDoor
