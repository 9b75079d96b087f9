/-
  The words of the language, the signs of comparisons, and the fixed calls that every statement of package lex makes.
  Condition: the library's variables are as the program's text lays them.
  The document's own words and signs, and the fixed calls that every statement of package lex makes, answer as they must; nothing that was there is changed.
  Condition: the library's variables are as the program's text lays them.
  LexWords and LexApart of verdererlaw11 answer true at every input; nothing that was there is changed.
  Condition: the library's variables are as the program's text lays them.
  Two tokens of the document that are the same are told to be the same.
  No condition.
-/
import Derived.KernelRfl
import Derived.Laws.StructEq
import Derived.Test.YtkobfngnnblpeaaGreatDoorM14
namespace Go.Proofs.YtkobfngnnblpeaaGreatDoor
section
open Go.RowKit

/-- The words of the language. -/
def resW : List (List UInt8) := [[100, 101, 110, 121], [118, 105, 101, 119], [113, 117, 111, 116, 97], [108, 105, 109, 105, 116], [105, 102], [110, 111, 116], [99, 111, 117, 110, 116], [115, 117, 109], [108, 101, 97, 115, 116], [109, 111, 115, 116]]
def resB (l : List UInt8) : Bool := resW.contains l

set_option maxRecDepth 100000 in
set_option maxHeartbeats 4000000 in
theorem lx_reserved (s : ByteArray) (w : World) : Calls Tryz.prog 101 #[.string s] w fun e w' => e = .returned (.bool (resB s.data.toList)) ∧ w = w' := by
  have htl : s.toList = s.data.toList := ByteArray.toList_eq s
  by_cases h0 : s.data.toList = [100, 101, 110, 121]
  · have hs : resB s.data.toList = true := by rw [h0]; rfl
    rw [hs]
    have b0 : (s.toList == [100, 101, 110, 121]) = true := by rw [htl, h0]; rfl
    clear h0 hs htl
    go_enter Tryz.func101, Tryz.ntmps101
    go_wp2
    go_ret
    exact ⟨rfl, rfl⟩
  have b0 : (s.toList == [100, 101, 110, 121]) = false := by rw [htl]; simpa using h0
  by_cases h1 : s.data.toList = [118, 105, 101, 119]
  · have hs : resB s.data.toList = true := by rw [h1]; rfl
    rw [hs]
    have b1 : (s.toList == [118, 105, 101, 119]) = true := by rw [htl, h1]; rfl
    clear h0 h1 hs htl
    go_enter Tryz.func101, Tryz.ntmps101
    go_wp2
    go_ret
    exact ⟨rfl, rfl⟩
  have b1 : (s.toList == [118, 105, 101, 119]) = false := by rw [htl]; simpa using h1
  by_cases h2 : s.data.toList = [113, 117, 111, 116, 97]
  · have hs : resB s.data.toList = true := by rw [h2]; rfl
    rw [hs]
    have b2 : (s.toList == [113, 117, 111, 116, 97]) = true := by rw [htl, h2]; rfl
    clear h0 h1 h2 hs htl
    go_enter Tryz.func101, Tryz.ntmps101
    go_wp2
    go_ret
    exact ⟨rfl, rfl⟩
  have b2 : (s.toList == [113, 117, 111, 116, 97]) = false := by rw [htl]; simpa using h2
  by_cases h3 : s.data.toList = [108, 105, 109, 105, 116]
  · have hs : resB s.data.toList = true := by rw [h3]; rfl
    rw [hs]
    have b3 : (s.toList == [108, 105, 109, 105, 116]) = true := by rw [htl, h3]; rfl
    clear h0 h1 h2 h3 hs htl
    go_enter Tryz.func101, Tryz.ntmps101
    go_wp2
    go_ret
    exact ⟨rfl, rfl⟩
  have b3 : (s.toList == [108, 105, 109, 105, 116]) = false := by rw [htl]; simpa using h3
  by_cases h4 : s.data.toList = [105, 102]
  · have hs : resB s.data.toList = true := by rw [h4]; rfl
    rw [hs]
    have b4 : (s.toList == [105, 102]) = true := by rw [htl, h4]; rfl
    clear h0 h1 h2 h3 h4 hs htl
    go_enter Tryz.func101, Tryz.ntmps101
    go_wp2
    go_ret
    exact ⟨rfl, rfl⟩
  have b4 : (s.toList == [105, 102]) = false := by rw [htl]; simpa using h4
  by_cases h5 : s.data.toList = [110, 111, 116]
  · have hs : resB s.data.toList = true := by rw [h5]; rfl
    rw [hs]
    have b5 : (s.toList == [110, 111, 116]) = true := by rw [htl, h5]; rfl
    clear h0 h1 h2 h3 h4 h5 hs htl
    go_enter Tryz.func101, Tryz.ntmps101
    go_wp2
    go_ret
    exact ⟨rfl, rfl⟩
  have b5 : (s.toList == [110, 111, 116]) = false := by rw [htl]; simpa using h5
  by_cases h6 : s.data.toList = [99, 111, 117, 110, 116]
  · have hs : resB s.data.toList = true := by rw [h6]; rfl
    rw [hs]
    have b6 : (s.toList == [99, 111, 117, 110, 116]) = true := by rw [htl, h6]; rfl
    clear h0 h1 h2 h3 h4 h5 h6 hs htl
    go_enter Tryz.func101, Tryz.ntmps101
    go_wp2
    go_ret
    exact ⟨rfl, rfl⟩
  have b6 : (s.toList == [99, 111, 117, 110, 116]) = false := by rw [htl]; simpa using h6
  by_cases h7 : s.data.toList = [115, 117, 109]
  · have hs : resB s.data.toList = true := by rw [h7]; rfl
    rw [hs]
    have b7 : (s.toList == [115, 117, 109]) = true := by rw [htl, h7]; rfl
    clear h0 h1 h2 h3 h4 h5 h6 h7 hs htl
    go_enter Tryz.func101, Tryz.ntmps101
    go_wp2
    go_ret
    exact ⟨rfl, rfl⟩
  have b7 : (s.toList == [115, 117, 109]) = false := by rw [htl]; simpa using h7
  by_cases h8 : s.data.toList = [108, 101, 97, 115, 116]
  · have hs : resB s.data.toList = true := by rw [h8]; rfl
    rw [hs]
    have b8 : (s.toList == [108, 101, 97, 115, 116]) = true := by rw [htl, h8]; rfl
    clear h0 h1 h2 h3 h4 h5 h6 h7 h8 hs htl
    go_enter Tryz.func101, Tryz.ntmps101
    go_wp2
    go_ret
    exact ⟨rfl, rfl⟩
  have b8 : (s.toList == [108, 101, 97, 115, 116]) = false := by rw [htl]; simpa using h8
  by_cases h9 : s.data.toList = [109, 111, 115, 116]
  · have hs : resB s.data.toList = true := by rw [h9]; rfl
    rw [hs]
    have b9 : (s.toList == [109, 111, 115, 116]) = true := by rw [htl, h9]; rfl
    clear h0 h1 h2 h3 h4 h5 h6 h7 h8 h9 hs htl
    go_enter Tryz.func101, Tryz.ntmps101
    go_wp2
    go_ret
    exact ⟨rfl, rfl⟩
  have b9 : (s.toList == [109, 111, 115, 116]) = false := by rw [htl]; simpa using h9
  have hs : resB s.data.toList = false := by
    unfold resB resW
    rw [← Bool.not_eq_true, List.contains_iff_mem]
    intro hm
    simp only [List.mem_cons, List.not_mem_nil, or_false] at hm
    rcases hm with h | h | h | h | h | h | h | h | h | h
    · exact h0 h
    · exact h1 h
    · exact h2 h
    · exact h3 h
    · exact h4 h
    · exact h5 h
    · exact h6 h
    · exact h7 h
    · exact h8 h
    · exact h9 h
  rw [hs]
  clear h0 h1 h2 h3 h4 h5 h6 h7 h8 h9 hs htl
  go_enter Tryz.func101, Tryz.ntmps101
  go_wp2
  go_ret
  exact ⟨rfl, rfl⟩

theorem resW_get : ∀ k : Nat, k < 10 → ∃ u, resW[k]? = some u := fun k h => ⟨_, List.getElem?_eq_getElem (by show k < 10; exact h)⟩
end
end Go.Proofs.YtkobfngnnblpeaaGreatDoor
namespace Go.Proofs.YtkobfngnnblpeaaGreatDoor
section
open Go.RowKit

abbrev strs (l : List (List UInt8)) : Array Value := (l.map fun u => Value.string ⟨u.toArray⟩).toArray
theorem strs_cell (w : World) (l : List (List UInt8)) (T : TypeId) (k : Nat) (u : List UInt8) (h : l[k]? = some u) : (w.alloc (.cells (strs l) T)).cell? ⟨w.heap.size, k, none⟩ = some (.string ⟨u.toArray⟩) := by
  rw [cell_of_row _ w.heap.size k _ T (0, 0) (heap_alloc_new w _)]
  simp [h]
theorem resB_at {l : List UInt8} {k : Nat} {u : List UInt8} (h : resW[k]? = some u) (e : u = l) : resB l = true := by
  subst e
  exact List.contains_iff_mem.2 (List.mem_of_getElem? h)
theorem resB_none {l : List UInt8} (h : ∀ (j : Nat) (u : List UInt8), j < 10 → resW[j]? = some u → u ≠ l) : resB l = false := by
  rw [← Bool.not_eq_true]
  intro hm
  obtain ⟨j, hj⟩ := List.mem_iff_getElem?.1 (List.contains_iff_mem.1 hm)
  exact h j l (by have := (List.getElem?_eq_some_iff.1 hj).1; exact this) hj rfl

set_option maxRecDepth 100000 in
set_option maxHeartbeats 2000000 in
theorem ref_reserved (s : ByteArray) (w : World) : Calls Tryz.prog 81 #[.string s] w fun e w' => e = .returned (.bool (resB s.data.toList)) ∧ w' = w.alloc (.cells (strs resW) 9) := by
  have htl : s.toList = s.data.toList := ByteArray.toList_eq s
  have HTL := Lib.hid htl
  clear htl
  obtain ⟨b, hb⟩ : ∃ b, b = resB s.data.toList := ⟨_, rfl⟩
  rw [← hb]
  have HB := Lib.hid hb
  clear hb
  have HC := Lib.hid (fun (k : Nat) (u : List UInt8) (h : resW[k]? = some u) => strs_cell w resW 9 k u h)
  obtain ⟨W, hW⟩ : ∃ W, W = w.alloc (.cells (strs resW) 9) := ⟨_, rfl⟩
  rw [← hW]
  rw [← hW] at HC
  have HW : Hid (w.alloc (.cells #[.string ⟨#[100, 101, 110, 121]⟩, .string ⟨#[118, 105, 101, 119]⟩, .string ⟨#[113, 117, 111, 116, 97]⟩, .string ⟨#[108, 105, 109, 105, 116]⟩, .string ⟨#[105, 102]⟩, .string ⟨#[110, 111, 116]⟩, .string ⟨#[99, 111, 117, 110, 116]⟩, .string ⟨#[115, 117, 109]⟩, .string ⟨#[108, 101, 97, 115, 116]⟩, .string ⟨#[109, 111, 115, 116]⟩] 9) = W) := Lib.hid hW.symm
  clear hW
  go_enter Tryz.func81, Tryz.ntmps81
  go_wp2
  rw [HW.out]
  go_loop [4] (fun i => ∃ k : Nat, k ≤ 10 ∧ i = .int .i64 k ∧ Hid (∀ (j : Nat) (u : List UInt8), j < k → resW[j]? = some u → u ≠ s.data.toList)) (fun i => 10 - (intOf i).toNat)
  case atStart => exact ⟨0, by omega, rfl, Lib.hid (fun j u h => by omega)⟩
  case round =>
    obtain ⟨k, hk, rfl, HJ⟩ := hrel
    by_cases hlt : k < 10
    · obtain ⟨u, hu⟩ := resW_get k hlt
      have hc := HC.out k u hu
      by_cases he : u = s.data.toList
      · have b1 : (u == s.toList) = true := by rw [HTL.out, he]; simp
        have HE := Lib.hid (resB_at hu he)
        clear he hu
        go_wp2
        go_ret
        exact ⟨by rw [HB.out, HE.out]; rfl, rfl⟩
      · have b1 : (u == s.toList) = false := by rw [HTL.out]; simpa using he
        have HE := Lib.hid he
        have HU := Lib.hid hu
        clear he hu
        go_wp2
        go_round
        case rel =>
          refine ⟨k + 1, by omega, by go_num, Lib.hid (fun j v h1 h2 => ?_)⟩
          by_cases h3 : j = k
          · subst h3
            rw [HU.out] at h2
            injection h2 with h2
            rw [← h2]
            exact HE.out
          · exact HJ.out j v (by omega) h2
        case measure => simp [intOf]; omega
    · have HE := Lib.hid (resB_none (fun j u h1 h2 => HJ.out j u (by omega) h2))
      go_wp2
      go_ret
      exact ⟨by rw [HB.out, HE.out]; rfl, rfl⟩

theorem sgnS_out (op : Int) (h : op < 1 ∨ 7 ≤ op) : sgnS op = [] := by
  unfold sgnS
  rw [if_neg (by omega), if_neg (by omega), if_neg (by omega), if_neg (by omega), if_neg (by omega), if_neg (by omega)]
def sgnW : List (List UInt8) := [[], [61, 61], [33, 61], [60], [60, 61], [62], [62, 61]]
theorem sgnW_at (k : Nat) (h1 : 1 ≤ k) (h : k < 7) : sgnW[k]? = some (sgnS k) := by
  have : k = 1 ∨ k = 2 ∨ k = 3 ∨ k = 4 ∨ k = 5 ∨ k = 6 := by omega
  rcases this with rfl | rfl | rfl | rfl | rfl | rfl <;> rfl

set_option maxRecDepth 100000 in
set_option maxHeartbeats 2000000 in
theorem ref_sgn (op : Int) (w : World) : Calls Tryz.prog 110 #[.int .i64 op] w fun e w' => e = .returned (.string ⟨(sgnS op).toArray⟩) ∧ w' = w.alloc (.cells (strs sgnW) 9) := by
  by_cases h1 : op < 1
  · rw [sgnS_out op (.inl h1)]
    go_enter Tryz.func110, Tryz.ntmps110
    go_wp2
    go_ret
    exact ⟨rfl, rfl⟩
  · by_cases h2 : 7 ≤ op
    · rw [sgnS_out op (.inr h2)]
      have d1 : decide (op < 1) = false := by simpa using h1
      go_enter Tryz.func110, Tryz.ntmps110
      go_wp2
      go_ret
      exact ⟨rfl, rfl⟩
    · obtain ⟨k, rfl⟩ : ∃ k : Nat, op = k := ⟨op.toNat, by omega⟩
      have hk1 : 1 ≤ k := by omega
      have hk7 : k < 7 := by omega
      have d1 : decide ((k : Int) < 1) = false := by simpa using h1
      have d2 : decide ((7 : Int) ≤ (k : Int)) = false := by simpa using h2
      have hcs : k = 1 ∨ k = 2 ∨ k = 3 ∨ k = 4 ∨ k = 5 ∨ k = 6 := by omega
      clear h1 h2 hk1 hk7 d1 d2
      rcases hcs with rfl | rfl | rfl | rfl | rfl | rfl
      all_goals
        go_enter Tryz.func110, Tryz.ntmps110
        go_wp2
        go_ret
        exact ⟨rfl, rfl⟩

set_option maxHeartbeats 1000000 in
theorem ref_op (s : ByteArray) (w : World) : Calls Tryz.prog 84 #[.string s] w fun e w' => e = .returned (.int .i64 (opF s.data.toList)) ∧ Below w.heap.size w w' := by
  have htl : s.toList = s.data.toList := ByteArray.toList_eq s
  have HTL := Lib.hid htl
  clear htl
  go_enter Tryz.func84, Tryz.ntmps84
  go_wp2
  go_loopw [3] (fun i wr => ∃ k : Nat, 1 ≤ k ∧ k ≤ 7 ∧ i = .int .i64 k ∧ Hid (∀ j : Nat, 1 ≤ j → j < k → sgnS j ≠ s.data.toList) ∧ Below w.heap.size w wr) (fun i _ => 7 - (intOf i).toNat)
  case atStart => exact ⟨1, by omega, by omega, rfl, Lib.hid (fun j h1 h2 => by omega), Below.refl _ _⟩
  case round =>
    obtain ⟨k, hk1, hk7, rfl, HJ, hb⟩ := hrel
    have HB := Lib.hid hb
    have hsz := hb.size
    clear hb
    by_cases hk : k ≤ 6
    · by_cases he : sgnS k = s.data.toList
      · have b1 : (sgnS (k : Int) == s.toList) = true := by rw [HTL.out, he]; simp
        have HE := Lib.hid (op_at _ k hk1 hk he)
        clear he
        go_wp2_with (go_at_call 110; refine (ref_sgn _ _).mono ?_; rintro e w' ⟨rfl, rfl⟩)
        go_ret
        exact ⟨by rw [HE.out]; rfl, HB.out.alloc hsz _⟩
      · have b1 : (sgnS (k : Int) == s.toList) = false := by rw [HTL.out]; simpa using he
        have HE := Lib.hid he
        clear he
        go_wp2_with (go_at_call 110; refine (ref_sgn _ _).mono ?_; rintro e w' ⟨rfl, rfl⟩)
        go_roundw
        case rel =>
          refine ⟨k + 1, by omega, by omega, by go_num, Lib.hid (fun j h1 h2 => ?_), HB.out.alloc hsz _⟩
          by_cases h3 : j = k
          · subst h3; exact HE.out
          · exact HJ.out j h1 (by omega)
        case measure => simp [intOf]; omega
    · have HE := Lib.hid (op_none _ (fun j h1 h2 => HJ.out j h1 (by omega)))
      go_wp2
      go_ret
      exact ⟨by rw [HE.out]; rfl, HB.out⟩

theorem itoa_0 : Lib.itoa 0 = [48] := by simp [Lib.itoa, Lib.decDigits]
theorem itoa_m3 : Lib.itoa (-3) = [45, 51] := by simp [Lib.itoa, Lib.decDigits]
theorem read_a : readR [97] = (noV, 7) := by
  have g : guessV [97] = ⟨2, false, 0, ⟨#[]⟩⟩ := by kernel_rfl
  have h : showV ⟨2, false, 0, ⟨#[]⟩⟩ = [48] := by
    have e : showV ⟨2, false, 0, ⟨#[]⟩⟩ = Lib.itoa 0 := by kernel_rfl
    rw [e, itoa_0]
  unfold readR
  rw [g, h]
  rfl
theorem read_m3 : readR [45, 51] = (⟨2, false, -3, ⟨#[]⟩⟩, 0) := by
  have g : guessV [45, 51] = ⟨2, false, -3, ⟨#[]⟩⟩ := by kernel_rfl
  have h : showV ⟨2, false, -3, ⟨#[]⟩⟩ = [45, 51] := by
    have e : showV ⟨2, false, -3, ⟨#[]⟩⟩ = Lib.itoa (-3) := by kernel_rfl
    rw [e, itoa_m3]
  unfold readR
  rw [g, h]
  rfl
theorem one_a (r : List UInt8) : oneT (97 :: 60 :: r) = ⟨1, ⟨#[97]⟩, noV, 0⟩ := by
  have e : oneT (97 :: 60 :: r) = worT [97] := by kernel_rfl
  rw [e]
  unfold worT
  rw [read_a]
  rfl
theorem one_a2 (r : List UInt8) : oneT (97 :: 32 :: r) = ⟨1, ⟨#[97]⟩, noV, 0⟩ := by
  have e : oneT (97 :: 32 :: r) = worT [97] := by kernel_rfl
  rw [e]
  unfold worT
  rw [read_a]
  rfl
theorem one_m3 : oneT [45, 51] = ⟨2, ⟨#[45, 51]⟩, ⟨2, false, -3, ⟨#[]⟩⟩, 0⟩ := by
  have e : oneT [45, 51] = conT [45, 51] := by kernel_rfl
  rw [e]
  unfold conT
  rw [read_m3]
  rfl
def kTs : List Tok := [⟨1, ⟨#[97]⟩, noV, 0⟩, ⟨3, ⟨#[60, 61]⟩, noV, 1⟩, ⟨2, ⟨#[45, 51]⟩, ⟨2, false, -3, ⟨#[]⟩⟩, 3⟩, ⟨4, ⟨#[]⟩, noV, 5⟩]
theorem lex_k1 : lexR [97, 60, 61, 45, 51] = (kTs, 0, 0) := by
  have e : lexA 5 [97, 60, 61, 45, 51] = kTs := by
    rw [lexA_step, show List.dropWhile blk ([97, 60, 61, 45, 51] : List UInt8) = [97, 60, 61, 45, 51] from by decide, one_a]
    show _ :: lexA 5 [60, 61, 45, 51] = _
    rw [lexA_step, show List.dropWhile blk ([60, 61, 45, 51] : List UInt8) = [60, 61, 45, 51] from by decide, show oneT [60, 61, 45, 51] = ⟨3, ⟨#[60, 61]⟩, noV, 0⟩ from by kernel_rfl]
    show _ :: _ :: lexA 5 [45, 51] = _
    rw [lexA_step, show List.dropWhile blk ([45, 51] : List UInt8) = [45, 51] from by decide, one_m3]
    show _ :: _ :: _ :: lexA 5 [] = _
    rw [lexA_step]
    rfl
  unfold lexR
  rw [if_neg (by decide)]
  show (match (lexA 5 [97, 60, 61, 45, 51]).find? (fun t => decide (t.k = 0)) with | none => (lexA 5 [97, 60, 61, 45, 51], (0 : Int), (0 : Int)) | some t => ([], t.a, 7)) = _
  rw [e]
  rfl
theorem lex_k2 : lexR [97, 32, 61, 32, 51] = ([], 2, 7) := by
  have e : lexA 5 [97, 32, 61, 32, 51] = [⟨1, ⟨#[97]⟩, noV, 0⟩, ⟨0, ⟨#[]⟩, noV, 2⟩] := by
    rw [lexA_step, show List.dropWhile blk ([97, 32, 61, 32, 51] : List UInt8) = [97, 32, 61, 32, 51] from by decide, one_a2]
    show _ :: lexA 5 [32, 61, 32, 51] = _
    rw [lexA_step, show List.dropWhile blk ([32, 61, 32, 51] : List UInt8) = [61, 32, 51] from by decide, show oneT [61, 32, 51] = ⟨0, ⟨#[]⟩, noV, 0⟩ from by kernel_rfl]
    rfl
  unfold lexR
  rw [if_neg (by decide)]
  show (match (lexA 5 [97, 32, 61, 32, 51]).find? (fun t => decide (t.k = 0)) with | none => (lexA 5 [97, 32, 61, 32, 51], (0 : Int), (0 : Int)) | some t => ([], t.a, 7)) = _
  rw [e]
  rfl

attribute [local go_sem high] equal_val
end
end Go.Proofs.YtkobfngnnblpeaaGreatDoor
namespace Go.Proofs.YtkobfngnnblpeaaGreatDoor
section
open Go.RowKit

theorem lexR_cases (l : List UInt8) : ((lexR l).1 = [] ∧ (lexR l).2.2 ≠ 0) ∨ ((lexR l).2.2 = 0 ∧ l.length ≤ 300 ∧ (lexR l).1 = lexA l.length l ∧ ∀ x ∈ lexA l.length l, x.k ≠ 0) := by
  unfold lexR
  by_cases h : 300 < l.length
  · rw [if_pos h]
    exact .inl ⟨rfl, by decide⟩
  · rw [if_neg h]
    cases hf : (lexA l.length l).find? (fun t => decide (t.k = 0)) with
    | none =>
      refine .inr ⟨rfl, by omega, rfl, fun x hx => ?_⟩
      have := List.find?_eq_none.1 hf x hx
      simpa using this
    | some t => exact .inl ⟨rfl, by show (7 : Int) ≠ 0; decide⟩

/-- What a token behind a place is. -/
theorem Apart.head {s : List UInt8} {p : Nat} {ls : List Tok} {k : Nat} {x : Tok} (h : Apart s p (ls.drop k)) (hx : ls[k]? = some x) :
    ∃ a : Nat, x.a = a ∧ p ≤ a ∧ a + x.t.size ≤ s.length ∧ (s.drop a).take x.t.size = x.t.data.toList ∧ (∀ j, p ≤ j → j < a → ∃ c, s[j]? = some c ∧ blk c = true) ∧
      ((k + 1 = ls.length ∧ x.k = 4 ∧ a + x.t.size = s.length) ∨ (k + 1 < ls.length ∧ x.k ≠ 4 ∧ Apart s (a + x.t.size) (ls.drop (k + 1)))) := by
  obtain ⟨hk, e⟩ := List.getElem?_eq_some_iff.1 hx
  rw [List.drop_eq_getElem_cons hk, e] at h
  obtain ⟨a, h1, h2, h3, h4, h5, h6⟩ := h
  refine ⟨a, h1, h2, h3, h4, h5, ?_⟩
  rcases h6 with ⟨h6, h7⟩ | ⟨h6, h7⟩
  · have := List.drop_eq_nil_iff.1 h6
    exact .inl ⟨by omega, h7⟩
  · refine .inr ⟨?_, h7⟩
    rcases Nat.lt_or_ge (k + 1) ls.length with h8 | h8
    · exact h8
    · exact absurd (List.drop_eq_nil_of_le h8) h6
end
end Go.Proofs.YtkobfngnnblpeaaGreatDoor
namespace Go.Proofs.YtkobfngnnblpeaaGreatDoor
section
open Go.RowKit

theorem equal_val' (d : Nat) (k : Int) (f : Bool) (n : Int) (t : ByteArray) (w : World) :
    (Op.equalIn (d + 1 + 1) 29 (.agg #[.int .i64 k, .bool f, .int .i64 n, .string t]) (.agg #[.int .i64 k, .bool f, .int .i64 n, .string t])).run Tryz.prog w = .ok true w := by
  have hS : Tryz.prog.underlying 29 = some (.struct (Tryz.prog.fieldsOf 29)) := by kernel_rfl
  rw [run_equalIn_agg w (d + 1) 29 _ _ hS (by kernel_rfl)]
  simp only [Program.fieldsOf, Tryz.underlying29]
  go_simp
set_option maxHeartbeats 1000000 in
theorem equal_tok (k : Int) (t : ByteArray) (vk : Int) (vf : Bool) (vn : Int) (vt : ByteArray) (a : Int) (w : World) :
    (Op.equalIn 10000 65 (.agg #[.int .i64 k, .string t, .int .i64 vk, .bool vf, .int .i64 vn, .string vt, .int .i64 a]) (.agg #[.int .i64 k, .string t, .int .i64 vk, .bool vf, .int .i64 vn, .string vt, .int .i64 a])).run Tryz.prog w = .ok true w := by
  have hS : Tryz.prog.underlying 65 = some (.struct (Tryz.prog.fieldsOf 65)) := by kernel_rfl
  have hv := equal_val' 9997 vk vf vn vt w
  rw [show (10000 : Nat) = 9999 + 1 from rfl, run_equalIn_agg w 9999 65 _ _ hS (by kernel_rfl)]
  simp only [Program.fieldsOf, Tryz.underlying65]
  go_simp
end
end Go.Proofs.YtkobfngnnblpeaaGreatDoor
