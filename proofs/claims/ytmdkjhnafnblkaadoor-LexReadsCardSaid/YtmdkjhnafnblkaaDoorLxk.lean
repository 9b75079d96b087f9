/-
  The document's own words and signs, and the fixed calls that every statement of package lex makes, answer as they must; nothing that was there is changed.
  Condition: the library's variables are as the program's text lays them.
-/
import Derived.Test.YtmdkjhnafnblkaaDoorLxw
namespace Go.Proofs.YtmdkjhnafnblkaaDoor
open Go.RowKit

abbrev strs (l : List (List UInt8)) : Array Value := (l.map fun u => Value.string ⟨u.toArray⟩).toArray
theorem strs_cell (w : World) (l : List (List UInt8)) (T : TypeId) (k : Nat) (u : List UInt8) (h : l[k]? = some u) : (w.alloc (.cells (strs l) T)).cell? ⟨w.heap.size, k, none⟩ = some (.string ⟨u.toArray⟩) := by
  rw [cell_of_row _ w.heap.size k _ T (0, 0) (heap_alloc_new w _)]
  simp [h]
theorem resB_at {l : List UInt8} {k : Nat} {u : List UInt8} (h : resW[k]? = some u) (e : u = l) : resB l = true := by
  subst e
  exact List.contains_iff_mem.2 (List.mem_of_getElem? h)
theorem resB_none {l : List UInt8} (h : ∀ (j : Nat) (u : List UInt8), j < 10 → resW[j]? = some u → u ≠ l) : resB l = false := by
  rw [← Bool.not_eq_true]
  intro hm
  obtain ⟨j, hj⟩ := List.mem_iff_getElem?.1 (List.contains_iff_mem.1 hm)
  exact h j l (by have := (List.getElem?_eq_some_iff.1 hj).1; exact this) hj rfl

set_option maxRecDepth 100000 in
set_option maxHeartbeats 2000000 in
theorem ref_reserved (s : ByteArray) (w : World) : Calls Tryd.prog 12 #[.string s] w fun e w' => e = .returned (.bool (resB s.data.toList)) ∧ w' = w.alloc (.cells (strs resW) 9) := by
  have htl : s.toList = s.data.toList := ByteArray.toList_eq s
  have HTL := Lib.hid htl
  clear htl
  obtain ⟨b, hb⟩ : ∃ b, b = resB s.data.toList := ⟨_, rfl⟩
  rw [← hb]
  have HB := Lib.hid hb
  clear hb
  have HC := Lib.hid (fun (k : Nat) (u : List UInt8) (h : resW[k]? = some u) => strs_cell w resW 9 k u h)
  obtain ⟨W, hW⟩ : ∃ W, W = w.alloc (.cells (strs resW) 9) := ⟨_, rfl⟩
  rw [← hW]
  rw [← hW] at HC
  have HW : Hid (w.alloc (.cells #[.string ⟨#[100, 101, 110, 121]⟩, .string ⟨#[118, 105, 101, 119]⟩, .string ⟨#[113, 117, 111, 116, 97]⟩, .string ⟨#[108, 105, 109, 105, 116]⟩, .string ⟨#[105, 102]⟩, .string ⟨#[110, 111, 116]⟩, .string ⟨#[99, 111, 117, 110, 116]⟩, .string ⟨#[115, 117, 109]⟩, .string ⟨#[108, 101, 97, 115, 116]⟩, .string ⟨#[109, 111, 115, 116]⟩] 9) = W) := Lib.hid hW.symm
  clear hW
  go_enter Tryd.func12, Tryd.ntmps12
  go_wp2
  rw [HW.out]
  go_loop [4] (fun i => ∃ k : Nat, k ≤ 10 ∧ i = .int .i64 k ∧ Hid (∀ (j : Nat) (u : List UInt8), j < k → resW[j]? = some u → u ≠ s.data.toList)) (fun i => 10 - (intOf i).toNat)
  case atStart => exact ⟨0, by omega, rfl, Lib.hid (fun j u h => by omega)⟩
  case round =>
    obtain ⟨k, hk, rfl, HJ⟩ := hrel
    by_cases hlt : k < 10
    · obtain ⟨u, hu⟩ := resW_get k hlt
      have hc := HC.out k u hu
      by_cases he : u = s.data.toList
      · have b1 : (u == s.toList) = true := by rw [HTL.out, he]; simp
        have HE := Lib.hid (resB_at hu he)
        clear he hu
        go_wp2
        go_ret
        exact ⟨by rw [HB.out, HE.out]; rfl, rfl⟩
      · have b1 : (u == s.toList) = false := by rw [HTL.out]; simpa using he
        have HE := Lib.hid he
        have HU := Lib.hid hu
        clear he hu
        go_wp2
        go_round
        case rel =>
          refine ⟨k + 1, by omega, by go_num, Lib.hid (fun j v h1 h2 => ?_)⟩
          by_cases h3 : j = k
          · subst h3
            rw [HU.out] at h2
            injection h2 with h2
            rw [← h2]
            exact HE.out
          · exact HJ.out j v (by omega) h2
        case measure => simp [intOf]; omega
    · have HE := Lib.hid (resB_none (fun j u h1 h2 => HJ.out j u (by omega) h2))
      go_wp2
      go_ret
      exact ⟨by rw [HB.out, HE.out]; rfl, rfl⟩

theorem sgnS_out (op : Int) (h : op < 1 ∨ 7 ≤ op) : sgnS op = [] := by
  unfold sgnS
  rw [if_neg (by omega), if_neg (by omega), if_neg (by omega), if_neg (by omega), if_neg (by omega), if_neg (by omega)]
def sgnW : List (List UInt8) := [[], [61, 61], [33, 61], [60], [60, 61], [62], [62, 61]]
theorem sgnW_at (k : Nat) (h1 : 1 ≤ k) (h : k < 7) : sgnW[k]? = some (sgnS k) := by
  have : k = 1 ∨ k = 2 ∨ k = 3 ∨ k = 4 ∨ k = 5 ∨ k = 6 := by omega
  rcases this with rfl | rfl | rfl | rfl | rfl | rfl <;> rfl

set_option maxRecDepth 100000 in
set_option maxHeartbeats 2000000 in
theorem ref_sgn (op : Int) (w : World) : Calls Tryd.prog 16 #[.int .i64 op] w fun e w' => e = .returned (.string ⟨(sgnS op).toArray⟩) ∧ w' = w.alloc (.cells (strs sgnW) 9) := by
  by_cases h1 : op < 1
  · rw [sgnS_out op (.inl h1)]
    go_enter Tryd.func16, Tryd.ntmps16
    go_wp2
    go_ret
    exact ⟨rfl, rfl⟩
  · by_cases h2 : 7 ≤ op
    · rw [sgnS_out op (.inr h2)]
      have d1 : decide (op < 1) = false := by simpa using h1
      go_enter Tryd.func16, Tryd.ntmps16
      go_wp2
      go_ret
      exact ⟨rfl, rfl⟩
    · obtain ⟨k, rfl⟩ : ∃ k : Nat, op = k := ⟨op.toNat, by omega⟩
      have hk1 : 1 ≤ k := by omega
      have hk7 : k < 7 := by omega
      have d1 : decide ((k : Int) < 1) = false := by simpa using h1
      have d2 : decide ((7 : Int) ≤ (k : Int)) = false := by simpa using h2
      have hcs : k = 1 ∨ k = 2 ∨ k = 3 ∨ k = 4 ∨ k = 5 ∨ k = 6 := by omega
      clear h1 h2 hk1 hk7 d1 d2
      rcases hcs with rfl | rfl | rfl | rfl | rfl | rfl
      all_goals
        go_enter Tryd.func16, Tryd.ntmps16
        go_wp2
        go_ret
        exact ⟨rfl, rfl⟩

set_option maxHeartbeats 1000000 in
theorem ref_op (s : ByteArray) (w : World) : Calls Tryd.prog 14 #[.string s] w fun e w' => e = .returned (.int .i64 (opF s.data.toList)) ∧ Below w.heap.size w w' := by
  have htl : s.toList = s.data.toList := ByteArray.toList_eq s
  have HTL := Lib.hid htl
  clear htl
  go_enter Tryd.func14, Tryd.ntmps14
  go_wp2
  go_loopw [3] (fun i wr => ∃ k : Nat, 1 ≤ k ∧ k ≤ 7 ∧ i = .int .i64 k ∧ Hid (∀ j : Nat, 1 ≤ j → j < k → sgnS j ≠ s.data.toList) ∧ Below w.heap.size w wr) (fun i _ => 7 - (intOf i).toNat)
  case atStart => exact ⟨1, by omega, by omega, rfl, Lib.hid (fun j h1 h2 => by omega), Below.refl _ _⟩
  case round =>
    obtain ⟨k, hk1, hk7, rfl, HJ, hb⟩ := hrel
    have HB := Lib.hid hb
    have hsz := hb.size
    clear hb
    by_cases hk : k ≤ 6
    · by_cases he : sgnS k = s.data.toList
      · have b1 : (sgnS (k : Int) == s.toList) = true := by rw [HTL.out, he]; simp
        have HE := Lib.hid (op_at _ k hk1 hk he)
        clear he
        go_wp2_with (go_at_call 16; refine (ref_sgn _ _).mono ?_; rintro e w' ⟨rfl, rfl⟩)
        go_ret
        exact ⟨by rw [HE.out]; rfl, HB.out.alloc hsz _⟩
      · have b1 : (sgnS (k : Int) == s.toList) = false := by rw [HTL.out]; simpa using he
        have HE := Lib.hid he
        clear he
        go_wp2_with (go_at_call 16; refine (ref_sgn _ _).mono ?_; rintro e w' ⟨rfl, rfl⟩)
        go_roundw
        case rel =>
          refine ⟨k + 1, by omega, by omega, by go_num, Lib.hid (fun j h1 h2 => ?_), HB.out.alloc hsz _⟩
          by_cases h3 : j = k
          · subst h3; exact HE.out
          · exact HJ.out j h1 (by omega)
        case measure => simp [intOf]; omega
    · have HE := Lib.hid (op_none _ (fun j h1 h2 => HJ.out j h1 (by omega)))
      go_wp2
      go_ret
      exact ⟨by rw [HE.out]; rfl, HB.out⟩

theorem itoa_0 : Lib.itoa 0 = [48] := by simp [Lib.itoa, Lib.decDigits]
theorem itoa_m3 : Lib.itoa (-3) = [45, 51] := by simp [Lib.itoa, Lib.decDigits]
theorem read_a : readR [97] = (noV, 7) := by
  have g : guessV [97] = ⟨2, false, 0, ⟨#[]⟩⟩ := by kernel_rfl
  have h : showV ⟨2, false, 0, ⟨#[]⟩⟩ = [48] := by
    have e : showV ⟨2, false, 0, ⟨#[]⟩⟩ = Lib.itoa 0 := by kernel_rfl
    rw [e, itoa_0]
  unfold readR
  rw [g, h]
  rfl
theorem read_m3 : readR [45, 51] = (⟨2, false, -3, ⟨#[]⟩⟩, 0) := by
  have g : guessV [45, 51] = ⟨2, false, -3, ⟨#[]⟩⟩ := by kernel_rfl
  have h : showV ⟨2, false, -3, ⟨#[]⟩⟩ = [45, 51] := by
    have e : showV ⟨2, false, -3, ⟨#[]⟩⟩ = Lib.itoa (-3) := by kernel_rfl
    rw [e, itoa_m3]
  unfold readR
  rw [g, h]
  rfl
theorem one_a (r : List UInt8) : oneT (97 :: 60 :: r) = ⟨1, ⟨#[97]⟩, noV, 0⟩ := by
  have e : oneT (97 :: 60 :: r) = worT [97] := by kernel_rfl
  rw [e]
  unfold worT
  rw [read_a]
  rfl
theorem one_a2 (r : List UInt8) : oneT (97 :: 32 :: r) = ⟨1, ⟨#[97]⟩, noV, 0⟩ := by
  have e : oneT (97 :: 32 :: r) = worT [97] := by kernel_rfl
  rw [e]
  unfold worT
  rw [read_a]
  rfl
theorem one_m3 : oneT [45, 51] = ⟨2, ⟨#[45, 51]⟩, ⟨2, false, -3, ⟨#[]⟩⟩, 0⟩ := by
  have e : oneT [45, 51] = conT [45, 51] := by kernel_rfl
  rw [e]
  unfold conT
  rw [read_m3]
  rfl
def kTs : List Tok := [⟨1, ⟨#[97]⟩, noV, 0⟩, ⟨3, ⟨#[60, 61]⟩, noV, 1⟩, ⟨2, ⟨#[45, 51]⟩, ⟨2, false, -3, ⟨#[]⟩⟩, 3⟩, ⟨4, ⟨#[]⟩, noV, 5⟩]
theorem lex_k1 : lexR [97, 60, 61, 45, 51] = (kTs, 0, 0) := by
  have e : lexA 5 [97, 60, 61, 45, 51] = kTs := by
    rw [lexA_step, show List.dropWhile blk ([97, 60, 61, 45, 51] : List UInt8) = [97, 60, 61, 45, 51] from by decide, one_a]
    show _ :: lexA 5 [60, 61, 45, 51] = _
    rw [lexA_step, show List.dropWhile blk ([60, 61, 45, 51] : List UInt8) = [60, 61, 45, 51] from by decide, show oneT [60, 61, 45, 51] = ⟨3, ⟨#[60, 61]⟩, noV, 0⟩ from by kernel_rfl]
    show _ :: _ :: lexA 5 [45, 51] = _
    rw [lexA_step, show List.dropWhile blk ([45, 51] : List UInt8) = [45, 51] from by decide, one_m3]
    show _ :: _ :: _ :: lexA 5 [] = _
    rw [lexA_step]
    rfl
  unfold lexR
  rw [if_neg (by decide)]
  show (match (lexA 5 [97, 60, 61, 45, 51]).find? (fun t => decide (t.k = 0)) with | none => (lexA 5 [97, 60, 61, 45, 51], (0 : Int), (0 : Int)) | some t => ([], t.a, 7)) = _
  rw [e]
  rfl
theorem lex_k2 : lexR [97, 32, 61, 32, 51] = ([], 2, 7) := by
  have e : lexA 5 [97, 32, 61, 32, 51] = [⟨1, ⟨#[97]⟩, noV, 0⟩, ⟨0, ⟨#[]⟩, noV, 2⟩] := by
    rw [lexA_step, show List.dropWhile blk ([97, 32, 61, 32, 51] : List UInt8) = [97, 32, 61, 32, 51] from by decide, one_a2]
    show _ :: lexA 5 [32, 61, 32, 51] = _
    rw [lexA_step, show List.dropWhile blk ([32, 61, 32, 51] : List UInt8) = [61, 32, 51] from by decide, show oneT [61, 32, 51] = ⟨0, ⟨#[]⟩, noV, 0⟩ from by kernel_rfl]
    rfl
  unfold lexR
  rw [if_neg (by decide)]
  show (match (lexA 5 [97, 32, 61, 32, 51]).find? (fun t => decide (t.k = 0)) with | none => (lexA 5 [97, 32, 61, 32, 51], (0 : Int), (0 : Int)) | some t => ([], t.a, 7)) = _
  rw [e]
  rfl

attribute [local go_sem high] equal_val

set_option maxRecDepth 100000 in
set_option maxHeartbeats 4000000 in
theorem known11 (w : World) (hv : Vars w) : Calls Tryd.prog 7 #[] w fun e w' => e = .returned (.bool true) ∧ Below w.heap.size w w' := by
  have HV := Lib.hid hv
  clear hv
  go_enter Tryd.func7, Tryd.ntmps7
  go_wp2_with (fail)
  refine (lx_read ⟨#[97, 60, 61, 45, 51]⟩ _ (by exact HV.out)).mono ?_
  rintro e w1 ⟨A, c, he, hA, hto, hag, hb1⟩
  rw [show lexR (⟨#[97, 60, 61, 45, 51]⟩ : ByteArray).data.toList = (kTs, 0, 0) from lex_k1] at he hto
  have he' : e = .returned (.tuple #[.slice A 4 c, .int .i64 0, .int .i64 0]) := he
  clear he
  subst he'
  obtain ⟨a, ha, _⟩ := hto 0 _ rfl
  obtain ⟨g, rfl⟩ := hag a ha
  subst ha
  have HT := Lib.hid hto
  have HB1 := Lib.hid hb1
  clear hto hb1 hA hag
  go_wp2_with (fail)
  refine (lx_read ⟨#[97, 32, 61, 32, 51]⟩ _ (by exact HV.out.later HB1.out)).mono ?_
  rintro e w2 ⟨A, c2, he, hA, _, hag, hb2⟩
  rw [show lexR (⟨#[97, 32, 61, 32, 51]⟩ : ByteArray).data.toList = ([], 2, 7) from lex_k2] at he
  have he' : e = .returned (.tuple #[.slice A 0 c2, .int .i64 2, .int .i64 7]) := he
  clear he
  subst he'
  have hto2 : ToksAt w2 (some ⟨g, 0, none⟩) kTs := HT.out.below hb2
  have d0 := hto2.at 0 0 _ _ rfl (by omega) rfl
  have d1 := hto2.at 1 0 _ _ rfl (by omega) rfl
  have d2 := hto2.at 2 2 _ _ rfl (by omega) rfl
  have d3 := hto2.at 2 3 _ _ rfl (by omega) rfl
  have d4 := hto2.at 2 4 _ _ rfl (by omega) rfl
  have d5 := hto2.at 2 5 _ _ rfl (by omega) rfl
  have d6 := hto2.at 2 0 _ _ rfl (by omega) rfl
  have d7 := hto2.at 3 0 _ _ rfl (by omega) rfl
  have d8 := hto2.at 3 6 _ _ rfl (by omega) rfl
  simp only [Nat.reduceMul, Nat.reduceAdd] at d0 d1 d2 d3 d4 d5 d6 d7 d8
  have HB2 := Lib.hid (HB1.out.trans (hb2.mono HB1.out.size))
  have e1 : eqV ⟨2, false, -3, ⟨#[]⟩⟩ ⟨2, false, -3, ⟨#[]⟩⟩ = true := (eqV_iff _ _).2 rfl
  clear hto2 hb2 hA hag
  go_wp2
  go_ret
  exact ⟨rfl, HB2.out⟩
end Go.Proofs.YtmdkjhnafnblkaaDoor
