/-
  The words of the language, the signs of comparisons, and the fixed calls that every statement of package lex makes.
  Condition: the library's variables are as the program's text lays them.
  The document's own words and signs, and the fixed calls that every statement of package lex makes, answer as they must; nothing that was there is changed.
  Condition: the library's variables are as the program's text lays them.
  LexWords and LexApart of verdererlaw11 answer true at every input; nothing that was there is changed.
  Condition: the library's variables are as the program's text lays them.
  The document's own tokens: a word, a number, a text, a sign: how many bytes each has; nothing that was there is changed.
  Condition: a text of at most 300 bytes.
  Two tokens of the document that are the same are told to be the same.
  No condition.
-/
import Derived.KernelRfl
import Derived.Laws.StructEq
import Derived.Test.YthdjkagodccdbaaM11
namespace Go.Proofs.Ythdjkagodccdbaa
section
open Go.RowKit

/-- The words of the language. -/
def resW : List (List UInt8) := [[100, 101, 110, 121], [118, 105, 101, 119], [113, 117, 111, 116, 97], [108, 105, 109, 105, 116], [105, 102], [110, 111, 116], [99, 111, 117, 110, 116], [115, 117, 109], [108, 101, 97, 115, 116], [109, 111, 115, 116]]
def resB (l : List UInt8) : Bool := resW.contains l

theorem resW_get : ∀ k : Nat, k < 10 → ∃ u, resW[k]? = some u := fun k h => ⟨_, List.getElem?_eq_getElem (by show k < 10; exact h)⟩
end
end Go.Proofs.Ythdjkagodccdbaa
namespace Go.Proofs.Ythdjkagodccdbaa
section
open Go.RowKit

abbrev strs (l : List (List UInt8)) : Array Value := (l.map fun u => Value.string ⟨u.toArray⟩).toArray
theorem strs_cell (w : World) (l : List (List UInt8)) (T : TypeId) (k : Nat) (u : List UInt8) (h : l[k]? = some u) : (w.alloc (.cells (strs l) T)).cell? ⟨w.heap.size, k, none⟩ = some (.string ⟨u.toArray⟩) := by
  rw [cell_of_row _ w.heap.size k _ T (0, 0) (heap_alloc_new w _)]
  simp [h]
theorem resB_at {l : List UInt8} {k : Nat} {u : List UInt8} (h : resW[k]? = some u) (e : u = l) : resB l = true := by
  subst e
  exact List.contains_iff_mem.2 (List.mem_of_getElem? h)
theorem resB_none {l : List UInt8} (h : ∀ (j : Nat) (u : List UInt8), j < 10 → resW[j]? = some u → u ≠ l) : resB l = false := by
  rw [← Bool.not_eq_true]
  intro hm
  obtain ⟨j, hj⟩ := List.mem_iff_getElem?.1 (List.contains_iff_mem.1 hm)
  exact h j l (by have := (List.getElem?_eq_some_iff.1 hj).1; exact this) hj rfl

set_option maxRecDepth 100000 in
set_option maxHeartbeats 2000000 in
theorem ref_reserved (s : ByteArray) (w : World) : Calls Try.prog 59 #[.string s] w fun e w' => e = .returned (.bool (resB s.data.toList)) ∧ w' = w.alloc (.cells (strs resW) 9) := by
  have htl : s.toList = s.data.toList := ByteArray.toList_eq s
  have HTL := Lib.hid htl
  clear htl
  obtain ⟨b, hb⟩ : ∃ b, b = resB s.data.toList := ⟨_, rfl⟩
  rw [← hb]
  have HB := Lib.hid hb
  clear hb
  have HC := Lib.hid (fun (k : Nat) (u : List UInt8) (h : resW[k]? = some u) => strs_cell w resW 9 k u h)
  obtain ⟨W, hW⟩ : ∃ W, W = w.alloc (.cells (strs resW) 9) := ⟨_, rfl⟩
  rw [← hW]
  rw [← hW] at HC
  have HW : Hid (w.alloc (.cells #[.string ⟨#[100, 101, 110, 121]⟩, .string ⟨#[118, 105, 101, 119]⟩, .string ⟨#[113, 117, 111, 116, 97]⟩, .string ⟨#[108, 105, 109, 105, 116]⟩, .string ⟨#[105, 102]⟩, .string ⟨#[110, 111, 116]⟩, .string ⟨#[99, 111, 117, 110, 116]⟩, .string ⟨#[115, 117, 109]⟩, .string ⟨#[108, 101, 97, 115, 116]⟩, .string ⟨#[109, 111, 115, 116]⟩] 9) = W) := Lib.hid hW.symm
  clear hW
  go_enter Try.func59, Try.ntmps59
  go_wp2
  rw [HW.out]
  go_loop [4] (fun i => ∃ k : Nat, k ≤ 10 ∧ i = .int .i64 k ∧ Hid (∀ (j : Nat) (u : List UInt8), j < k → resW[j]? = some u → u ≠ s.data.toList)) (fun i => 10 - (intOf i).toNat)
  case atStart => exact ⟨0, by omega, rfl, Lib.hid (fun j u h => by omega)⟩
  case round =>
    obtain ⟨k, hk, rfl, HJ⟩ := hrel
    by_cases hlt : k < 10
    · obtain ⟨u, hu⟩ := resW_get k hlt
      have hc := HC.out k u hu
      by_cases he : u = s.data.toList
      · have b1 : (u == s.toList) = true := by rw [HTL.out, he]; simp
        have HE := Lib.hid (resB_at hu he)
        clear he hu
        go_wp2
        go_ret
        exact ⟨by rw [HB.out, HE.out]; rfl, rfl⟩
      · have b1 : (u == s.toList) = false := by rw [HTL.out]; simpa using he
        have HE := Lib.hid he
        have HU := Lib.hid hu
        clear he hu
        go_wp2
        go_round
        case rel =>
          refine ⟨k + 1, by omega, by go_num, Lib.hid (fun j v h1 h2 => ?_)⟩
          by_cases h3 : j = k
          · subst h3
            rw [HU.out] at h2
            injection h2 with h2
            rw [← h2]
            exact HE.out
          · exact HJ.out j v (by omega) h2
        case measure => simp [intOf]; omega
    · have HE := Lib.hid (resB_none (fun j u h1 h2 => HJ.out j u (by omega) h2))
      go_wp2
      go_ret
      exact ⟨by rw [HB.out, HE.out]; rfl, rfl⟩

theorem sgnS_out (op : Int) (h : op < 1 ∨ 7 ≤ op) : sgnS op = [] := by
  unfold sgnS
  rw [if_neg (by omega), if_neg (by omega), if_neg (by omega), if_neg (by omega), if_neg (by omega), if_neg (by omega)]
def sgnW : List (List UInt8) := [[], [61, 61], [33, 61], [60], [60, 61], [62], [62, 61]]
theorem sgnW_at (k : Nat) (h1 : 1 ≤ k) (h : k < 7) : sgnW[k]? = some (sgnS k) := by
  have : k = 1 ∨ k = 2 ∨ k = 3 ∨ k = 4 ∨ k = 5 ∨ k = 6 := by omega
  rcases this with rfl | rfl | rfl | rfl | rfl | rfl <;> rfl

set_option maxRecDepth 100000 in
set_option maxHeartbeats 2000000 in
theorem ref_sgn (op : Int) (w : World) : Calls Try.prog 77 #[.int .i64 op] w fun e w' => e = .returned (.string ⟨(sgnS op).toArray⟩) ∧ w' = w.alloc (.cells (strs sgnW) 9) := by
  by_cases h1 : op < 1
  · rw [sgnS_out op (.inl h1)]
    go_enter Try.func77, Try.ntmps77
    go_wp2
    go_ret
    exact ⟨rfl, rfl⟩
  · by_cases h2 : 7 ≤ op
    · rw [sgnS_out op (.inr h2)]
      have d1 : decide (op < 1) = false := by simpa using h1
      go_enter Try.func77, Try.ntmps77
      go_wp2
      go_ret
      exact ⟨rfl, rfl⟩
    · obtain ⟨k, rfl⟩ : ∃ k : Nat, op = k := ⟨op.toNat, by omega⟩
      have hk1 : 1 ≤ k := by omega
      have hk7 : k < 7 := by omega
      have d1 : decide ((k : Int) < 1) = false := by simpa using h1
      have d2 : decide ((7 : Int) ≤ (k : Int)) = false := by simpa using h2
      have hcs : k = 1 ∨ k = 2 ∨ k = 3 ∨ k = 4 ∨ k = 5 ∨ k = 6 := by omega
      clear h1 h2 hk1 hk7 d1 d2
      rcases hcs with rfl | rfl | rfl | rfl | rfl | rfl
      all_goals
        go_enter Try.func77, Try.ntmps77
        go_wp2
        go_ret
        exact ⟨rfl, rfl⟩

set_option maxHeartbeats 1000000 in
theorem ref_op (s : ByteArray) (w : World) : Calls Try.prog 62 #[.string s] w fun e w' => e = .returned (.int .i64 (opF s.data.toList)) ∧ Below w.heap.size w w' := by
  have htl : s.toList = s.data.toList := ByteArray.toList_eq s
  have HTL := Lib.hid htl
  clear htl
  go_enter Try.func62, Try.ntmps62
  go_wp2
  go_loopw [3] (fun i wr => ∃ k : Nat, 1 ≤ k ∧ k ≤ 7 ∧ i = .int .i64 k ∧ Hid (∀ j : Nat, 1 ≤ j → j < k → sgnS j ≠ s.data.toList) ∧ Below w.heap.size w wr) (fun i _ => 7 - (intOf i).toNat)
  case atStart => exact ⟨1, by omega, by omega, rfl, Lib.hid (fun j h1 h2 => by omega), Below.refl _ _⟩
  case round =>
    obtain ⟨k, hk1, hk7, rfl, HJ, hb⟩ := hrel
    have HB := Lib.hid hb
    have hsz := hb.size
    clear hb
    by_cases hk : k ≤ 6
    · by_cases he : sgnS k = s.data.toList
      · have b1 : (sgnS (k : Int) == s.toList) = true := by rw [HTL.out, he]; simp
        have HE := Lib.hid (op_at _ k hk1 hk he)
        clear he
        go_wp2_with (go_at_call 77; refine (ref_sgn _ _).mono ?_; rintro e w' ⟨rfl, rfl⟩)
        go_ret
        exact ⟨by rw [HE.out]; rfl, HB.out.alloc hsz _⟩
      · have b1 : (sgnS (k : Int) == s.toList) = false := by rw [HTL.out]; simpa using he
        have HE := Lib.hid he
        clear he
        go_wp2_with (go_at_call 77; refine (ref_sgn _ _).mono ?_; rintro e w' ⟨rfl, rfl⟩)
        go_roundw
        case rel =>
          refine ⟨k + 1, by omega, by omega, by go_num, Lib.hid (fun j h1 h2 => ?_), HB.out.alloc hsz _⟩
          by_cases h3 : j = k
          · subst h3; exact HE.out
          · exact HJ.out j h1 (by omega)
        case measure => simp [intOf]; omega
    · have HE := Lib.hid (op_none _ (fun j h1 h2 => HJ.out j h1 (by omega)))
      go_wp2
      go_ret
      exact ⟨by rw [HE.out]; rfl, HB.out⟩

theorem itoa_0 : Lib.itoa 0 = [48] := by simp [Lib.itoa, Lib.decDigits]
theorem itoa_m3 : Lib.itoa (-3) = [45, 51] := by simp [Lib.itoa, Lib.decDigits]
theorem read_a : readR [97] = (noV, 7) := by
  have g : guessV [97] = ⟨2, false, 0, ⟨#[]⟩⟩ := by kernel_rfl
  have h : showV ⟨2, false, 0, ⟨#[]⟩⟩ = [48] := by
    have e : showV ⟨2, false, 0, ⟨#[]⟩⟩ = Lib.itoa 0 := by kernel_rfl
    rw [e, itoa_0]
  unfold readR
  rw [g, h]
  rfl
theorem read_m3 : readR [45, 51] = (⟨2, false, -3, ⟨#[]⟩⟩, 0) := by
  have g : guessV [45, 51] = ⟨2, false, -3, ⟨#[]⟩⟩ := by kernel_rfl
  have h : showV ⟨2, false, -3, ⟨#[]⟩⟩ = [45, 51] := by
    have e : showV ⟨2, false, -3, ⟨#[]⟩⟩ = Lib.itoa (-3) := by kernel_rfl
    rw [e, itoa_m3]
  unfold readR
  rw [g, h]
  rfl
theorem one_a (r : List UInt8) : oneT (97 :: 60 :: r) = ⟨1, ⟨#[97]⟩, noV, 0⟩ := by
  have e : oneT (97 :: 60 :: r) = worT [97] := by kernel_rfl
  rw [e]
  unfold worT
  rw [read_a]
  rfl
theorem one_a2 (r : List UInt8) : oneT (97 :: 32 :: r) = ⟨1, ⟨#[97]⟩, noV, 0⟩ := by
  have e : oneT (97 :: 32 :: r) = worT [97] := by kernel_rfl
  rw [e]
  unfold worT
  rw [read_a]
  rfl
theorem one_m3 : oneT [45, 51] = ⟨2, ⟨#[45, 51]⟩, ⟨2, false, -3, ⟨#[]⟩⟩, 0⟩ := by
  have e : oneT [45, 51] = conT [45, 51] := by kernel_rfl
  rw [e]
  unfold conT
  rw [read_m3]
  rfl
def kTs : List Tok := [⟨1, ⟨#[97]⟩, noV, 0⟩, ⟨3, ⟨#[60, 61]⟩, noV, 1⟩, ⟨2, ⟨#[45, 51]⟩, ⟨2, false, -3, ⟨#[]⟩⟩, 3⟩, ⟨4, ⟨#[]⟩, noV, 5⟩]
theorem lex_k1 : lexR [97, 60, 61, 45, 51] = (kTs, 0, 0) := by
  have e : lexA 5 [97, 60, 61, 45, 51] = kTs := by
    rw [lexA_step, show List.dropWhile blk ([97, 60, 61, 45, 51] : List UInt8) = [97, 60, 61, 45, 51] from by decide, one_a]
    show _ :: lexA 5 [60, 61, 45, 51] = _
    rw [lexA_step, show List.dropWhile blk ([60, 61, 45, 51] : List UInt8) = [60, 61, 45, 51] from by decide, show oneT [60, 61, 45, 51] = ⟨3, ⟨#[60, 61]⟩, noV, 0⟩ from by kernel_rfl]
    show _ :: _ :: lexA 5 [45, 51] = _
    rw [lexA_step, show List.dropWhile blk ([45, 51] : List UInt8) = [45, 51] from by decide, one_m3]
    show _ :: _ :: _ :: lexA 5 [] = _
    rw [lexA_step]
    rfl
  unfold lexR
  rw [if_neg (by decide)]
  show (match (lexA 5 [97, 60, 61, 45, 51]).find? (fun t => decide (t.k = 0)) with | none => (lexA 5 [97, 60, 61, 45, 51], (0 : Int), (0 : Int)) | some t => ([], t.a, 7)) = _
  rw [e]
  rfl
theorem lex_k2 : lexR [97, 32, 61, 32, 51] = ([], 2, 7) := by
  have e : lexA 5 [97, 32, 61, 32, 51] = [⟨1, ⟨#[97]⟩, noV, 0⟩, ⟨0, ⟨#[]⟩, noV, 2⟩] := by
    rw [lexA_step, show List.dropWhile blk ([97, 32, 61, 32, 51] : List UInt8) = [97, 32, 61, 32, 51] from by decide, one_a2]
    show _ :: lexA 5 [32, 61, 32, 51] = _
    rw [lexA_step, show List.dropWhile blk ([32, 61, 32, 51] : List UInt8) = [61, 32, 51] from by decide, show oneT [61, 32, 51] = ⟨0, ⟨#[]⟩, noV, 0⟩ from by kernel_rfl]
    rfl
  unfold lexR
  rw [if_neg (by decide)]
  show (match (lexA 5 [97, 32, 61, 32, 51]).find? (fun t => decide (t.k = 0)) with | none => (lexA 5 [97, 32, 61, 32, 51], (0 : Int), (0 : Int)) | some t => ([], t.a, 7)) = _
  rw [e]
  rfl

attribute [local go_sem high] equal_val
end
end Go.Proofs.Ythdjkagodccdbaa
namespace Go.Proofs.Ythdjkagodccdbaa
section
open Go.RowKit

theorem lexR_cases (l : List UInt8) : ((lexR l).1 = [] ∧ (lexR l).2.2 ≠ 0) ∨ ((lexR l).2.2 = 0 ∧ l.length ≤ 300 ∧ (lexR l).1 = lexA l.length l ∧ ∀ x ∈ lexA l.length l, x.k ≠ 0) := by
  unfold lexR
  by_cases h : 300 < l.length
  · rw [if_pos h]
    exact .inl ⟨rfl, by decide⟩
  · rw [if_neg h]
    cases hf : (lexA l.length l).find? (fun t => decide (t.k = 0)) with
    | none =>
      refine .inr ⟨rfl, by omega, rfl, fun x hx => ?_⟩
      have := List.find?_eq_none.1 hf x hx
      simpa using this
    | some t => exact .inl ⟨rfl, by show (7 : Int) ≠ 0; decide⟩

/-- What a token behind a place is. -/
theorem Apart.head {s : List UInt8} {p : Nat} {ls : List Tok} {k : Nat} {x : Tok} (h : Apart s p (ls.drop k)) (hx : ls[k]? = some x) :
    ∃ a : Nat, x.a = a ∧ p ≤ a ∧ a + x.t.size ≤ s.length ∧ (s.drop a).take x.t.size = x.t.data.toList ∧ (∀ j, p ≤ j → j < a → ∃ c, s[j]? = some c ∧ blk c = true) ∧
      ((k + 1 = ls.length ∧ x.k = 4 ∧ a + x.t.size = s.length) ∨ (k + 1 < ls.length ∧ x.k ≠ 4 ∧ Apart s (a + x.t.size) (ls.drop (k + 1)))) := by
  obtain ⟨hk, e⟩ := List.getElem?_eq_some_iff.1 hx
  rw [List.drop_eq_getElem_cons hk, e] at h
  obtain ⟨a, h1, h2, h3, h4, h5, h6⟩ := h
  refine ⟨a, h1, h2, h3, h4, h5, ?_⟩
  rcases h6 with ⟨h6, h7⟩ | ⟨h6, h7⟩
  · have := List.drop_eq_nil_iff.1 h6
    exact .inl ⟨by omega, h7⟩
  · refine .inr ⟨?_, h7⟩
    rcases Nat.lt_or_ge (k + 1) ls.length with h8 | h8
    · exact h8
    · exact absurd (List.drop_eq_nil_of_le h8) h6
end
end Go.Proofs.Ythdjkagodccdbaa
namespace Go.Proofs.Ythdjkagodccdbaa
section
open Go.RowKit

set_option maxHeartbeats 1000000 in
theorem rf_letter (c : UInt8) (w : World) : Calls Try.prog 52 #[.int .u8 (c.toNat : Int)] w fun e w' => e = .returned (.bool (ltr c)) ∧ w = w' := by
  have hc := c.toNat_lt
  by_cases h1 : 97 ≤ c.toNat
  · by_cases h2 : c.toNat ≤ 122
    · have hr : ltr c = true := by unfold ltr; simp [h1, h2]
      rw [hr]
      go_enter Try.func52, Try.ntmps52
      go_wp2
      go_ret
      refine ⟨ret_bool ?_, rfl⟩
      simp
      omega
    · have hr : ltr c = false := by unfold ltr; simp [h2]
      rw [hr]
      go_enter Try.func52, Try.ntmps52
      go_wp2
      go_ret
      refine ⟨ret_bool ?_, rfl⟩
      simp
      omega
  · have hr : ltr c = false := by unfold ltr; simp [h1]
    rw [hr]
    go_enter Try.func52, Try.ntmps52
    go_wp2
    go_ret
    exact ⟨by simp, rfl⟩
set_option maxHeartbeats 1000000 in
theorem rf_digit (c : UInt8) (w : World) : Calls Try.prog 55 #[.int .u8 (c.toNat : Int)] w fun e w' => e = .returned (.bool (dgt c)) ∧ w = w' := by
  have hc := c.toNat_lt
  by_cases h1 : 48 ≤ c.toNat
  · by_cases h2 : c.toNat ≤ 57
    · have hr : dgt c = true := by unfold dgt; simp [h1, h2]
      rw [hr]
      go_enter Try.func55, Try.ntmps55
      go_wp2
      go_ret
      refine ⟨ret_bool ?_, rfl⟩
      simp
      omega
    · have hr : dgt c = false := by unfold dgt; simp [h2]
      rw [hr]
      go_enter Try.func55, Try.ntmps55
      go_wp2
      go_ret
      refine ⟨ret_bool ?_, rfl⟩
      simp
      omega
  · have hr : dgt c = false := by unfold dgt; simp [h1]
    rw [hr]
    go_enter Try.func55, Try.ntmps55
    go_wp2
    go_ret
    exact ⟨by simp, rfl⟩

theorem tw_len {p : UInt8 → Bool} : ∀ (k : Nat) (l : List UInt8), (∀ j, j < k → ∃ c, l[j]? = some c ∧ p c = true) → (l[k]? = none ∨ ∃ c, l[k]? = some c ∧ p c = false) → (l.takeWhile p).length = k
  | 0, [], _, _ => rfl
  | 0, c :: r, _, h => by
    rcases h with h | ⟨d, h, hp⟩
    · simp at h
    · have : c = d := by simpa using h
      subst this
      rw [List.takeWhile_cons_of_neg (by rw [hp]; simp)]
      rfl
  | k + 1, [], h, _ => by
    obtain ⟨c, hc, _⟩ := h 0 (by omega)
    simp at hc
  | k + 1, c :: r, h, he => by
    obtain ⟨d, hd, hp⟩ := h 0 (by omega)
    have : c = d := by simpa using hd
    subst this
    rw [List.takeWhile_cons_of_pos hp, List.length_cons, tw_len k r (fun j hj => by have := h (j + 1) (by omega); simpa using this) (by simpa using he)]

set_option maxRecDepth 100000 in
set_option maxHeartbeats 4000000 in
theorem rf_word (s : ByteArray) (w : World) (hs : s.size ≤ 300) (h0 : 0 < s.size) (hl : ltr s[0] = true) : Calls Try.prog 53 #[.string s] w fun e w' => e = .returned (.int .i64 (wordF s.data.toList)) ∧ w = w' := by
  obtain ⟨N, hN⟩ : ∃ N, N = wordF s.data.toList := ⟨_, rfl⟩
  rw [← hN]
  have HN := Lib.hid hN
  have HL := Lib.hid hl
  have hsl : s.data.toList.length = s.size := rfl
  have HSL := Lib.hid hsl
  clear hN hl hsl
  go_enter Try.func53, Try.ntmps53
  go_wp2
  go_loop [3] (fun i => ∃ k : Nat, k ≤ s.size ∧ i = .int .i64 k ∧ Hid (∀ j, j < k → ∃ c, s.data.toList[j]? = some c ∧ wch c = true)) (fun i => s.size - (intOf i).toNat)
  case atStart => exact ⟨0, by omega, rfl, Lib.hid (fun j h => by omega)⟩
  case round =>
    obtain ⟨k, hk, rfl, HJ⟩ := hrel
    have next : ∀ (hlt : k < s.size), wch s[k] = true → Hid (∀ j, j < k + 1 → ∃ c, s.data.toList[j]? = some c ∧ wch c = true) := fun hlt hw => Lib.hid (fun j hj => by
      by_cases h : j = k
      · subst h; exact ⟨_, at_some s j hlt, hw⟩
      · exact HJ.out j (by omega))
    have HNX := Lib.hid next
    clear next
    by_cases hlt : k < s.size
    · rcases Bool.eq_false_or_eq_true (ltr s[k]) with ha | ha
      · have HA := Lib.hid ha
        have hw : wch s[k] = true := by unfold wch; rw [ha]; rfl
        have HX := HNX.out hlt hw
        clear ha hw
        go_wp2_with (go_at_call 52; refine (rf_letter _ _).mono ?_; rintro e w' ⟨rfl, rfl⟩; rw [HA.out])
        go_round
        case rel => exact ⟨k + 1, by omega, by go_num, HX⟩
        case measure => simp [intOf]; omega
      · have HA := Lib.hid ha
        have hk0 : 0 < k := by
          rcases Nat.eq_zero_or_pos k with h | h
          · subst h
            have := HL.out
            rw [ha] at this
            cases this
          · exact h
        rcases Bool.eq_false_or_eq_true (dgt s[k]) with hd | hd
        · have HD := Lib.hid hd
          have hw : wch s[k] = true := by unfold wch; rw [hd]; simp
          have HX := HNX.out hlt hw
          clear ha hd hw
          go_wp2_with (first
            | (go_at_call 52; refine (rf_letter _ _).mono ?_; rintro e w' ⟨rfl, rfl⟩; rw [HA.out])
            | (go_at_call 55; refine (rf_digit _ _).mono ?_; rintro e w' ⟨rfl, rfl⟩; rw [HD.out]))
          go_round
          case rel => exact ⟨k + 1, by omega, by go_num, HX⟩
          case measure => simp [intOf]; omega
        · have HD := Lib.hid hd
          by_cases hu : s[k].toNat = 95
          · have b1 : ((s[k].toNat : Int) == 95) = true := by rw [hu]; rfl
            have hw : wch s[k] = true := by
              unfold wch
              have : s[k] = 95 := by rw [eq_of_nat hu]; rfl
              rw [this]
              rfl
            have HX := HNX.out hlt hw
            clear ha hd hu hw
            go_wp2_with (first
              | (go_at_call 52; refine (rf_letter _ _).mono ?_; rintro e w' ⟨rfl, rfl⟩; rw [HA.out])
              | (go_at_call 55; refine (rf_digit _ _).mono ?_; rintro e w' ⟨rfl, rfl⟩; rw [HD.out]))
            go_round
            case rel => exact ⟨k + 1, by omega, by go_num, HX⟩
            case measure => simp [intOf]; omega
          · have b1 : ((s[k].toNat : Int) == 95) = false := by rw [beq_eq_false_iff_ne]; omega
            have hw : wch s[k] = false := by
              unfold wch
              rw [ha, hd]
              simp only [Bool.false_or, decide_eq_false_iff_not]
              exact ne_of_nat (n := 95) (by omega) hu
            have hE : N = k := by
              rw [HN.out]
              exact tw_len k _ HJ.out (.inr ⟨_, at_some s k hlt, hw⟩)
            have HE := Lib.hid hE
            clear ha hd hu hw hE
            go_wp2_with (first
              | (go_at_call 52; refine (rf_letter _ _).mono ?_; rintro e w' ⟨rfl, rfl⟩; rw [HA.out])
              | (go_at_call 55; refine (rf_digit _ _).mono ?_; rintro e w' ⟨rfl, rfl⟩; rw [HD.out]))
            go_ret
            exact ⟨by rw [HE.out]; rfl, rfl⟩
    · have hE : N = k := by
        rw [HN.out]
        exact tw_len k _ HJ.out (.inl (List.getElem?_eq_none_iff.2 (by rw [HSL.out]; omega)))
      have HE := Lib.hid hE
      clear hE
      go_wp2
      go_ret
      exact ⟨by rw [HE.out]; rfl, rfl⟩

theorem numF_dash {l : List UInt8} (h : l[0]? = some 45) {k : Nat} (h1 : 1 ≤ k) (hj : ∀ j, 1 ≤ j → j < k → ∃ c, l[j]? = some c ∧ dgt c = true) (he : l[k]? = none ∨ ∃ c, l[k]? = some c ∧ dgt c = false) : numF l = k := by
  match l, h with
  | c :: r, h =>
    have : c = 45 := by simpa using h
    subst this
    unfold numF
    rw [if_pos (by rfl)]
    show 1 + (r.takeWhile dgt).length = k
    obtain ⟨m, rfl⟩ : ∃ m, k = m + 1 := ⟨k - 1, by omega⟩
    rw [tw_len m r (fun j hj' => by have := hj (j + 1) (by omega) (by omega); simpa using this) (by simpa using he)]
    omega
theorem numF_plain {l : List UInt8} (h : l[0]? ≠ some 45) {k : Nat} (hj : ∀ j, j < k → ∃ c, l[j]? = some c ∧ dgt c = true) (he : l[k]? = none ∨ ∃ c, l[k]? = some c ∧ dgt c = false) : numF l = k := by
  unfold numF
  rw [if_neg (by rw [List.head?_eq_getElem?]; exact h)]
  exact tw_len k l hj he

set_option maxRecDepth 100000 in
set_option maxHeartbeats 4000000 in
theorem rf_number (s : ByteArray) (w : World) (hs : s.size ≤ 300) (h0 : 0 < s.size) : Calls Try.prog 56 #[.string s] w fun e w' => e = .returned (.int .i64 (numF s.data.toList)) ∧ w = w' := by
  obtain ⟨N, hN⟩ : ∃ N, N = numF s.data.toList := ⟨_, rfl⟩
  rw [← hN]
  have HN := Lib.hid hN
  have hsl : s.data.toList.length = s.size := rfl
  have HSL := Lib.hid hsl
  have hat := at_some s 0 h0
  obtain ⟨m, hm, hmz⟩ : ∃ m : Nat, (m = 1 ∧ s[0].toNat = 45 ∨ m = 0 ∧ ¬ s[0].toNat = 45) ∧ m ≤ s.size := by
    by_cases h : s[0].toNat = 45
    · exact ⟨1, .inl ⟨rfl, h⟩, by omega⟩
    · exact ⟨0, .inr ⟨rfl, h⟩, by omega⟩
  have hend : Hid (∀ k : Nat, m ≤ k → (∀ j, m ≤ j → j < k → ∃ c, s.data.toList[j]? = some c ∧ dgt c = true) → (s.data.toList[k]? = none ∨ ∃ c, s.data.toList[k]? = some c ∧ dgt c = false) → N = k) := Lib.hid (fun k hk hj he => by
    rw [HN.out]
    rcases hm with ⟨rfl, h⟩ | ⟨rfl, h⟩
    · exact numF_dash (by rw [hat, eq_of_nat h]; rfl) hk hj he
    · refine numF_plain (fun e => h ?_) (fun j h1 => hj j (by omega) h1) he
      rw [hat] at e
      rw [Option.some.inj e]
      rfl)
  have HM := Lib.hid hm
  clear hN hsl hat hm
  have loop : ∀ (k : Nat), Hid (∀ j, m ≤ j → j < k → ∃ c, s.data.toList[j]? = some c ∧ dgt c = true) → ∀ (hlt : k < s.size), dgt s[k] = true → Hid (∀ j, m ≤ j → j < k + 1 → ∃ c, s.data.toList[j]? = some c ∧ dgt c = true) := fun k HJ hlt hd => Lib.hid (fun j h1 h2 => by
    by_cases h : j = k
    · subst h; exact ⟨_, at_some s j hlt, hd⟩
    · exact HJ.out j h1 (by omega))
  have HLP := Lib.hid loop
  clear loop
  have bs : (((s[0].toNat : Int) == 45) = true ∧ m = 1) ∨ (((s[0].toNat : Int) == 45) = false ∧ m = 0) := by
    rcases HM.out with ⟨h1, h⟩ | ⟨h1, h⟩
    · exact .inl ⟨by rw [h]; rfl, h1⟩
    · exact .inr ⟨by rw [beq_eq_false_iff_ne]; omega, h1⟩
  rcases bs with ⟨b1, hm⟩ | ⟨b1, hm⟩
  all_goals
    have HMM := Lib.hid hm
    clear hm
    go_enter Try.func56, Try.ntmps56
    go_wp2
    go_loop [3] (fun i => ∃ k : Nat, k ≤ s.size ∧ i = .int .i64 k ∧ Hid (∀ j, m ≤ j → j < k → ∃ c, s.data.toList[j]? = some c ∧ dgt c = true) ∧ m ≤ k) (fun i => s.size - (intOf i).toNat)
    case atStart => exact ⟨m, hmz, by rw [HMM.out]; rfl, Lib.hid (fun j h1 h2 => by omega), Nat.le_refl _⟩
    case round =>
      obtain ⟨k, hk, rfl, HJ, hmk⟩ := hrel
      by_cases hlt : k < s.size
      · rcases Bool.eq_false_or_eq_true (dgt s[k]) with hd | hd
        · have HD := Lib.hid hd
          have HX := HLP.out k HJ hlt hd
          clear hd
          go_wp2_with (go_at_call 55; refine (rf_digit _ _).mono ?_; rintro e w' ⟨rfl, rfl⟩; rw [HD.out])
          go_round
          case rel => exact ⟨k + 1, by omega, by go_num, HX, by omega⟩
          case measure => simp [intOf]; omega
        · have HD := Lib.hid hd
          have HE := Lib.hid (hend.out k hmk HJ.out (.inr ⟨_, at_some s k hlt, hd⟩))
          clear hd
          go_wp2_with (go_at_call 55; refine (rf_digit _ _).mono ?_; rintro e w' ⟨rfl, rfl⟩; rw [HD.out])
          go_ret
          exact ⟨by rw [HE.out]; rfl, rfl⟩
      · have HE := Lib.hid (hend.out k hmk HJ.out (.inl (List.getElem?_eq_none_iff.2 (by rw [HSL.out]; omega))))
        go_wp2
        go_ret
        exact ⟨by rw [HE.out]; rfl, rfl⟩

set_option maxHeartbeats 2000000 in
theorem rf_text (s : ByteArray) (w : World) (hs : s.size ≤ 300) : Calls Try.prog 57 #[.string s] w fun e w' => e = .returned (.int .i64 (txtF (s.data.toList.drop 1) 1)) ∧ w = w' := by
  obtain ⟨R, hR⟩ : ∃ R, R = txtF (s.data.toList.drop 1) 1 := ⟨_, rfl⟩
  rw [← hR]
  have HR := Lib.hid hR.symm
  have hsl : s.data.toList.length = s.size := rfl
  have HL := Lib.hid hsl
  clear hR hsl
  go_enter Try.func57, Try.ntmps57
  go_wp2
  go_loop [3] (fun i => ∃ k : Nat, 1 ≤ k ∧ k ≤ s.size + 1 ∧ i = .int .i64 k ∧ Hid (txtF (s.data.toList.drop k) k = R)) (fun i => s.size + 1 - (intOf i).toNat)
  case atStart => exact ⟨1, by omega, by omega, rfl, HR⟩
  case round =>
    obtain ⟨k, hk1, hk, rfl, HK⟩ := hrel
    by_cases hlt : k < s.size
    · have hat := at_some s k hlt
      by_cases h1 : s[k].toNat = 92
      · have b1 : ((s[k].toNat : Int) == 92) = true := by rw [h1]; rfl
        have HE := Lib.hid ((txtF_92 (by rw [hat, eq_of_nat h1]; rfl)).symm.trans HK.out)
        clear h1 hat
        go_wp2
        go_round
        case rel => exact ⟨k + 2, by omega, by omega, by go_num, HE⟩
        case measure => simp [intOf]; omega
      · have b1 : ((s[k].toNat : Int) == 92) = false := by rw [beq_eq_false_iff_ne]; omega
        by_cases h2 : s[k].toNat = 34
        · have b2 : ((s[k].toNat : Int) == 34) = true := by rw [h2]; rfl
          have hE := (txtF_34 (by rw [hat, eq_of_nat h2]; rfl)).symm.trans HK.out
          have HE := Lib.hid hE
          clear h1 h2 hat hE
          go_wp2
          go_ret
          exact ⟨by rw [← HE.out]; rfl, rfl⟩
        · have b2 : ((s[k].toNat : Int) == 34) = false := by rw [beq_eq_false_iff_ne]; omega
          have HE := Lib.hid ((txtF_other hat (ne_of_nat (n := 92) (by omega) h1) (ne_of_nat (n := 34) (by omega) h2)).symm.trans HK.out)
          clear h1 h2 hat
          go_wp2
          go_round
          case rel => exact ⟨k + 1, by omega, by omega, by go_num, HE⟩
          case measure => simp [intOf]; omega
    · have hE := (txtF_over (l := s.data.toList) (k := k) (by rw [HL.out]; omega)).symm.trans HK.out
      have HE := Lib.hid hE
      clear hE
      go_wp2
      go_ret
      exact ⟨by rw [← HE.out]; rfl, rfl⟩
end
end Go.Proofs.Ythdjkagodccdbaa
namespace Go.Proofs.Ythdjkagodccdbaa
section
open Go.RowKit

theorem equal_val' (d : Nat) (k : Int) (f : Bool) (n : Int) (t : ByteArray) (w : World) :
    (Op.equalIn (d + 1 + 1) 59 (.agg #[.int .i64 k, .bool f, .int .i64 n, .string t]) (.agg #[.int .i64 k, .bool f, .int .i64 n, .string t])).run Try.prog w = .ok true w := by
  have hS : Try.prog.underlying 59 = some (.struct (Try.prog.fieldsOf 59)) := by kernel_rfl
  rw [run_equalIn_agg w (d + 1) 59 _ _ hS (by kernel_rfl)]
  simp only [Program.fieldsOf, Try.underlying59]
  go_simp
set_option maxHeartbeats 1000000 in
theorem equal_tok (k : Int) (t : ByteArray) (vk : Int) (vf : Bool) (vn : Int) (vt : ByteArray) (a : Int) (w : World) :
    (Op.equalIn 10000 61 (.agg #[.int .i64 k, .string t, .int .i64 vk, .bool vf, .int .i64 vn, .string vt, .int .i64 a]) (.agg #[.int .i64 k, .string t, .int .i64 vk, .bool vf, .int .i64 vn, .string vt, .int .i64 a])).run Try.prog w = .ok true w := by
  have hS : Try.prog.underlying 61 = some (.struct (Try.prog.fieldsOf 61)) := by kernel_rfl
  have hv := equal_val' 9997 vk vf vn vt w
  rw [show (10000 : Nat) = 9999 + 1 from rfl, run_equalIn_agg w 9999 61 _ _ hS (by kernel_rfl)]
  simp only [Program.fieldsOf, Try.underlying61]
  go_simp
end
end Go.Proofs.Ythdjkagodccdbaa
