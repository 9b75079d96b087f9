/-
  The document's own next token where a number, a text or a sign stands; nothing that was there is changed.
  Condition: a text of at most 300 bytes, and of one at least.
  The document's own Read of tokens answers what Read of package lex answers; tokens copied, and compared, are the same; LexReads of verdererlaw11 answers true at every text; nothing that was there is changed.
  Condition: the library's variables are as the program's text lays them.
-/
import Derived.RegionTactic
import Derived.ChangeAlike
import Derived.Deep.RegionLaw
import Derived.Test.YthdjkagodccdbaaM12
import Derived.Test.YthdjkagodccdbaaM13
namespace Go.Proofs.Ythdjkagodccdbaa
section
open Go.RowKit

theorem one_no {l : List UInt8} {w w' : World} (hok : okT l = false) (hb : Below w.heap.size w w') : IsOne l w (.returned (.tuple #[.agg #[.int .i64 0, .string ⟨#[]⟩, .int .i64 0, .bool false, .int .i64 0, .string ⟨#[]⟩, .int .i64 0], .bool false])) w' :=
  ⟨0, ⟨#[]⟩, 0, false, 0, ⟨#[]⟩, by rw [hok], (fun h => by rw [hok] at h; cases h), hb⟩
theorem one_yes {l : List UInt8} {w w' : World} {b : Bool} {k : Int} {t : ByteArray} {vk : Int} {vf : Bool} {vn : Int} {vt : ByteArray} (hok : okT l = b) (hR : b = true → oneT l = ⟨k, t, ⟨vk, vf, vn, vt⟩, 0⟩) (hb : Below w.heap.size w w') :
    IsOne l w (.returned (.tuple #[.agg #[.int .i64 k, .string t, .int .i64 vk, .bool vf, .int .i64 vn, .string vt, .int .i64 0], .bool b])) w' :=
  ⟨k, t, vk, vf, vn, vt, by rw [hok], (fun h => hR (by rw [hok] at h; exact h)), hb⟩

set_option maxRecDepth 100000 in
set_option maxHeartbeats 4000000 in
theorem rf_one_num (s : ByteArray) (w : World) (hs : s.size ≤ 300) (h0 : 0 < s.size) (hl : ltr s[0] = false) (hn : dgt s[0] = true ∨ s[0].toNat = 45) : Calls Try.prog 37 #[.string s] w (IsOne s.data.toList w) := by
  have hsl : s.data.toList.length = s.size := rfl
  have hnl := numF_le s.data.toList
  obtain ⟨N, hN⟩ : ∃ N, N = numF s.data.toList := ⟨_, rfl⟩
  have hNs : N ≤ s.size := by omega
  have hone : oneT s.data.toList = if ltu (s.data.toList.drop N) = true then noT else conT (s.data.toList.take N) := by
    match e : s.data.toList with
    | [] => rw [e] at hsl; simp at hsl; omega
    | c :: r =>
      have hc : s[0] = c := by
        have h := at_some s 0 h0
        rw [e] at h
        exact (Option.some.inj h).symm
      rw [hc] at hl hn
      have h2 : (dgt c || decide (c = 45)) = true := by
        rcases hn with h | h
        · rw [h]; rfl
        · rw [eq_of_nat h]; rfl
      have h1 : c ≠ 34 := by intro h; subst h; revert h2; decide
      rw [oneT_cons, if_neg h1, if_pos h2, hN, e]
      rfl
  have hN0 : 0 < N := by
    rw [hN]
    unfold numF
    split
    · omega
    · rename_i h3
      match e : s.data.toList with
      | [] => rw [e] at hsl; simp at hsl; omega
      | c :: r =>
        have hc : s[0] = c := by
          have h := at_some s 0 h0
          rw [e] at h
          exact (Option.some.inj h).symm
        rw [hc] at hn
        rw [e] at h3
        rcases hn with h | h
        · rw [List.takeWhile_cons_of_pos h]; simp
        · rw [eq_of_nat h] at h3; exact absurd rfl h3
  have HA := Lib.hid hl
  have HW : Hid (∀ W, Calls Try.prog 56 #[.string s] W fun e w' => e = .returned (.int .i64 (N : Int)) ∧ W = w') := Lib.hid (fun W => by
    have h := rf_number s W hs h0
    rw [← hN] at h
    exact h)
  have hd : ∃ b : Bool, dgt s[0] = b ∧ (b = false → ((s[0].toNat : Int) == 45) = true) := ⟨_, rfl, fun h => by
    rcases hn with h1 | h1
    · rw [h] at h1; cases h1
    · rw [h1]; rfl⟩
  obtain ⟨bd, hbd, hb45⟩ := hd
  have HD := Lib.hid hbd
  have HB45 := Lib.hid hb45
  clear hl hn hbd hb45
  have hwrong : ∀ (hlt : N < s.size) (bl : Bool), ltr s[N] = bl → (bl = false → ((s[N].toNat : Int) == 95) = true) → Calls Try.prog 37 #[.string s] w (IsOne s.data.toList w) := by
    intro hlt bl hbl hu
    have hltu : ltu (s.data.toList.drop N) = true := by
      rw [drop_cons (at_some s N hlt)]
      show (ltr s[N] || decide (s[N] = 95)) = true
      rw [hbl]
      cases bl
      · have h := hu rfl
        have h2 : s[N].toNat = 95 := by have := of_decide_eq_true (by simpa using h : decide ((s[N].toNat : Int) = 95) = true); omega
        rw [eq_of_nat h2]; rfl
      · rfl
    have hr : oneT s.data.toList = noT := by rw [hone, if_pos hltu]
    have hok : okT s.data.toList = false := by unfold okT; rw [hr]; rfl
    have HOK := Lib.hid hok
    have HBL := Lib.hid hbl
    clear hsl hnl hone hltu hr hok hbl hN
    cases bl
    · have b1 := hu rfl
      clear hu
      cases bd
      · have b2 := HB45.out rfl
        go_enter Try.func37, Try.ntmps37
        go_wp2_with (first
          | (go_at_call 52; refine (rf_letter _ _).mono ?_; rintro e w1 ⟨rfl, rfl⟩; first | rw [HA.out] | rw [HBL.out])
          | (go_at_call 55; refine (rf_digit _ _).mono ?_; rintro e w1 ⟨rfl, rfl⟩; rw [HD.out])
          | (go_at_call 56; refine (HW.out _).mono ?_; rintro e w1 ⟨rfl, rfl⟩))
        exact bodyPost_ret (v := .tuple #[.agg #[.int .i64 0, .string ⟨#[]⟩, .int .i64 0, .bool false, .int .i64 0, .string ⟨#[]⟩, .int .i64 0], .bool false]) (by simp [results, Try.results37, go_sem]) rfl (one_no HOK.out (one_new _ _))
      · go_enter Try.func37, Try.ntmps37
        go_wp2_with (first
          | (go_at_call 52; refine (rf_letter _ _).mono ?_; rintro e w1 ⟨rfl, rfl⟩; first | rw [HA.out] | rw [HBL.out])
          | (go_at_call 55; refine (rf_digit _ _).mono ?_; rintro e w1 ⟨rfl, rfl⟩; rw [HD.out])
          | (go_at_call 56; refine (HW.out _).mono ?_; rintro e w1 ⟨rfl, rfl⟩))
        exact bodyPost_ret (v := .tuple #[.agg #[.int .i64 0, .string ⟨#[]⟩, .int .i64 0, .bool false, .int .i64 0, .string ⟨#[]⟩, .int .i64 0], .bool false]) (by simp [results, Try.results37, go_sem]) rfl (one_no HOK.out (one_new _ _))
    · clear hu
      cases bd
      · have b2 := HB45.out rfl
        go_enter Try.func37, Try.ntmps37
        go_wp2_with (first
          | (go_at_call 52; refine (rf_letter _ _).mono ?_; rintro e w1 ⟨rfl, rfl⟩; first | rw [HA.out] | rw [HBL.out])
          | (go_at_call 55; refine (rf_digit _ _).mono ?_; rintro e w1 ⟨rfl, rfl⟩; rw [HD.out])
          | (go_at_call 56; refine (HW.out _).mono ?_; rintro e w1 ⟨rfl, rfl⟩))
        exact bodyPost_ret (v := .tuple #[.agg #[.int .i64 0, .string ⟨#[]⟩, .int .i64 0, .bool false, .int .i64 0, .string ⟨#[]⟩, .int .i64 0], .bool false]) (by simp [results, Try.results37, go_sem]) rfl (one_no HOK.out (one_new _ _))
      · go_enter Try.func37, Try.ntmps37
        go_wp2_with (first
          | (go_at_call 52; refine (rf_letter _ _).mono ?_; rintro e w1 ⟨rfl, rfl⟩; first | rw [HA.out] | rw [HBL.out])
          | (go_at_call 55; refine (rf_digit _ _).mono ?_; rintro e w1 ⟨rfl, rfl⟩; rw [HD.out])
          | (go_at_call 56; refine (HW.out _).mono ?_; rintro e w1 ⟨rfl, rfl⟩))
        exact bodyPost_ret (v := .tuple #[.agg #[.int .i64 0, .string ⟨#[]⟩, .int .i64 0, .bool false, .int .i64 0, .string ⟨#[]⟩, .int .i64 0], .bool false]) (by simp [results, Try.results37, go_sem]) rfl (one_no HOK.out (one_new _ _))
  have hright : ltu (s.data.toList.drop N) = false → (N = s.size ∨ ∃ (hlt : N < s.size), ltr s[N] = false ∧ ((s[N].toNat : Int) == 95) = false) → Calls Try.prog 37 #[.string s] w (IsOne s.data.toList w) := by
    intro hltu hw
    have hr : oneT s.data.toList = conT (s.data.toList.take N) := by rw [hone, if_neg (by rw [hltu]; simp)]
    obtain ⟨vk, vf, vn, vt, z, b, hrd, hzb, hkb, hcon⟩ := con_cases s N (s.data.toList.take N) (ext_take s N) (by rw [List.length_take]; omega)
    subst hzb
    have HRD := Lib.hid hrd
    have hok : okT s.data.toList = (z == 0) := by unfold okT; rw [hr]; exact hkb
    have HOK := Lib.hid hok
    have HR := Lib.hid (fun hb : (z == 0) = true => hr.trans (hcon hb))
    clear hsl hnl hone hltu hr hok hN hrd hkb hcon hwrong
    rcases hw with hw | ⟨hlt, h1, h2⟩
    · have HWW := Lib.hid hw
      have d1 : decide (N < s.size) = false := by simp; omega
      clear hw
      cases bd
      · have b2 := HB45.out rfl
        go_enter Try.func37, Try.ntmps37
        go_wp2_with (first
          | (go_at_call 52; refine (rf_letter _ _).mono ?_; rintro e w1 ⟨rfl, rfl⟩; first | rw [HA.out])
          | (go_at_call 55; refine (rf_digit _ _).mono ?_; rintro e w1 ⟨rfl, rfl⟩; rw [HD.out])
          | (go_at_call 56; refine (HW.out _).mono ?_; rintro e w1 ⟨rfl, rfl⟩))
        refine (HRD.out _).mono ?_
        rintro e w1 ⟨rfl, hb1⟩
        have HB := Lib.hid ((one_new w _).trans (hb1.mono (by simp)))
        obtain ⟨c0, c1, c2, c3, c4, c5, c6, f0, f1, f2, f3, f4, f5, f6, hz2⟩ := box7_later hb1
        clear hb1
        go_wp2
        go_region
        go_wp2
        exact bodyPost_ret (v := .tuple #[.agg #[.int .i64 2, .string (s.extract 0 N), .int .i64 vk, .bool vf, .int .i64 vn, .string vt, .int .i64 0], .bool (z == 0)]) (by simp [results, Try.results37, go_sem, c0, c1, c2, c3, c4, c5, c6, hz2]) rfl (one_yes HOK.out HR.out (Below.drew (bnew' (below_tok HB.out _ _ _ _ _ _ _) (Nat.le_refl _) _)))
      · go_enter Try.func37, Try.ntmps37
        go_wp2_with (first
          | (go_at_call 52; refine (rf_letter _ _).mono ?_; rintro e w1 ⟨rfl, rfl⟩; first | rw [HA.out])
          | (go_at_call 55; refine (rf_digit _ _).mono ?_; rintro e w1 ⟨rfl, rfl⟩; rw [HD.out])
          | (go_at_call 56; refine (HW.out _).mono ?_; rintro e w1 ⟨rfl, rfl⟩))
        refine (HRD.out _).mono ?_
        rintro e w1 ⟨rfl, hb1⟩
        have HB := Lib.hid ((one_new w _).trans (hb1.mono (by simp)))
        obtain ⟨c0, c1, c2, c3, c4, c5, c6, f0, f1, f2, f3, f4, f5, f6, hz2⟩ := box7_later hb1
        clear hb1
        go_wp2
        go_region
        go_wp2
        exact bodyPost_ret (v := .tuple #[.agg #[.int .i64 2, .string (s.extract 0 N), .int .i64 vk, .bool vf, .int .i64 vn, .string vt, .int .i64 0], .bool (z == 0)]) (by simp [results, Try.results37, go_sem, c0, c1, c2, c3, c4, c5, c6, hz2]) rfl (one_yes HOK.out HR.out (Below.drew (bnew' (below_tok HB.out _ _ _ _ _ _ _) (Nat.le_refl _) _)))
    · have HBL := Lib.hid h1
      clear h1
      cases bd
      · have b2 := HB45.out rfl
        go_enter Try.func37, Try.ntmps37
        go_wp2_with (first
          | (go_at_call 52; refine (rf_letter _ _).mono ?_; rintro e w1 ⟨rfl, rfl⟩; first | rw [HA.out] | rw [HBL.out])
          | (go_at_call 55; refine (rf_digit _ _).mono ?_; rintro e w1 ⟨rfl, rfl⟩; rw [HD.out])
          | (go_at_call 56; refine (HW.out _).mono ?_; rintro e w1 ⟨rfl, rfl⟩))
        refine (HRD.out _).mono ?_
        rintro e w1 ⟨rfl, hb1⟩
        have HB := Lib.hid ((one_new w _).trans (hb1.mono (by simp)))
        obtain ⟨c0, c1, c2, c3, c4, c5, c6, f0, f1, f2, f3, f4, f5, f6, hz2⟩ := box7_later hb1
        clear hb1
        go_wp2
        go_region
        go_wp2
        exact bodyPost_ret (v := .tuple #[.agg #[.int .i64 2, .string (s.extract 0 N), .int .i64 vk, .bool vf, .int .i64 vn, .string vt, .int .i64 0], .bool (z == 0)]) (by simp [results, Try.results37, go_sem, c0, c1, c2, c3, c4, c5, c6, hz2]) rfl (one_yes HOK.out HR.out (Below.drew (bnew' (below_tok HB.out _ _ _ _ _ _ _) (Nat.le_refl _) _)))
      · go_enter Try.func37, Try.ntmps37
        go_wp2_with (first
          | (go_at_call 52; refine (rf_letter _ _).mono ?_; rintro e w1 ⟨rfl, rfl⟩; first | rw [HA.out] | rw [HBL.out])
          | (go_at_call 55; refine (rf_digit _ _).mono ?_; rintro e w1 ⟨rfl, rfl⟩; rw [HD.out])
          | (go_at_call 56; refine (HW.out _).mono ?_; rintro e w1 ⟨rfl, rfl⟩))
        refine (HRD.out _).mono ?_
        rintro e w1 ⟨rfl, hb1⟩
        have HB := Lib.hid ((one_new w _).trans (hb1.mono (by simp)))
        obtain ⟨c0, c1, c2, c3, c4, c5, c6, f0, f1, f2, f3, f4, f5, f6, hz2⟩ := box7_later hb1
        clear hb1
        go_wp2
        go_region
        go_wp2
        exact bodyPost_ret (v := .tuple #[.agg #[.int .i64 2, .string (s.extract 0 N), .int .i64 vk, .bool vf, .int .i64 vn, .string vt, .int .i64 0], .bool (z == 0)]) (by simp [results, Try.results37, go_sem, c0, c1, c2, c3, c4, c5, c6, hz2]) rfl (one_yes HOK.out HR.out (Below.drew (bnew' (below_tok HB.out _ _ _ _ _ _ _) (Nat.le_refl _) _)))
  by_cases hlt : N < s.size
  · rcases Bool.eq_false_or_eq_true (ltr s[N]) with h1 | h1
    · exact hwrong hlt true h1 (fun h => by cases h)
    · by_cases h2 : s[N].toNat = 95
      · exact hwrong hlt false h1 (fun _ => by rw [h2]; rfl)
      · refine hright ?_ (.inr ⟨hlt, h1, by rw [beq_eq_false_iff_ne]; omega⟩)
        rw [drop_cons (at_some s N hlt)]
        show (ltr s[N] || decide (s[N] = 95)) = false
        rw [h1, Bool.false_or, decide_eq_false_iff_not]
        exact ne_of_nat (n := 95) (by omega) h2
  · refine hright ?_ (.inl (by omega))
    rw [List.drop_eq_nil_of_le (by omega)]
    rfl

set_option maxRecDepth 100000 in
set_option maxHeartbeats 4000000 in
theorem rf_one_quo (s : ByteArray) (w : World) (hs : s.size ≤ 300) (h0 : 0 < s.size) (hn : s[0].toNat = 34) : Calls Try.prog 37 #[.string s] w (IsOne s.data.toList w) := by
  have hsl : s.data.toList.length = s.size := rfl
  obtain ⟨N, hN⟩ : ∃ N, N = txtF (s.data.toList.drop 1) 1 := ⟨_, rfl⟩
  have hNs : N ≤ s.size := by
    have := txtF_le (s.data.toList.drop 1) 1
    rw [List.length_drop] at this
    omega
  have hone : oneT s.data.toList = if N = 0 then noT else conT (s.data.toList.take N) := by
    match e : s.data.toList with
    | [] => rw [e] at hsl; simp at hsl; omega
    | c :: r =>
      have hc : s[0] = c := by
        have h := at_some s 0 h0
        rw [e] at h
        exact (Option.some.inj h).symm
      rw [hc] at hn
      have h1 : c = 34 := eq_of_nat hn
      rw [oneT_cons, if_pos h1, hN, e]
      rfl
  have ha : ltr s[0] = false := by rw [eq_of_nat hn]; rfl
  have hd : dgt s[0] = false := by rw [eq_of_nat hn]; rfl
  have HA := Lib.hid ha
  have HD := Lib.hid hd
  have HW : Hid (∀ W, Calls Try.prog 57 #[.string s] W fun e w' => e = .returned (.int .i64 (N : Int)) ∧ W = w') := Lib.hid (fun W => by
    have h := rf_text s W hs
    rw [← hN] at h
    exact h)
  have b1 : ((s[0].toNat : Int) == 45) = false := by rw [hn]; rfl
  have b2 : ((s[0].toNat : Int) == 34) = true := by rw [hn]; rfl
  by_cases hz : N = 0
  · have hr : oneT s.data.toList = noT := by rw [hone, if_pos hz]
    have hok : okT s.data.toList = false := by unfold okT; rw [hr]; rfl
    have HOK := Lib.hid hok
    clear hsl hone hr hok ha hd hn hN
    subst hz
    go_enter Try.func37, Try.ntmps37
    go_wp2_with (first
      | (go_at_call 52; refine (rf_letter _ _).mono ?_; rintro e w1 ⟨rfl, rfl⟩; rw [HA.out])
      | (go_at_call 55; refine (rf_digit _ _).mono ?_; rintro e w1 ⟨rfl, rfl⟩; rw [HD.out])
      | (go_at_call 57; refine (HW.out _).mono ?_; rintro e w1 ⟨rfl, rfl⟩))
    exact bodyPost_ret (v := .tuple #[.agg #[.int .i64 0, .string ⟨#[]⟩, .int .i64 0, .bool false, .int .i64 0, .string ⟨#[]⟩, .int .i64 0], .bool false]) (by simp [results, Try.results37, go_sem]) rfl (one_no HOK.out (one_new _ _))
  · have hr : oneT s.data.toList = conT (s.data.toList.take N) := by rw [hone, if_neg hz]
    have hN0 : 0 < N := by omega
    obtain ⟨vk, vf, vn, vt, z, b, hrd, hzb, hkb, hcon⟩ := con_cases s N (s.data.toList.take N) (ext_take s N) (by rw [List.length_take]; omega)
    subst hzb
    have HRD := Lib.hid hrd
    have hok : okT s.data.toList = (z == 0) := by unfold okT; rw [hr]; exact hkb
    have HOK := Lib.hid hok
    have HR := Lib.hid (fun hb : (z == 0) = true => hr.trans (hcon hb))
    clear hsl hone hr hok hN hrd hkb hcon hz ha hd hn
    go_enter Try.func37, Try.ntmps37
    go_wp2_with (first
      | (go_at_call 52; refine (rf_letter _ _).mono ?_; rintro e w1 ⟨rfl, rfl⟩; rw [HA.out])
      | (go_at_call 55; refine (rf_digit _ _).mono ?_; rintro e w1 ⟨rfl, rfl⟩; rw [HD.out])
      | (go_at_call 57; refine (HW.out _).mono ?_; rintro e w1 ⟨rfl, rfl⟩))
    refine (HRD.out _).mono ?_
    rintro e w1 ⟨rfl, hb1⟩
    have HB := Lib.hid ((one_new w _).trans (hb1.mono (by simp)))
    obtain ⟨c0, c1, c2, c3, c4, c5, c6, f0, f1, f2, f3, f4, f5, f6, hz2⟩ := box7_later hb1
    clear hb1
    go_wp2
    go_region
    go_wp2
    exact bodyPost_ret (v := .tuple #[.agg #[.int .i64 2, .string (s.extract 0 N), .int .i64 vk, .bool vf, .int .i64 vn, .string vt, .int .i64 0], .bool (z == 0)]) (by simp [results, Try.results37, go_sem, c0, c1, c2, c3, c4, c5, c6, hz2]) rfl (one_yes HOK.out HR.out (Below.drew (bnew' (below_tok HB.out _ _ _ _ _ _ _) (Nat.le_refl _) _)))

set_option maxRecDepth 100000 in
set_option maxHeartbeats 4000000 in
theorem rf_one_sign (s : ByteArray) (w : World) (hs : s.size ≤ 300) (h0 : 0 < s.size) (ha : ltr s[0] = false) (hd : dgt s[0] = false) (h45 : ¬ s[0].toNat = 45) (h34 : ¬ s[0].toNat = 34) : Calls Try.prog 37 #[.string s] w (IsOne s.data.toList w) := by
  have hsl : s.data.toList.length = s.size := rfl
  obtain ⟨N, hN⟩ : ∃ N, N = sgnF s.data.toList := ⟨_, rfl⟩
  have hNs : N ≤ s.size := by
    have := sgnF_le s.data.toList
    omega
  have hone : oneT s.data.toList = if N = 0 then noT else ⟨3, ⟨(s.data.toList.take N).toArray⟩, noV, 0⟩ := by
    match e : s.data.toList with
    | [] => rw [e] at hsl; simp at hsl; omega
    | c :: r =>
      have hc : s[0] = c := by
        have h := at_some s 0 h0
        rw [e] at h
        exact (Option.some.inj h).symm
      rw [hc] at ha hd h45 h34
      have h1 : c ≠ 34 := ne_of_nat (n := 34) (by omega) h34
      have h2 : (dgt c || decide (c = 45)) = false := by
        rw [hd, Bool.false_or, decide_eq_false_iff_not]
        exact ne_of_nat (n := 45) (by omega) h45
      rw [oneT_cons, if_neg h1, if_neg (by rw [h2]; simp), if_neg (by rw [ha]; simp), hN, e]
      rfl
  have hmk : (⟨(s.data.toList.take N).toArray⟩ : ByteArray) = s.extract 0 N := by rw [← ext_take]
  rw [hmk] at hone
  have HA := Lib.hid ha
  have HD := Lib.hid hd
  have HW : Hid (∀ W, Calls Try.prog 58 #[.string s] W fun e w' => e = .returned (.int .i64 (N : Int)) ∧ W = w') := Lib.hid (fun W => by
    have h := rf_sign s W hs h0
    rw [← hN] at h
    exact h)
  have b1 : ((s[0].toNat : Int) == 45) = false := by rw [beq_eq_false_iff_ne]; omega
  have b2 : ((s[0].toNat : Int) == 34) = false := by rw [beq_eq_false_iff_ne]; omega
  have hok : okT s.data.toList = decide (0 < N) := by
    unfold okT
    rw [hone]
    by_cases hz : N = 0
    · rw [if_pos hz, hz]; rfl
    · rw [if_neg hz, decide_eq_true (show 0 < N by omega)]; rfl
  have hR : decide (0 < N) = true → oneT s.data.toList = ⟨3, s.extract 0 N, ⟨0, false, 0, ⟨#[]⟩⟩, 0⟩ := fun h => by
    rw [hone, if_neg (by have := of_decide_eq_true h; omega)]
    rfl
  have HOK := Lib.hid hok
  have HR := Lib.hid hR
  clear hsl hone hok ha hd hN h45 h34 hmk hR
  go_enter Try.func37, Try.ntmps37
  go_wp2_with (first
    | (go_at_call 52; refine (rf_letter _ _).mono ?_; rintro e w1 ⟨rfl, rfl⟩; rw [HA.out])
    | (go_at_call 55; refine (rf_digit _ _).mono ?_; rintro e w1 ⟨rfl, rfl⟩; rw [HD.out])
    | (go_at_call 58; refine (HW.out _).mono ?_; rintro e w1 ⟨rfl, rfl⟩))
  exact bodyPost_ret (v := .tuple #[.agg #[.int .i64 3, .string (s.extract 0 N), .int .i64 0, .bool false, .int .i64 0, .string ⟨#[]⟩, .int .i64 0], .bool (decide (0 < N))]) (by simp [results, Try.results37, go_sem]) rfl (one_yes HOK.out HR.out (one_new _ _))

theorem rf_one (s : ByteArray) (w : World) (hs : s.size ≤ 300) (h0 : 0 < s.size) : Calls Try.prog 37 #[.string s] w (IsOne s.data.toList w) := by
  rcases Bool.eq_false_or_eq_true (ltr s[0]) with ha | ha
  · exact rf_one_word s w hs h0 ha
  · rcases Bool.eq_false_or_eq_true (dgt s[0]) with hd | hd
    · exact rf_one_num s w hs h0 ha (.inl hd)
    · by_cases h45 : s[0].toNat = 45
      · exact rf_one_num s w hs h0 ha (.inr h45)
      · by_cases h34 : s[0].toNat = 34
        · exact rf_one_quo s w hs h0 h34
        · exact rf_one_sign s w hs h0 ha hd h45 h34
end
end Go.Proofs.Ythdjkagodccdbaa
namespace Go.Proofs.Ythdjkagodccdbaa
section
open Go.RowKit

theorem lexA_blk (n : Nat) (c : UInt8) (r : List UInt8) (h : blk c = true) : lexA n (c :: r) = lexA n r := by
  rw [lexA_step, lexA_step n r, List.dropWhile_cons_of_pos h]
theorem lexA_at (n : Nat) (l : List UInt8) (hne : ∀ c r, l = c :: r → blk c = false) : lexA n l = (oneT l).set ((n : Int) - (l.length : Int)) :: (if (oneT l).t.size = 0 then [] else lexA n (l.drop (oneT l).t.size)) := by
  have e : l.dropWhile blk = l := by
    match l with
    | [] => rfl
    | c :: r => rw [List.dropWhile_cons_of_neg (by rw [hne c r rfl]; simp)]
  rw [lexA_step, e]

set_option maxRecDepth 100000 in
set_option maxHeartbeats 4000000 in
theorem rf_lex (s : ByteArray) (w : World) : Calls Try.prog 17 #[.string s] w fun e w' => ∃ A c, e = .returned (.tuple #[.slice A (lexR s.data.toList).1.length c, .int .i64 (lexR s.data.toList).2.1, .int .i64 (lexR s.data.toList).2.2]) ∧ ToksAt w' A (lexR s.data.toList).1 ∧ (∀ a, A = some a → ∃ g, a = ⟨g, 0, none⟩) ∧ Below w.heap.size w w' := by
  have hsl : s.data.toList.length = s.size := rfl
  by_cases hbig : 300 < s.size
  · have hr : lexR s.data.toList = ([], 0, 9) := by unfold lexR; rw [hsl, if_pos hbig]
    rw [hr]
    clear hr hsl
    go_enter Try.func17, Try.ntmps17
    go_wp2
    go_ret3
    exact ⟨none, 0, rfl, fun j u hj => by simp [flatT] at hj, fun a h => (by cases h), Below.refl _ _⟩
  · have hs : s.size ≤ 300 := by omega
    clear hbig
    obtain ⟨ys, hys⟩ : ∃ ys, ys = lexA s.size s.data.toList := ⟨_, rfl⟩
    have hlx : ∀ q x rest, ys = q ++ x :: rest → (∀ y ∈ q, y.k ≠ 0) → x.k = 0 → lexR s.data.toList = ([], x.a, 7) := by
      intro q x rest h1 h2 h3
      unfold lexR
      have e : (lexA s.size s.data.toList).find? (fun t => decide (t.k = 0)) = some x := by
        rw [← hys, h1, List.find?_append, List.find?_eq_none.2 (fun y hy => by simpa using h2 y hy)]
        simp [h3]
      rw [hsl, if_neg (by omega), e]
    have hlr : (∀ y ∈ ys, y.k ≠ 0) → lexR s.data.toList = (ys, 0, 0) := by
      intro h
      unfold lexR
      rw [hsl, if_neg (by omega), ← hys, List.find?_eq_none.2 (fun y hy => by simpa using h y hy)]
    obtain ⟨RR, hRR⟩ : ∃ RR, RR = lexR s.data.toList := ⟨_, rfl⟩
    rw [← hRR] at hlx hlr ⊢
    have HLX := Lib.hid hlx
    have HLR := Lib.hid hlr
    have HYS := Lib.hid hys
    have HSL := Lib.hid hsl
    clear hlx hlr hys hsl hRR
    go_enter Try.func17, Try.ntmps17
    go_wp2
    go_loopw [5, 6] (fun v p wr => ∃ (a : Nat) (pre : List Tok), p = .int .i64 a ∧ a ≤ s.size ∧ pre.length ≤ a ∧ OwnT 61 wr w.heap.size v pre ∧ Hid (ys = pre ++ lexA s.size (s.data.toList.drop a) ∧ ∀ y ∈ pre, y.k ≠ 0) ∧ Below w.heap.size w wr) (fun _ p _ => s.size - (intOf p).toNat)
    case atStart => exact ⟨0, [], rfl, by omega, by simp, OwnT.nil _ _ _, Lib.hid ⟨by rw [HYS.out]; rfl, fun y hy => by cases hy⟩, Below.refl _ _⟩
    case round =>
      obtain ⟨a, pre, rfl, ha, hpl, hown, HP, hb⟩ := hrel
      have HO := Lib.hid hown
      have HB := Lib.hid hb
      have hsz := hb.size
      clear hown hb
      by_cases hlt : a < s.size
      · have hdc := drop_cons (at_some s a hlt)
        by_cases h32 : s[a].toNat = 32 ∨ s[a].toNat = 10
        · have hbk : blk s[a] = true := by
            rcases h32 with h | h
            · rw [eq_of_nat h]; rfl
            · rw [eq_of_nat h]; rfl
          have hP2 : ys = pre ++ lexA s.size (s.data.toList.drop (a + 1)) ∧ ∀ y ∈ pre, y.k ≠ 0 := ⟨by have h := HP.out.1; rw [hdc, lexA_blk _ _ _ hbk] at h; exact h, HP.out.2⟩
          have HP2 := Lib.hid hP2
          clear hdc hbk hP2
          rcases h32 with h | h
          · have b1 : ((s[a].toNat : Int) == 32) = true := by rw [h]; rfl
            clear h
            go_wp2
            go_roundw
            case rel => exact ⟨a + 1, pre, by go_num, by omega, by omega, HO.out, HP2, HB.out⟩
            case measure => simp [intOf]; omega
          · have b1 : ((s[a].toNat : Int) == 32) = false := by rw [h]; rfl
            have b2 : ((s[a].toNat : Int) == 10) = true := by rw [h]; rfl
            clear h
            go_wp2
            go_roundw
            case rel => exact ⟨a + 1, pre, by go_num, by omega, by omega, HO.out, HP2, HB.out⟩
            case measure => simp [intOf]; omega
        · have b1 : ((s[a].toNat : Int) == 32) = false := by rw [beq_eq_false_iff_ne]; omega
          have b2 : ((s[a].toNat : Int) == 10) = false := by rw [beq_eq_false_iff_ne]; omega
          have hne : ∀ c r, s.data.toList.drop a = c :: r → blk c = false := by
            intro c r h
            rw [hdc] at h
            have e := (List.cons.inj h).1
            subst e
            unfold blk
            rw [Bool.or_eq_false_iff, decide_eq_false_iff_not, decide_eq_false_iff_not]
            exact ⟨ne_of_nat (n := 32) (by omega) (fun h => h32 (.inl h)), ne_of_nat (n := 10) (by omega) (fun h => h32 (.inr h))⟩
          obtain ⟨R, hR⟩ : ∃ R : ByteArray, R = s.extract a s.size := ⟨_, rfl⟩
          have hRl : R.data.toList = s.data.toList.drop a := by rw [hR, ext_drop]
          have hRs : R.size = s.size - a := by
            show R.data.toList.length = _
            rw [hRl, List.length_drop, HSL.out]
          have hstep := lexA_at s.size (s.data.toList.drop a) hne
          have hkind := oneT_kind (s.data.toList.drop a) (by rw [hdc]; simp)
          have hosz := oneT_size (s.data.toList.drop a)
          rw [← hRl] at hstep hkind hosz
          have hlen : ((s.size : Int) - (R.data.toList.length : Int)) = (a : Int) := by
            show ((s.size : Int) - (R.size : Int)) = (a : Int)
            omega
          rw [hlen] at hstep
          have HF := Lib.hid (fun W => rf_one R W (by omega) (by omega))
          have HST := Lib.hid hstep
          have HKI := Lib.hid hkind
          have HRL := Lib.hid hRl
          have hos : (oneT R.data.toList).t.size ≤ s.size - a := by rw [← hRs]; exact hosz
          have HOS := Lib.hid hos
          have HRE := Lib.hid hR
          clear hdc hne hR hRl hRs hstep hkind hosz hlen h32 hos
          go_wp2_with (fail)
          rw [← HRE.out]
          refine (HF.out _).mono ?_
          rintro e w1 ⟨k, t, vk, vf, vn, vt, rfl, hok, hb1⟩
          have HB1 := Lib.hid (HB.out.trans (hb1.mono hsz))
          have ho1 := HO.out.below hb1
          have HO1 := Lib.hid ho1
          have hz1 := hb1.size
          rcases Bool.eq_false_or_eq_true (okT R.data.toList) with hb | hb
          · have hone := hok hb
            have HONE := Lib.hid hone
            rw [hb]
            have htp : 0 < t.size ∧ t.size ≤ s.size - a ∧ k ≠ 0 := by
              have h1 := HOS.out
              have h2 := HKI.out
              rw [hone] at h1 h2
              rcases h2 with h2 | h2
              · exfalso
                unfold okT at hb
                rw [hone, decide_eq_true_eq] at hb
                exact hb h2.1
              · exact ⟨h2.2.2, h1, h2.1⟩
            obtain ⟨ht0, hts, hk0⟩ := htp
            have HK0 := Lib.hid hk0
            clear hok hb1 ho1 hb hone hk0
            go_wp2_with (at_builtin; refine wp_append_T isTok_ref _ rfl (.tmp 40) (.tmp 42) rfl w.heap.size _ pre [⟨k, t, ⟨vk, vf, vn, vt⟩, (a : Int)⟩] rfl (by exact (HO1.out.alloc _).alloc _) ⟨w1.heap.size + 1, 0, none⟩ 1 1 rfl rfl (by have h := lit_T (w1.alloc (.cells #[.int .i64 k, .string t, .int .i64 vk, .bool vf, .int .i64 vn, .string vt, .int .i64 (a : Int)] 61)) ⟨k, t, ⟨vk, vf, vn, vt⟩, (a : Int)⟩ 61; rw [World.size_alloc] at h; exact h) (by simp; omega) (by simp; omega) ?_; intro v' w5 hown' hb5 hgrow hor; have k7 := (hgrow.block w1.heap.size (by simp; omega) (fun e => by have := (HO1.out.lt _ e.symm).2; omega)).trans (first_of_two w1 _ _); have d1 : w5.cell? ⟨w1.heap.size, 1, none⟩ = some (.string t) := cell_of_row _ w1.heap.size 1 _ _ (0, 0) k7; clear k7)
            have hBB : Below w.heap.size w w5 := HB1.out.trans ((((one_new w1 _).alloc (by simp) _).mono (by omega)).trans hb5)
            go_roundw
            case rel =>
              refine ⟨a + t.size, pre ++ [⟨k, t, ⟨vk, vf, vn, vt⟩, (a : Int)⟩], by go_num, by omega, by simp; omega, hown', Lib.hid ⟨?_, ?_⟩, hBB⟩
              · have h := HP.out.1
                rw [← HRL.out, HST.out, HONE.out] at h
                have h2 : ¬ (⟨k, t, ⟨vk, vf, vn, vt⟩, 0⟩ : Tok).t.size = 0 := by show ¬ t.size = 0; omega
                rw [if_neg h2, HRL.out, List.drop_drop] at h
                rw [List.append_assoc]
                exact h
              · intro y hy
                rcases List.mem_append.1 hy with h | h
                · exact HP.out.2 y h
                · rw [List.mem_singleton] at h
                  rw [h]
                  exact HK0.out
            case measure => simp [intOf]; omega
          · have hz : (oneT R.data.toList).k = 0 := by
              unfold okT at hb
              rw [decide_eq_false_iff_not] at hb
              exact Classical.byContradiction hb
            have hrr := HLX.out pre ((oneT R.data.toList).set (a : Int)) _ (by have h := HP.out.1; rw [← HRL.out, HST.out] at h; exact h) HP.out.2 hz
            have HRR := Lib.hid hrr
            rw [hb]
            clear hok hb1 ho1 hb hz hrr
            go_wp2
            go_ret3
            rw [HRR.out]
            exact ⟨none, 0, rfl, fun j u hj => by simp [flatT] at hj, fun a h => (by cases h), HB1.out.alloc (Nat.le_trans hsz hz1) _⟩
      · obtain rfl : a = s.size := by omega
        have hys2 : ys = pre ++ [⟨4, ⟨#[]⟩, noV, (s.size : Int)⟩] := by
          have h := HP.out.1
          rw [List.drop_eq_nil_of_le (by rw [HSL.out]; exact Nat.le_refl _), lexA_step] at h
          rw [h]
          show _ = pre ++ [(⟨4, ⟨#[]⟩, noV, (s.size : Int)⟩ : Tok)]
          congr 2
        have hrr := HLR.out (by
          rw [hys2]
          intro y hy
          rcases List.mem_append.1 hy with h | h
          · exact HP.out.2 y h
          · rw [List.mem_singleton] at h
            rw [h]
            show (4 : Int) ≠ 0
            decide)
        rw [hys2] at hrr
        have HRR := Lib.hid hrr
        clear hys2 hrr
        go_wp2_with (at_builtin; refine wp_append_T isTok_ref _ rfl (.tmp 49) (.tmp 53) rfl w.heap.size _ pre [⟨4, ⟨#[]⟩, ⟨0, false, 0, ⟨#[]⟩⟩, (s.size : Int)⟩] rfl (by exact HO.out.alloc _) ⟨wr.heap.size, 0, none⟩ 1 1 rfl rfl (by exact lit_T wr ⟨4, ⟨#[]⟩, ⟨0, false, 0, ⟨#[]⟩⟩, (s.size : Int)⟩ 61) (by simp; omega) (by simp; omega) ?_; intro v' w5 hown' hb5 hgrow hor)
        obtain ⟨A, c, hv', hA, _, hto, hag⟩ := hown'.slice
        subst hv'
        go_ret3
        rw [HRR.out]
        exact ⟨A, c, rfl, hto, hag, HB.out.trans (((one_new wr _).mono hsz).trans hb5)⟩

theorem ToksAt.head {w : World} {A : Option Addr} {ls : List Tok} (h : ToksAt w A ls) (hag : ∀ a, A = some a → ∃ g, a = ⟨g, 0, none⟩) (hne : 0 < ls.length) : ∃ g, A = some ⟨g, 0, none⟩ := by
  obtain ⟨x, hx⟩ : ∃ x, ls[0]? = some x := ⟨_, List.getElem?_eq_getElem hne⟩
  obtain ⟨a, ha, _⟩ := h _ _ (flatT_at ls 0 x 0 hx (by omega))
  obtain ⟨g, rfl⟩ := hag a ha
  exact ⟨g, ha⟩
theorem step_append_T {S E : TypeId} (hT : IsTok S E) {ops : Array Oper} {o : Oper} {a : Act} {K : Act → World → Prop} {Q : Exit → Act → World → Prop} {X : Prop} (w : World) (hgd : o.guard = none) (s x : Operand)
    (ho : o.op = .call { callee := .builtin .append, args := #[s, x], argTypes := #[S, S] })
    (base : Nat) (v : Value) (xs ys : List Tok) (hs : a.eval s = v) (hown : OwnT E w base v xs) (ad : Addr) (m c : Nat) (hx : a.eval x = .slice (some ad) m c) (hm : m = ys.length) (hc : ∀ j u, (flatT ys)[j]? = some u → w.cell? (ad.add j) = some u)
    (hroom : xs.length + ys.length ≤ 3000000) (hbase : base ≤ w.heap.size)
    (h : ∀ v' w', OwnT E w' base v' (xs ++ ys) → Below base w w' → K (a.put o.dst v') w') :
    if Region.wanted o (yielded ops a.tmps) = true then Oper.wp Try.prog o a w K Q else X := by
  have hw : Region.wanted o (yielded ops a.tmps) = true := by simp [Region.wanted, hgd]
  rw [if_pos hw]
  obtain ⟨v', w', hrun, h2, h3, h4⟩ := append_T hT w o.type base v xs ys hown ad m c hm hc hroom hbase
  unfold Oper.wp execOp
  simp only [ho, resolve, invoke, builtin, Sem.run_bind, Sem.run_pure, Result.andThen_ok, List.map_toArray, List.map_cons, List.map_nil, hs, hx, hrun]
  exact h v' w' h2 ((Below.refl _ _).grown h3 hbase (fun k hk => (hown.lt k hk).1))
theorem take_snoc' {α : Type} (l : List α) (k : Nat) (x : α) (h : l[k]? = some x) : l.take (k + 1) = l.take k ++ [x] := by
  rw [List.take_add_one, h]; rfl

section
attribute [local go_sem high] equal_tok

end
end
end Go.Proofs.Ythdjkagodccdbaa
