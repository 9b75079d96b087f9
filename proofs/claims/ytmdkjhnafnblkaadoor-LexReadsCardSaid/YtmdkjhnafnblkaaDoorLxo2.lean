/-
  The document's own next token where a number, a text or a sign stands; nothing that was there is changed.
  Condition: a text of at most 300 bytes, and of one at least.
-/
import Derived.Test.YtmdkjhnafnblkaaDoorLxo
import Derived.RegionTactic
import Derived.ChangeAlike
namespace Go.Proofs.YtmdkjhnafnblkaaDoor
open Go.RowKit

theorem one_no {l : List UInt8} {w w' : World} (hok : okT l = false) (hb : Below w.heap.size w w') : IsOne l w (.returned (.tuple #[.agg #[.int .i64 0, .string ⟨#[]⟩, .int .i64 0, .bool false, .int .i64 0, .string ⟨#[]⟩, .int .i64 0], .bool false])) w' :=
  ⟨0, ⟨#[]⟩, 0, false, 0, ⟨#[]⟩, by rw [hok], (fun h => by rw [hok] at h; cases h), hb⟩
theorem one_yes {l : List UInt8} {w w' : World} {b : Bool} {k : Int} {t : ByteArray} {vk : Int} {vf : Bool} {vn : Int} {vt : ByteArray} (hok : okT l = b) (hR : b = true → oneT l = ⟨k, t, ⟨vk, vf, vn, vt⟩, 0⟩) (hb : Below w.heap.size w w') :
    IsOne l w (.returned (.tuple #[.agg #[.int .i64 k, .string t, .int .i64 vk, .bool vf, .int .i64 vn, .string vt, .int .i64 0], .bool b])) w' :=
  ⟨k, t, vk, vf, vn, vt, by rw [hok], (fun h => hR (by rw [hok] at h; exact h)), hb⟩

set_option maxRecDepth 100000 in
set_option maxHeartbeats 4000000 in
theorem rf_one_num (s : ByteArray) (w : World) (hs : s.size ≤ 300) (h0 : 0 < s.size) (hl : ltr s[0] = false) (hn : dgt s[0] = true ∨ s[0].toNat = 45) : Calls Tryd.prog 18 #[.string s] w (IsOne s.data.toList w) := by
  have hsl : s.data.toList.length = s.size := rfl
  have hnl := numF_le s.data.toList
  obtain ⟨N, hN⟩ : ∃ N, N = numF s.data.toList := ⟨_, rfl⟩
  have hNs : N ≤ s.size := by omega
  have hone : oneT s.data.toList = if ltu (s.data.toList.drop N) = true then noT else conT (s.data.toList.take N) := by
    match e : s.data.toList with
    | [] => rw [e] at hsl; simp at hsl; omega
    | c :: r =>
      have hc : s[0] = c := by
        have h := at_some s 0 h0
        rw [e] at h
        exact (Option.some.inj h).symm
      rw [hc] at hl hn
      have h2 : (dgt c || decide (c = 45)) = true := by
        rcases hn with h | h
        · rw [h]; rfl
        · rw [eq_of_nat h]; rfl
      have h1 : c ≠ 34 := by intro h; subst h; revert h2; decide
      rw [oneT_cons, if_neg h1, if_pos h2, hN, e]
      rfl
  have hN0 : 0 < N := by
    rw [hN]
    unfold numF
    split
    · omega
    · rename_i h3
      match e : s.data.toList with
      | [] => rw [e] at hsl; simp at hsl; omega
      | c :: r =>
        have hc : s[0] = c := by
          have h := at_some s 0 h0
          rw [e] at h
          exact (Option.some.inj h).symm
        rw [hc] at hn
        rw [e] at h3
        rcases hn with h | h
        · rw [List.takeWhile_cons_of_pos h]; simp
        · rw [eq_of_nat h] at h3; exact absurd rfl h3
  have HA := Lib.hid hl
  have HW : Hid (∀ W, Calls Tryd.prog 26 #[.string s] W fun e w' => e = .returned (.int .i64 (N : Int)) ∧ W = w') := Lib.hid (fun W => by
    have h := rf_number s W hs h0
    rw [← hN] at h
    exact h)
  have hd : ∃ b : Bool, dgt s[0] = b ∧ (b = false → ((s[0].toNat : Int) == 45) = true) := ⟨_, rfl, fun h => by
    rcases hn with h1 | h1
    · rw [h] at h1; cases h1
    · rw [h1]; rfl⟩
  obtain ⟨bd, hbd, hb45⟩ := hd
  have HD := Lib.hid hbd
  have HB45 := Lib.hid hb45
  clear hl hn hbd hb45
  have hwrong : ∀ (hlt : N < s.size) (bl : Bool), ltr s[N] = bl → (bl = false → ((s[N].toNat : Int) == 95) = true) → Calls Tryd.prog 18 #[.string s] w (IsOne s.data.toList w) := by
    intro hlt bl hbl hu
    have hltu : ltu (s.data.toList.drop N) = true := by
      rw [drop_cons (at_some s N hlt)]
      show (ltr s[N] || decide (s[N] = 95)) = true
      rw [hbl]
      cases bl
      · have h := hu rfl
        have h2 : s[N].toNat = 95 := by have := of_decide_eq_true (by simpa using h : decide ((s[N].toNat : Int) = 95) = true); omega
        rw [eq_of_nat h2]; rfl
      · rfl
    have hr : oneT s.data.toList = noT := by rw [hone, if_pos hltu]
    have hok : okT s.data.toList = false := by unfold okT; rw [hr]; rfl
    have HOK := Lib.hid hok
    have HBL := Lib.hid hbl
    clear hsl hnl hone hltu hr hok hbl hN
    cases bl
    · have b1 := hu rfl
      clear hu
      cases bd
      · have b2 := HB45.out rfl
        go_enter Tryd.func18, Tryd.ntmps18
        go_wp2_with (first
          | (go_at_call 22; refine (rf_letter _ _).mono ?_; rintro e w1 ⟨rfl, rfl⟩; first | rw [HA.out] | rw [HBL.out])
          | (go_at_call 25; refine (rf_digit _ _).mono ?_; rintro e w1 ⟨rfl, rfl⟩; rw [HD.out])
          | (go_at_call 26; refine (HW.out _).mono ?_; rintro e w1 ⟨rfl, rfl⟩))
        exact bodyPost_ret (v := .tuple #[.agg #[.int .i64 0, .string ⟨#[]⟩, .int .i64 0, .bool false, .int .i64 0, .string ⟨#[]⟩, .int .i64 0], .bool false]) (by simp [results, Tryd.results18, go_sem]) rfl (one_no HOK.out (one_new _ _))
      · go_enter Tryd.func18, Tryd.ntmps18
        go_wp2_with (first
          | (go_at_call 22; refine (rf_letter _ _).mono ?_; rintro e w1 ⟨rfl, rfl⟩; first | rw [HA.out] | rw [HBL.out])
          | (go_at_call 25; refine (rf_digit _ _).mono ?_; rintro e w1 ⟨rfl, rfl⟩; rw [HD.out])
          | (go_at_call 26; refine (HW.out _).mono ?_; rintro e w1 ⟨rfl, rfl⟩))
        exact bodyPost_ret (v := .tuple #[.agg #[.int .i64 0, .string ⟨#[]⟩, .int .i64 0, .bool false, .int .i64 0, .string ⟨#[]⟩, .int .i64 0], .bool false]) (by simp [results, Tryd.results18, go_sem]) rfl (one_no HOK.out (one_new _ _))
    · clear hu
      cases bd
      · have b2 := HB45.out rfl
        go_enter Tryd.func18, Tryd.ntmps18
        go_wp2_with (first
          | (go_at_call 22; refine (rf_letter _ _).mono ?_; rintro e w1 ⟨rfl, rfl⟩; first | rw [HA.out] | rw [HBL.out])
          | (go_at_call 25; refine (rf_digit _ _).mono ?_; rintro e w1 ⟨rfl, rfl⟩; rw [HD.out])
          | (go_at_call 26; refine (HW.out _).mono ?_; rintro e w1 ⟨rfl, rfl⟩))
        exact bodyPost_ret (v := .tuple #[.agg #[.int .i64 0, .string ⟨#[]⟩, .int .i64 0, .bool false, .int .i64 0, .string ⟨#[]⟩, .int .i64 0], .bool false]) (by simp [results, Tryd.results18, go_sem]) rfl (one_no HOK.out (one_new _ _))
      · go_enter Tryd.func18, Tryd.ntmps18
        go_wp2_with (first
          | (go_at_call 22; refine (rf_letter _ _).mono ?_; rintro e w1 ⟨rfl, rfl⟩; first | rw [HA.out] | rw [HBL.out])
          | (go_at_call 25; refine (rf_digit _ _).mono ?_; rintro e w1 ⟨rfl, rfl⟩; rw [HD.out])
          | (go_at_call 26; refine (HW.out _).mono ?_; rintro e w1 ⟨rfl, rfl⟩))
        exact bodyPost_ret (v := .tuple #[.agg #[.int .i64 0, .string ⟨#[]⟩, .int .i64 0, .bool false, .int .i64 0, .string ⟨#[]⟩, .int .i64 0], .bool false]) (by simp [results, Tryd.results18, go_sem]) rfl (one_no HOK.out (one_new _ _))
  have hright : ltu (s.data.toList.drop N) = false → (N = s.size ∨ ∃ (hlt : N < s.size), ltr s[N] = false ∧ ((s[N].toNat : Int) == 95) = false) → Calls Tryd.prog 18 #[.string s] w (IsOne s.data.toList w) := by
    intro hltu hw
    have hr : oneT s.data.toList = conT (s.data.toList.take N) := by rw [hone, if_neg (by rw [hltu]; simp)]
    obtain ⟨vk, vf, vn, vt, z, b, hrd, hzb, hkb, hcon⟩ := con_cases s N (s.data.toList.take N) (ext_take s N) (by rw [List.length_take]; omega)
    subst hzb
    have HRD := Lib.hid hrd
    have hok : okT s.data.toList = (z == 0) := by unfold okT; rw [hr]; exact hkb
    have HOK := Lib.hid hok
    have HR := Lib.hid (fun hb : (z == 0) = true => hr.trans (hcon hb))
    clear hsl hnl hone hltu hr hok hN hrd hkb hcon hwrong
    rcases hw with hw | ⟨hlt, h1, h2⟩
    · have HWW := Lib.hid hw
      have d1 : decide (N < s.size) = false := by simp; omega
      clear hw
      cases bd
      · have b2 := HB45.out rfl
        go_enter Tryd.func18, Tryd.ntmps18
        go_wp2_with (first
          | (go_at_call 22; refine (rf_letter _ _).mono ?_; rintro e w1 ⟨rfl, rfl⟩; first | rw [HA.out])
          | (go_at_call 25; refine (rf_digit _ _).mono ?_; rintro e w1 ⟨rfl, rfl⟩; rw [HD.out])
          | (go_at_call 26; refine (HW.out _).mono ?_; rintro e w1 ⟨rfl, rfl⟩))
        refine (HRD.out _).mono ?_
        rintro e w1 ⟨rfl, hb1⟩
        have HB := Lib.hid ((one_new w _).trans (hb1.mono (by simp)))
        obtain ⟨c0, c1, c2, c3, c4, c5, c6, f0, f1, f2, f3, f4, f5, f6, hz2⟩ := box7_later hb1
        clear hb1
        go_wp2
        go_region
        go_wp2
        exact bodyPost_ret (v := .tuple #[.agg #[.int .i64 2, .string (s.extract 0 N), .int .i64 vk, .bool vf, .int .i64 vn, .string vt, .int .i64 0], .bool (z == 0)]) (by simp [results, Tryd.results18, go_sem, c0, c1, c2, c3, c4, c5, c6, hz2]) rfl (one_yes HOK.out HR.out (Below.drew (bnew' (below_tok HB.out _ _ _ _ _ _ _) (Nat.le_refl _) _)))
      · go_enter Tryd.func18, Tryd.ntmps18
        go_wp2_with (first
          | (go_at_call 22; refine (rf_letter _ _).mono ?_; rintro e w1 ⟨rfl, rfl⟩; first | rw [HA.out])
          | (go_at_call 25; refine (rf_digit _ _).mono ?_; rintro e w1 ⟨rfl, rfl⟩; rw [HD.out])
          | (go_at_call 26; refine (HW.out _).mono ?_; rintro e w1 ⟨rfl, rfl⟩))
        refine (HRD.out _).mono ?_
        rintro e w1 ⟨rfl, hb1⟩
        have HB := Lib.hid ((one_new w _).trans (hb1.mono (by simp)))
        obtain ⟨c0, c1, c2, c3, c4, c5, c6, f0, f1, f2, f3, f4, f5, f6, hz2⟩ := box7_later hb1
        clear hb1
        go_wp2
        go_region
        go_wp2
        exact bodyPost_ret (v := .tuple #[.agg #[.int .i64 2, .string (s.extract 0 N), .int .i64 vk, .bool vf, .int .i64 vn, .string vt, .int .i64 0], .bool (z == 0)]) (by simp [results, Tryd.results18, go_sem, c0, c1, c2, c3, c4, c5, c6, hz2]) rfl (one_yes HOK.out HR.out (Below.drew (bnew' (below_tok HB.out _ _ _ _ _ _ _) (Nat.le_refl _) _)))
    · have HBL := Lib.hid h1
      clear h1
      cases bd
      · have b2 := HB45.out rfl
        go_enter Tryd.func18, Tryd.ntmps18
        go_wp2_with (first
          | (go_at_call 22; refine (rf_letter _ _).mono ?_; rintro e w1 ⟨rfl, rfl⟩; first | rw [HA.out] | rw [HBL.out])
          | (go_at_call 25; refine (rf_digit _ _).mono ?_; rintro e w1 ⟨rfl, rfl⟩; rw [HD.out])
          | (go_at_call 26; refine (HW.out _).mono ?_; rintro e w1 ⟨rfl, rfl⟩))
        refine (HRD.out _).mono ?_
        rintro e w1 ⟨rfl, hb1⟩
        have HB := Lib.hid ((one_new w _).trans (hb1.mono (by simp)))
        obtain ⟨c0, c1, c2, c3, c4, c5, c6, f0, f1, f2, f3, f4, f5, f6, hz2⟩ := box7_later hb1
        clear hb1
        go_wp2
        go_region
        go_wp2
        exact bodyPost_ret (v := .tuple #[.agg #[.int .i64 2, .string (s.extract 0 N), .int .i64 vk, .bool vf, .int .i64 vn, .string vt, .int .i64 0], .bool (z == 0)]) (by simp [results, Tryd.results18, go_sem, c0, c1, c2, c3, c4, c5, c6, hz2]) rfl (one_yes HOK.out HR.out (Below.drew (bnew' (below_tok HB.out _ _ _ _ _ _ _) (Nat.le_refl _) _)))
      · go_enter Tryd.func18, Tryd.ntmps18
        go_wp2_with (first
          | (go_at_call 22; refine (rf_letter _ _).mono ?_; rintro e w1 ⟨rfl, rfl⟩; first | rw [HA.out] | rw [HBL.out])
          | (go_at_call 25; refine (rf_digit _ _).mono ?_; rintro e w1 ⟨rfl, rfl⟩; rw [HD.out])
          | (go_at_call 26; refine (HW.out _).mono ?_; rintro e w1 ⟨rfl, rfl⟩))
        refine (HRD.out _).mono ?_
        rintro e w1 ⟨rfl, hb1⟩
        have HB := Lib.hid ((one_new w _).trans (hb1.mono (by simp)))
        obtain ⟨c0, c1, c2, c3, c4, c5, c6, f0, f1, f2, f3, f4, f5, f6, hz2⟩ := box7_later hb1
        clear hb1
        go_wp2
        go_region
        go_wp2
        exact bodyPost_ret (v := .tuple #[.agg #[.int .i64 2, .string (s.extract 0 N), .int .i64 vk, .bool vf, .int .i64 vn, .string vt, .int .i64 0], .bool (z == 0)]) (by simp [results, Tryd.results18, go_sem, c0, c1, c2, c3, c4, c5, c6, hz2]) rfl (one_yes HOK.out HR.out (Below.drew (bnew' (below_tok HB.out _ _ _ _ _ _ _) (Nat.le_refl _) _)))
  by_cases hlt : N < s.size
  · rcases Bool.eq_false_or_eq_true (ltr s[N]) with h1 | h1
    · exact hwrong hlt true h1 (fun h => by cases h)
    · by_cases h2 : s[N].toNat = 95
      · exact hwrong hlt false h1 (fun _ => by rw [h2]; rfl)
      · refine hright ?_ (.inr ⟨hlt, h1, by rw [beq_eq_false_iff_ne]; omega⟩)
        rw [drop_cons (at_some s N hlt)]
        show (ltr s[N] || decide (s[N] = 95)) = false
        rw [h1, Bool.false_or, decide_eq_false_iff_not]
        exact ne_of_nat (n := 95) (by omega) h2
  · refine hright ?_ (.inl (by omega))
    rw [List.drop_eq_nil_of_le (by omega)]
    rfl

set_option maxRecDepth 100000 in
set_option maxHeartbeats 4000000 in
theorem rf_one_quo (s : ByteArray) (w : World) (hs : s.size ≤ 300) (h0 : 0 < s.size) (hn : s[0].toNat = 34) : Calls Tryd.prog 18 #[.string s] w (IsOne s.data.toList w) := by
  have hsl : s.data.toList.length = s.size := rfl
  obtain ⟨N, hN⟩ : ∃ N, N = txtF (s.data.toList.drop 1) 1 := ⟨_, rfl⟩
  have hNs : N ≤ s.size := by
    have := txtF_le (s.data.toList.drop 1) 1
    rw [List.length_drop] at this
    omega
  have hone : oneT s.data.toList = if N = 0 then noT else conT (s.data.toList.take N) := by
    match e : s.data.toList with
    | [] => rw [e] at hsl; simp at hsl; omega
    | c :: r =>
      have hc : s[0] = c := by
        have h := at_some s 0 h0
        rw [e] at h
        exact (Option.some.inj h).symm
      rw [hc] at hn
      have h1 : c = 34 := eq_of_nat hn
      rw [oneT_cons, if_pos h1, hN, e]
      rfl
  have ha : ltr s[0] = false := by rw [eq_of_nat hn]; rfl
  have hd : dgt s[0] = false := by rw [eq_of_nat hn]; rfl
  have HA := Lib.hid ha
  have HD := Lib.hid hd
  have HW : Hid (∀ W, Calls Tryd.prog 27 #[.string s] W fun e w' => e = .returned (.int .i64 (N : Int)) ∧ W = w') := Lib.hid (fun W => by
    have h := rf_text s W hs
    rw [← hN] at h
    exact h)
  have b1 : ((s[0].toNat : Int) == 45) = false := by rw [hn]; rfl
  have b2 : ((s[0].toNat : Int) == 34) = true := by rw [hn]; rfl
  by_cases hz : N = 0
  · have hr : oneT s.data.toList = noT := by rw [hone, if_pos hz]
    have hok : okT s.data.toList = false := by unfold okT; rw [hr]; rfl
    have HOK := Lib.hid hok
    clear hsl hone hr hok ha hd hn hN
    subst hz
    go_enter Tryd.func18, Tryd.ntmps18
    go_wp2_with (first
      | (go_at_call 22; refine (rf_letter _ _).mono ?_; rintro e w1 ⟨rfl, rfl⟩; rw [HA.out])
      | (go_at_call 25; refine (rf_digit _ _).mono ?_; rintro e w1 ⟨rfl, rfl⟩; rw [HD.out])
      | (go_at_call 27; refine (HW.out _).mono ?_; rintro e w1 ⟨rfl, rfl⟩))
    exact bodyPost_ret (v := .tuple #[.agg #[.int .i64 0, .string ⟨#[]⟩, .int .i64 0, .bool false, .int .i64 0, .string ⟨#[]⟩, .int .i64 0], .bool false]) (by simp [results, Tryd.results18, go_sem]) rfl (one_no HOK.out (one_new _ _))
  · have hr : oneT s.data.toList = conT (s.data.toList.take N) := by rw [hone, if_neg hz]
    have hN0 : 0 < N := by omega
    obtain ⟨vk, vf, vn, vt, z, b, hrd, hzb, hkb, hcon⟩ := con_cases s N (s.data.toList.take N) (ext_take s N) (by rw [List.length_take]; omega)
    subst hzb
    have HRD := Lib.hid hrd
    have hok : okT s.data.toList = (z == 0) := by unfold okT; rw [hr]; exact hkb
    have HOK := Lib.hid hok
    have HR := Lib.hid (fun hb : (z == 0) = true => hr.trans (hcon hb))
    clear hsl hone hr hok hN hrd hkb hcon hz ha hd hn
    go_enter Tryd.func18, Tryd.ntmps18
    go_wp2_with (first
      | (go_at_call 22; refine (rf_letter _ _).mono ?_; rintro e w1 ⟨rfl, rfl⟩; rw [HA.out])
      | (go_at_call 25; refine (rf_digit _ _).mono ?_; rintro e w1 ⟨rfl, rfl⟩; rw [HD.out])
      | (go_at_call 27; refine (HW.out _).mono ?_; rintro e w1 ⟨rfl, rfl⟩))
    refine (HRD.out _).mono ?_
    rintro e w1 ⟨rfl, hb1⟩
    have HB := Lib.hid ((one_new w _).trans (hb1.mono (by simp)))
    obtain ⟨c0, c1, c2, c3, c4, c5, c6, f0, f1, f2, f3, f4, f5, f6, hz2⟩ := box7_later hb1
    clear hb1
    go_wp2
    go_region
    go_wp2
    exact bodyPost_ret (v := .tuple #[.agg #[.int .i64 2, .string (s.extract 0 N), .int .i64 vk, .bool vf, .int .i64 vn, .string vt, .int .i64 0], .bool (z == 0)]) (by simp [results, Tryd.results18, go_sem, c0, c1, c2, c3, c4, c5, c6, hz2]) rfl (one_yes HOK.out HR.out (Below.drew (bnew' (below_tok HB.out _ _ _ _ _ _ _) (Nat.le_refl _) _)))

set_option maxRecDepth 100000 in
set_option maxHeartbeats 4000000 in
theorem rf_one_sign (s : ByteArray) (w : World) (hs : s.size ≤ 300) (h0 : 0 < s.size) (ha : ltr s[0] = false) (hd : dgt s[0] = false) (h45 : ¬ s[0].toNat = 45) (h34 : ¬ s[0].toNat = 34) : Calls Tryd.prog 18 #[.string s] w (IsOne s.data.toList w) := by
  have hsl : s.data.toList.length = s.size := rfl
  obtain ⟨N, hN⟩ : ∃ N, N = sgnF s.data.toList := ⟨_, rfl⟩
  have hNs : N ≤ s.size := by
    have := sgnF_le s.data.toList
    omega
  have hone : oneT s.data.toList = if N = 0 then noT else ⟨3, ⟨(s.data.toList.take N).toArray⟩, noV, 0⟩ := by
    match e : s.data.toList with
    | [] => rw [e] at hsl; simp at hsl; omega
    | c :: r =>
      have hc : s[0] = c := by
        have h := at_some s 0 h0
        rw [e] at h
        exact (Option.some.inj h).symm
      rw [hc] at ha hd h45 h34
      have h1 : c ≠ 34 := ne_of_nat (n := 34) (by omega) h34
      have h2 : (dgt c || decide (c = 45)) = false := by
        rw [hd, Bool.false_or, decide_eq_false_iff_not]
        exact ne_of_nat (n := 45) (by omega) h45
      rw [oneT_cons, if_neg h1, if_neg (by rw [h2]; simp), if_neg (by rw [ha]; simp), hN, e]
      rfl
  have hmk : (⟨(s.data.toList.take N).toArray⟩ : ByteArray) = s.extract 0 N := by rw [← ext_take]
  rw [hmk] at hone
  have HA := Lib.hid ha
  have HD := Lib.hid hd
  have HW : Hid (∀ W, Calls Tryd.prog 28 #[.string s] W fun e w' => e = .returned (.int .i64 (N : Int)) ∧ W = w') := Lib.hid (fun W => by
    have h := rf_sign s W hs h0
    rw [← hN] at h
    exact h)
  have b1 : ((s[0].toNat : Int) == 45) = false := by rw [beq_eq_false_iff_ne]; omega
  have b2 : ((s[0].toNat : Int) == 34) = false := by rw [beq_eq_false_iff_ne]; omega
  have hok : okT s.data.toList = decide (0 < N) := by
    unfold okT
    rw [hone]
    by_cases hz : N = 0
    · rw [if_pos hz, hz]; rfl
    · rw [if_neg hz, decide_eq_true (show 0 < N by omega)]; rfl
  have hR : decide (0 < N) = true → oneT s.data.toList = ⟨3, s.extract 0 N, ⟨0, false, 0, ⟨#[]⟩⟩, 0⟩ := fun h => by
    rw [hone, if_neg (by have := of_decide_eq_true h; omega)]
    rfl
  have HOK := Lib.hid hok
  have HR := Lib.hid hR
  clear hsl hone hok ha hd hN h45 h34 hmk hR
  go_enter Tryd.func18, Tryd.ntmps18
  go_wp2_with (first
    | (go_at_call 22; refine (rf_letter _ _).mono ?_; rintro e w1 ⟨rfl, rfl⟩; rw [HA.out])
    | (go_at_call 25; refine (rf_digit _ _).mono ?_; rintro e w1 ⟨rfl, rfl⟩; rw [HD.out])
    | (go_at_call 28; refine (HW.out _).mono ?_; rintro e w1 ⟨rfl, rfl⟩))
  exact bodyPost_ret (v := .tuple #[.agg #[.int .i64 3, .string (s.extract 0 N), .int .i64 0, .bool false, .int .i64 0, .string ⟨#[]⟩, .int .i64 0], .bool (decide (0 < N))]) (by simp [results, Tryd.results18, go_sem]) rfl (one_yes HOK.out HR.out (one_new _ _))

theorem rf_one (s : ByteArray) (w : World) (hs : s.size ≤ 300) (h0 : 0 < s.size) : Calls Tryd.prog 18 #[.string s] w (IsOne s.data.toList w) := by
  rcases Bool.eq_false_or_eq_true (ltr s[0]) with ha | ha
  · exact rf_one_word s w hs h0 ha
  · rcases Bool.eq_false_or_eq_true (dgt s[0]) with hd | hd
    · exact rf_one_num s w hs h0 ha (.inl hd)
    · by_cases h45 : s[0].toNat = 45
      · exact rf_one_num s w hs h0 ha (.inr h45)
      · by_cases h34 : s[0].toNat = 34
        · exact rf_one_quo s w hs h0 h34
        · exact rf_one_sign s w hs h0 ha hd h45 h34
end Go.Proofs.YtmdkjhnafnblkaaDoor
