/-
  The functions word, sign and first of package lex: what each answers, at every short text; nothing that was there is changed.
  Condition: the library's variables are as the program's text lays them; the text has at most 300 bytes.
-/
import Derived.Test.YtkobfngnnblpeaaGreatDoorM10
namespace Go.Proofs.YtkobfngnnblpeaaGreatDoor
open Go.RowKit

set_option maxHeartbeats 2000000 in
theorem lx_word (s : ByteArray) (w : World) (hv : Vars w) (hs : s.size ≤ 300) : Calls Tryz.prog 63 #[.string s] w fun e w' => e = .returned (worT (s.data.toList.take (wordF s.data.toList))).val ∧ Below w.heap.size w w' := by
  have HV := Lib.hid hv
  have hsl : s.data.toList.length = s.size := rfl
  have hnl := wordF_le s.data.toList
  obtain ⟨N, hN⟩ : ∃ N, N = wordF s.data.toList := ⟨_, rfl⟩
  rw [← hN]
  obtain ⟨B, hB⟩ : ∃ B : ByteArray, B = ⟨(s.data.toList.drop N).toArray⟩ := ⟨_, rfl⟩
  have hBl : B.data.toList = s.data.toList.drop N := by rw [hB]
  have hBs : B.size = s.size - N := by
    show B.data.toList.length = _
    rw [hBl, List.length_drop, hsl]
  have HTL : Hid (∀ W, Calls Tryz.prog 29 #[.string s, .string ⟨#[97, 98, 99, 100, 101, 102, 103, 104, 105, 106, 107, 108, 109, 110, 111, 112, 113, 114, 115, 116, 117, 118, 119, 120, 121, 122, 48, 49, 50, 51, 52, 53, 54, 55, 56, 57, 95]⟩] W fun e w' => e = .returned (.string B) ∧ Below W.heap.size W w') := Lib.hid (fun W => by
    have h := trim_at (cLet ++ cDig ++ [95]) wch in_wch (by decide) (by decide) s W
    rw [wordF_drop, ← hN, ← hB] at h
    exact h)
  have hx0 : (s.extract 0 (s.size - B.size)).data.toList = s.data.toList.take N := by
    rw [ext_take]
    congr 1
    omega
  obtain ⟨X, hX⟩ : ∃ X : ByteArray, X = s.extract 0 (s.size - B.size) := ⟨_, rfl⟩
  have hXl : (⟨(s.data.toList.take N).toArray⟩ : ByteArray) = X := by rw [hX, ← hx0]
  have hBle : B.size ≤ s.size := by omega
  have HX := Lib.hid hX
  rcases readR_cases0 (s.data.toList.take N) with hb | hb
  · obtain ⟨⟨⟨vk, vf, vn, vt⟩, z⟩, hR⟩ : ∃ x, x = readR (s.data.toList.take N) := ⟨_, rfl⟩
    rw [← hR] at hb
    have hz' : z = 0 := hb
    subst hz'
    have hx : conT (s.data.toList.take N) = ⟨2, X, ⟨vk, vf, vn, vt⟩, 0⟩ := by unfold conT; rw [← hR, ← hXl]; rfl
    have hr : worT (s.data.toList.take N) = ⟨2, X, ⟨vk, vf, vn, vt⟩, 0⟩ := by unfold worT; rw [← hR, ← hXl]; rfl
    rw [hr]
    have HC := Lib.hid (fun W hW => lx_const' (s.extract 0 (s.size - B.size)) _ hx0 2 X vk vf vn vt 0 hx W hW)
    clear hv hsl hnl hN hB hBl hBs hx0 hb hr hx hX hXl hR
    go_enter Tryz.func63, Tryz.ntmps63
    go_wp2_with (first
      | (go_at_call 29; refine (HTL.out _).mono ?_; rintro e w1 ⟨rfl, hb1⟩))
    refine (HC.out _ (by exact HV.out.later ((one_new w _).trans (hb1.mono (by simp))))).mono ?_
    rintro e w2 ⟨rfl, hb2⟩
    have hb3 := hb1.trans (hb2.mono (Nat.le_trans (by simp) hb1.size))
    have HB1 := Lib.hid ((one_new w _).trans (hb3.mono (by simp)))
    obtain ⟨c0, c1, c2, c3, c4, c5, c6, f0, f1, f2, f3, f4, f5, f6, hz⟩ := box7_later hb3
    clear hb1 hb2 hb3
    go_wp2
    exact bodyPost_ret (v := .agg #[.int .i64 2, .string X, .int .i64 vk, .bool vf, .int .i64 vn, .string vt, .int .i64 0]) (by simp [results, Tryz.results63, go_sem, c0, c1, c2, c3, c4, c5, c6, hz]) rfl ⟨rfl, bnew' (below_tok HB1.out _ _ _ _ _ _ _) (Nat.le_refl _) _⟩
  · have hx : conT (s.data.toList.take N) = ⟨0, ⟨#[]⟩, ⟨0, false, 0, ⟨#[]⟩⟩, 0⟩ := by unfold conT; rw [hb]; rfl
    have hr : worT (s.data.toList.take N) = ⟨1, X, noV, 0⟩ := by unfold worT; rw [hb, ← hXl]; rfl
    rw [hr]
    have HC := Lib.hid (fun W hW => lx_const' (s.extract 0 (s.size - B.size)) _ hx0 0 ⟨#[]⟩ 0 false 0 ⟨#[]⟩ 0 hx W hW)
    clear hv hsl hnl hN hB hBl hBs hx0 hb hr hx hX hXl
    go_enter Tryz.func63, Tryz.ntmps63
    go_wp2_with (first
      | (go_at_call 29; refine (HTL.out _).mono ?_; rintro e w1 ⟨rfl, hb1⟩))
    refine (HC.out _ (by exact HV.out.later ((one_new w _).trans (hb1.mono (by simp))))).mono ?_
    rintro e w2 ⟨rfl, hb2⟩
    have hb3 := hb1.trans (hb2.mono (Nat.le_trans (by simp) hb1.size))
    have HB1 := Lib.hid ((one_new w _).trans (hb3.mono (by simp)))
    obtain ⟨c0, c1, c2, c3, c4, c5, c6, f0, f1, f2, f3, f4, f5, f6, hz⟩ := box7_later hb3
    clear hb1 hb2 hb3
    go_wp2
    rw [← HX.out]
    exact bodyPost_ret (v := .agg #[.int .i64 1, .string X, .int .i64 0, .bool false, .int .i64 0, .string ⟨#[]⟩, .int .i64 0]) (by simp [results, Tryz.results63, go_sem, c0, c1, c2, c3, c4, c5, c6, hz]) rfl ⟨rfl, bnew' (below_tok HB1.out _ _ _ _ _ _ _) (Nat.le_refl _) _⟩

theorem isSg_one (a : UInt8) : isSg [a] = decide (a = 40 ∨ a = 41 ∨ a = 44 ∨ a = 95 ∨ a = 60 ∨ a = 62) :=
  in_all (p := fun a => isSg [a]) (q := fun a => decide (a = 40 ∨ a = 41 ∨ a = 44 ∨ a = 95 ∨ a = 60 ∨ a = 62)) (by decide +kernel) a
theorem isSg_two (a b : UInt8) : isSg [a, b] = decide (b = 61 ∧ (a = 61 ∨ a = 33 ∨ a = 60 ∨ a = 62)) := by
  unfold isSg opF
  simp only [List.cons.injEq, and_true, reduceCtorEq, and_false, if_false, or_self]
  by_cases hb : b = 61
  · subst hb
    by_cases h1 : a = 61
    · subst h1; simp
    · by_cases h2 : a = 33
      · subst h2; simp
      · by_cases h3 : a = 60
        · subst h3; simp
        · by_cases h4 : a = 62
          · subst h4; simp
          · simp [h1, h2, h3, h4]
  · simp [hb]
/-- The longest sign with which a text begins. -/
theorem sgnF_at (l : List UInt8) (k : Nat) (hk : 0 < k) (hk2 : k ≤ 2) (hkl : k ≤ l.length) (h : isSg (l.take k) = true) (hm : k = 2 ∨ l.length < 2 ∨ isSg (l.take 2) = false) : sgnF l = k := by
  match l with
  | [] => simp at hkl; omega
  | [a] =>
    have : k = 1 := by simp at hkl; omega
    subst this
    rw [show List.take 1 [a] = [a] from rfl, isSg_one, decide_eq_true_eq] at h
    show (if _ then 1 else 0) = 1
    rw [if_pos h]
  | a :: b :: r =>
    rcases (by omega : k = 1 ∨ k = 2) with rfl | rfl
    · rw [show List.take 1 (a :: b :: r) = [a] from rfl, isSg_one, decide_eq_true_eq] at h
      rcases hm with hm | hm | hm
      · omega
      · simp only [List.length_cons] at hm
        omega
      · rw [show List.take 2 (a :: b :: r) = [a, b] from rfl, isSg_two, decide_eq_false_iff_not] at hm
        show (if _ then 2 else if _ then 1 else 0) = 1
        rw [if_neg hm, if_pos h]
    · rw [show List.take 2 (a :: b :: r) = [a, b] from rfl, isSg_two, decide_eq_true_eq] at h
      show (if _ then 2 else if _ then 1 else 0) = 2
      rw [if_pos h]
theorem sgnF_no (l : List UInt8) (h1 : l.length < 1 ∨ isSg (l.take 1) = false) (h2 : l.length < 2 ∨ isSg (l.take 2) = false) : sgnF l = 0 := by
  match l with
  | [] => rfl
  | [a] =>
    rcases h1 with h1 | h1
    · simp at h1
    · rw [show List.take 1 [a] = [a] from rfl, isSg_one, decide_eq_false_iff_not] at h1
      show (if _ then 1 else 0) = 0
      rw [if_neg h1]
  | a :: b :: r =>
    rcases h1 with h1 | h1
    · simp at h1
    · rcases h2 with h2 | h2
      · simp only [List.length_cons] at h2
        omega
      · rw [show List.take 1 (a :: b :: r) = [a] from rfl, isSg_one, decide_eq_false_iff_not] at h1
        rw [show List.take 2 (a :: b :: r) = [a, b] from rfl, isSg_two, decide_eq_false_iff_not] at h2
        show (if _ then 2 else if _ then 1 else 0) = 0
        rw [if_neg h2, if_neg h1]

set_option maxHeartbeats 2000000 in
theorem lx_sign (s : ByteArray) (w : World) (hs : s.size ≤ 300) : Calls Tryz.prog 64 #[.string s] w fun e w' => e = .returned (sgnT s.data.toList).val ∧ Below w.heap.size w w' := by
  obtain ⟨T, hT⟩ : ∃ T, T = sgnT s.data.toList := ⟨_, rfl⟩
  rw [← hT]
  have HT := Lib.hid hT
  have hsl : s.data.toList.length = s.size := rfl
  have HL := Lib.hid hsl
  have HI := Lib.hid (fun (k : Nat) (W : World) => by
    have h := lx_isSign (s.extract 0 k) W
    rw [ext_take] at h
    exact h)
  obtain ⟨m, hm⟩ : ∃ m : Nat, m = min 2 s.size := ⟨_, rfl⟩
  have hm2 : m ≤ 2 := by omega
  have hms : m ≤ s.size := by omega
  have hmm : m = 2 ∨ m = s.size := by omega
  have HM : Hid ((if 2 ≤ s.size then (2 : Int) else (s.size : Int)) = (m : Int)) := Lib.hid (by split <;> omega)
  have HM2 : Hid (min (2 : Int) (s.size : Int) = (m : Int)) := Lib.hid (by omega)
  clear hT hsl hm
  go_enter Tryz.func64, Tryz.ntmps64
  go_wp2
  rw [HM2.out]
  go_loop [3] (fun i => ∃ k : Nat, k ≤ m ∧ i = .int .i64 k ∧ Hid (∀ j : Nat, k < j → j ≤ m → isSg (s.data.toList.take j) = false)) (fun i => (intOf i).toNat)
  case atStart => exact ⟨m, Nat.le_refl _, rfl, Lib.hid (fun j h1 h2 => by omega)⟩
  case round =>
    obtain ⟨k, hk, rfl, HJ⟩ := hrel
    by_cases h0 : 0 < k
    · rcases Bool.eq_false_or_eq_true (isSg (s.data.toList.take k)) with hb | hb
      · have HB := Lib.hid hb
        have hkl : k ≤ s.data.toList.length := by rw [HL.out]; omega
        have hN := sgnF_at s.data.toList k h0 (by omega) hkl hb (by
          by_cases h2 : k = 2
          · exact .inl h2
          · by_cases h3 : s.data.toList.length < 2
            · exact .inr (.inl h3)
            · refine .inr (.inr (HJ.out 2 (by omega) ?_))
              have := HL.out
              omega)
        have hX : (s.extract 0 k).data.toList = s.data.toList.take k := ext_take s k
        have hr : T = ⟨3, s.extract 0 k, noV, 0⟩ := by
          rw [HT.out]
          unfold sgnT
          rw [hN, if_neg (by omega), ← hX]
        have HR := Lib.hid hr
        have HC := Lib.hid (fun W => HI.out k W)
        clear hb hN hX hr hkl
        go_wp2_with (go_at_call 99; refine (HC.out _).mono ?_; rintro e w' ⟨rfl, rfl⟩; rw [HB.out])
        rw [HR.out]
        exact bodyPost_ret (v := .agg #[.int .i64 3, .string (s.extract 0 k), .int .i64 0, .bool false, .int .i64 0, .string ⟨#[]⟩, .int .i64 0]) (by simp [results, Tryz.results64, go_sem]) rfl ⟨rfl, one_new _ _⟩
      · have HB := Lib.hid hb
        have HC := Lib.hid (fun W => HI.out k W)
        clear hb
        go_wp2_with (go_at_call 99; refine (HC.out _).mono ?_; rintro e w' ⟨rfl, rfl⟩; rw [HB.out])
        go_round
        case rel =>
          refine ⟨k - 1, by omega, by rw [show ((k - 1 : Nat) : Int) = (k : Int) - 1 by omega], Lib.hid (fun j h1 h2 => ?_)⟩
          by_cases h3 : j = k
          · subst h3; exact HB.out
          · exact HJ.out j (by omega) h2
        case measure => simp [intOf]; omega
    · have hr : T = noT := by
        rw [HT.out]
        unfold sgnT
        rw [if_pos]
        have := HL.out
        refine sgnF_no _ ?_ ?_
        · by_cases h1 : s.data.toList.length < 1
          · exact .inl h1
          · exact .inr (HJ.out 1 (by omega) (by omega))
        · by_cases h1 : s.data.toList.length < 2
          · exact .inl h1
          · exact .inr (HJ.out 2 (by omega) (by omega))
      have HR := Lib.hid hr
      clear hr
      go_wp2
      rw [HR.out]
      exact bodyPost_ret (v := .agg #[.int .i64 0, .string ⟨#[]⟩, .int .i64 0, .bool false, .int .i64 0, .string ⟨#[]⟩, .int .i64 0]) (by simp [results, Tryz.results64, go_sem]) rfl ⟨rfl, one_new _ _⟩

theorem oneT_cons (c : UInt8) (r : List UInt8) : oneT (c :: r) = if c = 34 then quoT (c :: r) else if (dgt c || decide (c = 45)) = true then numT (c :: r) else if ltr c = true then worT ((c :: r).take (wordF (c :: r))) else sgnT (c :: r) := rfl
theorem tok_eta (x : Tok) : ∃ k t vk vf vn vt a, x = ⟨k, t, ⟨vk, vf, vn, vt⟩, a⟩ := ⟨_, _, _, _, _, _, _, rfl⟩
theorem call_tok {f : FuncId} {args : Array Value} {w : World} {x : Tok} (h : Calls Tryz.prog f args w fun e w' => e = .returned x.val ∧ Below w.heap.size w w') {k : Int} {t : ByteArray} {vk : Int} {vf : Bool} {vn : Int} {vt : ByteArray} {a : Int} (hx : x = ⟨k, t, ⟨vk, vf, vn, vt⟩, a⟩) :
    Calls Tryz.prog f args w fun e w' => e = .returned (.agg #[.int .i64 k, .string t, .int .i64 vk, .bool vf, .int .i64 vn, .string vt, .int .i64 a]) ∧ Below w.heap.size w w' := by
  subst hx
  exact h

set_option maxHeartbeats 2000000 in
theorem lx_first (s : ByteArray) (w : World) (hv : Vars w) (hs : s.size ≤ 300) : Calls Tryz.prog 30 #[.string s] w fun e w' => e = .returned (oneT s.data.toList).val ∧ Below w.heap.size w w' := by
  have HV := Lib.hid hv
  have htl : s.toList = s.data.toList := ByteArray.toList_eq s
  match hl : s.data.toList with
  | [] =>
    have b1 : (s.toList == []) = true := by rw [htl, hl]; rfl
    have b2 : s.toList.isEmpty = true := by rw [htl, hl]; rfl
    have b3 : s.toList = [] := by rw [htl, hl]
    clear hv hl htl
    go_enter Tryz.func30, Tryz.ntmps30
    go_wp2
    exact bodyPost_ret (v := .agg #[.int .i64 4, .string ⟨#[]⟩, .int .i64 0, .bool false, .int .i64 0, .string ⟨#[]⟩, .int .i64 0]) (by simp [results, Tryz.results30, go_sem]) rfl ⟨rfl, one_new _ _⟩
  | c :: r =>
    have h0 : 0 < s.size := by
      show 0 < s.data.toList.length
      rw [hl]; simp
    have hc : s[0] = c := by
      have e := at_some s 0 h0
      rw [hl] at e
      exact (Option.some.inj e).symm
    have b2 : s.toList.isEmpty = false := by rw [htl, hl]; rfl
    have b1 : (s.toList == []) = false := by rw [htl, hl]; rfl
    have b3 : (!s.toList.isEmpty) = true := by rw [b2]; rfl
    have b4 : ¬ s.toList = [] := by rw [htl, hl]; simp
    obtain ⟨k, t, vk, vf, vn, vt, a, hx⟩ := tok_eta (oneT (c :: r))
    rw [hx]
    by_cases h1 : c = 34
    · have b5 : ((s[0].toNat : Int) == 34) = true := by rw [hc, h1]; rfl
      have hq : conT (quoS s).data.toList = oneT (c :: r) := by
        subst h1
        unfold oneT quoT quoS quoR
        rw [hl]
        simp only [List.drop_succ_cons, List.drop_zero, if_true]
        by_cases h : txtF r 1 = 0
        · rw [if_pos h, if_pos h, hl]
          exact quo_open r h
        · rw [if_neg h, if_neg h, ext_take, hl]
      have HQ := Lib.hid (fun W => lx_quoted s W hs)
      have HC := Lib.hid (fun W (hW : Vars W) => call_tok (lx_const (quoS s) W hW) (by rw [hq, hx]))
      clear hv hl htl hx h1 hc hq b1 b4
      go_enter Tryz.func30, Tryz.ntmps30
      go_wp2_with (first
        | (go_at_call 60; refine (HQ.out _).mono ?_; rintro e w1 ⟨rfl, rfl⟩)
        | (go_at_call 59; refine (HC.out _ (by exact HV.out.later (one_new _ _))).mono ?_; rintro e w2 ⟨rfl, hb1⟩; have HB1 := Lib.hid ((one_new w _).trans (hb1.mono (by simp))); obtain ⟨c0, c1, c2, c3, c4, c5, c6, f0, f1, f2, f3, f4, f5, f6, _⟩ := box7_later hb1; clear hb1))
      exact bodyPost_ret (v := .agg #[.int .i64 k, .string t, .int .i64 vk, .bool vf, .int .i64 vn, .string vt, .int .i64 a]) (by simp [results, Tryz.results30, go_sem, c0, c1, c2, c3, c4, c5, c6]) rfl ⟨rfl, below_tok HB1.out _ _ _ _ _ _ _⟩
    · have b5 : ((s[0].toNat : Int) == 34) = false := by
        rw [hc, beq_eq_false_iff_ne]
        intro e
        exact h1 (by have : c.toNat = 34 := by omega
                     rw [eq_of_nat this]; rfl)
      have HG1 : Hid (∀ W, Calls Tryz.prog 61 #[.string s, .string ⟨#[45, 48, 49, 50, 51, 52, 53, 54, 55, 56, 57]⟩] W fun e w' => e = .returned (.bool (dgt c || decide (c = 45))) ∧ W = w') := Lib.hid (fun W => by
        have h := lx_begins (45 :: cDig) (fun c => (dgt c || decide (c = 45))) in_num s W
        rw [hl] at h
        exact h)
      have HG2 : Hid (∀ W, Calls Tryz.prog 61 #[.string s, .string ⟨#[97, 98, 99, 100, 101, 102, 103, 104, 105, 106, 107, 108, 109, 110, 111, 112, 113, 114, 115, 116, 117, 118, 119, 120, 121, 122]⟩] W fun e w' => e = .returned (.bool (ltr c)) ∧ W = w') := Lib.hid (fun W => by
        have h := lx_begins cLet ltr in_let s W
        rw [hl] at h
        exact h)
      rcases Bool.eq_false_or_eq_true (dgt c || decide (c = 45)) with h2 | h2
      · have hq : numT s.data.toList = oneT (c :: r) := by
          rw [oneT_cons, if_neg h1, if_pos h2, hl]
        have HC := Lib.hid (fun W (hW : Vars W) => call_tok (lx_number s W hW hs) (by rw [hq, hx]))
        have H2 := Lib.hid h2
        clear hv hl htl hx h1 hc hq b1 b4 h2
        go_enter Tryz.func30, Tryz.ntmps30
        go_wp2_with (first
          | (go_at_call 61; refine (HG1.out _).mono ?_; rintro e w1 ⟨rfl, rfl⟩; rw [H2.out])
          | (go_at_call 62; refine (HC.out _ (by exact HV.out.later (one_new _ _))).mono ?_; rintro e w2 ⟨rfl, hb1⟩; have HB1 := Lib.hid ((one_new w _).trans (hb1.mono (by simp))); obtain ⟨c0, c1, c2, c3, c4, c5, c6, f0, f1, f2, f3, f4, f5, f6, _⟩ := box7_later hb1; clear hb1))
        exact bodyPost_ret (v := .agg #[.int .i64 k, .string t, .int .i64 vk, .bool vf, .int .i64 vn, .string vt, .int .i64 a]) (by simp [results, Tryz.results30, go_sem, c0, c1, c2, c3, c4, c5, c6]) rfl ⟨rfl, below_tok HB1.out _ _ _ _ _ _ _⟩
      · rcases Bool.eq_false_or_eq_true (ltr c) with h3 | h3
        · have hq : worT (s.data.toList.take (wordF s.data.toList)) = oneT (c :: r) := by
            rw [oneT_cons, if_neg h1, if_neg (by rw [h2]; simp), if_pos h3, hl]
          have HC := Lib.hid (fun W (hW : Vars W) => call_tok (lx_word s W hW hs) (by rw [hq, hx]))
          have H2 := Lib.hid h2
          have H3 := Lib.hid h3
          clear hv hl htl hx h1 hc hq b1 b4 h2 h3
          go_enter Tryz.func30, Tryz.ntmps30
          go_wp2_with (first
            | (go_at_call 61; first | (with_reducible refine (HG1.out _).mono ?_; rintro e w1 ⟨rfl, rfl⟩; rw [H2.out]) | (with_reducible refine (HG2.out _).mono ?_; rintro e w1 ⟨rfl, rfl⟩; rw [H3.out]))
            | (go_at_call 63; refine (HC.out _ (by exact HV.out.later (one_new _ _))).mono ?_; rintro e w2 ⟨rfl, hb1⟩; have HB1 := Lib.hid ((one_new w _).trans (hb1.mono (by simp))); obtain ⟨c0, c1, c2, c3, c4, c5, c6, f0, f1, f2, f3, f4, f5, f6, _⟩ := box7_later hb1; clear hb1))
          exact bodyPost_ret (v := .agg #[.int .i64 k, .string t, .int .i64 vk, .bool vf, .int .i64 vn, .string vt, .int .i64 a]) (by simp [results, Tryz.results30, go_sem, c0, c1, c2, c3, c4, c5, c6]) rfl ⟨rfl, below_tok HB1.out _ _ _ _ _ _ _⟩
        · have hq : sgnT s.data.toList = oneT (c :: r) := by
            rw [oneT_cons, if_neg h1, if_neg (by rw [h2]; simp), if_neg (by rw [h3]; simp), hl]
          have HC := Lib.hid (fun W => call_tok (lx_sign s W hs) (by rw [hq, hx]))
          have H2 := Lib.hid h2
          have H3 := Lib.hid h3
          clear hv hl htl hx h1 hc hq b1 b4 h2 h3
          go_enter Tryz.func30, Tryz.ntmps30
          go_wp2_with (first
            | (go_at_call 61; first | (with_reducible refine (HG1.out _).mono ?_; rintro e w1 ⟨rfl, rfl⟩; rw [H2.out]) | (with_reducible refine (HG2.out _).mono ?_; rintro e w1 ⟨rfl, rfl⟩; rw [H3.out]))
            | (go_at_call 64; refine (HC.out _).mono ?_; rintro e w2 ⟨rfl, hb1⟩; have HB1 := Lib.hid ((one_new w _).trans (hb1.mono (by simp))); obtain ⟨c0, c1, c2, c3, c4, c5, c6, f0, f1, f2, f3, f4, f5, f6, _⟩ := box7_later hb1; clear hb1))
          exact bodyPost_ret (v := .agg #[.int .i64 k, .string t, .int .i64 vk, .bool vf, .int .i64 vn, .string vt, .int .i64 a]) (by simp [results, Tryz.results30, go_sem, c0, c1, c2, c3, c4, c5, c6]) rfl ⟨rfl, below_tok HB1.out _ _ _ _ _ _ _⟩
end Go.Proofs.YtkobfngnnblpeaaGreatDoor
