/-
  The document's own signs, and its next token: how many bytes a sign has; the token with which a text goes on, or that there is none; nothing that was there is changed.
  Condition: a text of at most 300 bytes.
  The document's own next token: the one with which a text goes on, or that there is none; nothing that was there is changed.
  Condition: a text of at most 300 bytes, and of one at least.
-/
import Derived.Test.YthdjkagodccdbaaM12
namespace Go.Proofs.Ythdjkagodccdbaa
section
open Go.RowKit

theorem sgnF_2 {l : List UInt8} {a : UInt8} (h0 : l[0]? = some a) (h1 : l[1]? = some 61) (ha : a = 61 ∨ a = 33 ∨ a = 60 ∨ a = 62) : sgnF l = 2 := by
  match l, h0, h1 with
  | x :: y :: _, h0, h1 =>
    have e0 : x = a := by simpa using h0
    have e1 : y = 61 := by simpa using h1
    subst e0 e1
    show (if _ then 2 else if _ then 1 else 0) = 2
    rw [if_pos ⟨rfl, ha⟩]
theorem sgnF_1 {l : List UInt8} {a : UInt8} (h0 : l[0]? = some a) (h1 : ¬ (l[1]? = some 61 ∧ (a = 61 ∨ a = 33 ∨ a = 60 ∨ a = 62))) (ha : a = 40 ∨ a = 41 ∨ a = 44 ∨ a = 95 ∨ a = 60 ∨ a = 62) : sgnF l = 1 := by
  match l, h0, h1 with
  | [x], h0, _ =>
    have e0 : x = a := by simpa using h0
    subst e0
    show (if _ then 1 else 0) = 1
    rw [if_pos ha]
  | x :: y :: _, h0, h1 =>
    have e0 : x = a := by simpa using h0
    subst e0
    show (if _ then 2 else if _ then 1 else 0) = 1
    rw [if_neg (fun h => h1 ⟨by rw [h.1]; rfl, h.2⟩), if_pos ha]
theorem sgnF_0 {l : List UInt8} {a : UInt8} (h0 : l[0]? = some a) (h1 : ¬ (l[1]? = some 61 ∧ (a = 61 ∨ a = 33 ∨ a = 60 ∨ a = 62))) (ha : ¬ (a = 40 ∨ a = 41 ∨ a = 44 ∨ a = 95 ∨ a = 60 ∨ a = 62)) : sgnF l = 0 := by
  match l, h0, h1 with
  | [x], h0, _ =>
    have e0 : x = a := by simpa using h0
    subst e0
    show (if _ then 1 else 0) = 0
    rw [if_neg ha]
  | x :: y :: _, h0, h1 =>
    have e0 : x = a := by simpa using h0
    subst e0
    show (if _ then 2 else if _ then 1 else 0) = 0
    rw [if_neg (fun h => h1 ⟨by rw [h.1]; rfl, h.2⟩), if_neg ha]

set_option maxRecDepth 100000 in
set_option maxHeartbeats 8000000 in
theorem rf_sign (s : ByteArray) (w : World) (hs : s.size ≤ 300) (h0 : 0 < s.size) : Calls Try.prog 58 #[.string s] w fun e w' => e = .returned (.int .i64 (sgnF s.data.toList)) ∧ w = w' := by
  obtain ⟨N, hN⟩ : ∃ N, N = sgnF s.data.toList := ⟨_, rfl⟩
  rw [← hN]
  have HN := Lib.hid hN
  have hat := at_some s 0 h0
  have hsl : s.data.toList.length = s.size := rfl
  clear hN
  by_cases h2 : 2 ≤ s.size
  · have hat1 := at_some s 1 h2
    by_cases hq : s[1].toNat = 61
    · have h1 : s.data.toList[1]? = some 61 := by rw [hat1, eq_of_nat hq]; rfl
      have c1 : ((s[1].toNat : Int) == 61) = true := by rw [hq]; rfl
      clear hat1 hq
      by_cases a0 : s[0].toNat = 61
      · have hv : s.data.toList[0]? = some 61 := by rw [hat, eq_of_nat a0]; rfl
        have HE := Lib.hid (HN.out.trans (sgnF_2 hv h1 (by decide)))
        have b0 : ((s[0].toNat : Int) == 61) = true := by rw [a0]; rfl
        clear hat hsl hv h1 
        go_enter Try.func58, Try.ntmps58
        go_wp2
        go_ret
        exact ⟨by rw [HE.out]; rfl, rfl⟩
      have b0 : ((s[0].toNat : Int) == 61) = false := by rw [beq_eq_false_iff_ne]; omega
      by_cases a1 : s[0].toNat = 33
      · have hv : s.data.toList[0]? = some 33 := by rw [hat, eq_of_nat a1]; rfl
        have HE := Lib.hid (HN.out.trans (sgnF_2 hv h1 (by decide)))
        have b1 : ((s[0].toNat : Int) == 33) = true := by rw [a1]; rfl
        clear hat hsl hv h1 a0
        go_enter Try.func58, Try.ntmps58
        go_wp2
        go_ret
        exact ⟨by rw [HE.out]; rfl, rfl⟩
      have b1 : ((s[0].toNat : Int) == 33) = false := by rw [beq_eq_false_iff_ne]; omega
      by_cases a2 : s[0].toNat = 60
      · have hv : s.data.toList[0]? = some 60 := by rw [hat, eq_of_nat a2]; rfl
        have HE := Lib.hid (HN.out.trans (sgnF_2 hv h1 (by decide)))
        have b2 : ((s[0].toNat : Int) == 60) = true := by rw [a2]; rfl
        clear hat hsl hv h1 a0 a1
        go_enter Try.func58, Try.ntmps58
        go_wp2
        go_ret
        exact ⟨by rw [HE.out]; rfl, rfl⟩
      have b2 : ((s[0].toNat : Int) == 60) = false := by rw [beq_eq_false_iff_ne]; omega
      by_cases a3 : s[0].toNat = 62
      · have hv : s.data.toList[0]? = some 62 := by rw [hat, eq_of_nat a3]; rfl
        have HE := Lib.hid (HN.out.trans (sgnF_2 hv h1 (by decide)))
        have b3 : ((s[0].toNat : Int) == 62) = true := by rw [a3]; rfl
        clear hat hsl hv h1 a0 a1 a2
        go_enter Try.func58, Try.ntmps58
        go_wp2
        go_ret
        exact ⟨by rw [HE.out]; rfl, rfl⟩
      have b3 : ((s[0].toNat : Int) == 62) = false := by rw [beq_eq_false_iff_ne]; omega
      by_cases a4 : s[0].toNat = 40
      · have hv : s.data.toList[0]? = some 40 := by rw [hat, eq_of_nat a4]; rfl
        have HE := Lib.hid (HN.out.trans (sgnF_1 hv (by rintro ⟨_, h⟩; revert h; decide) (by decide)))
        have b4 : ((s[0].toNat : Int) == 40) = true := by rw [a4]; rfl
        clear hat hsl hv h1 a0 a1 a2 a3
        go_enter Try.func58, Try.ntmps58
        go_wp2
        go_ret
        exact ⟨by rw [HE.out]; rfl, rfl⟩
      have b4 : ((s[0].toNat : Int) == 40) = false := by rw [beq_eq_false_iff_ne]; omega
      by_cases a5 : s[0].toNat = 41
      · have hv : s.data.toList[0]? = some 41 := by rw [hat, eq_of_nat a5]; rfl
        have HE := Lib.hid (HN.out.trans (sgnF_1 hv (by rintro ⟨_, h⟩; revert h; decide) (by decide)))
        have b5 : ((s[0].toNat : Int) == 41) = true := by rw [a5]; rfl
        clear hat hsl hv h1 a0 a1 a2 a3 a4
        go_enter Try.func58, Try.ntmps58
        go_wp2
        go_ret
        exact ⟨by rw [HE.out]; rfl, rfl⟩
      have b5 : ((s[0].toNat : Int) == 41) = false := by rw [beq_eq_false_iff_ne]; omega
      by_cases a6 : s[0].toNat = 44
      · have hv : s.data.toList[0]? = some 44 := by rw [hat, eq_of_nat a6]; rfl
        have HE := Lib.hid (HN.out.trans (sgnF_1 hv (by rintro ⟨_, h⟩; revert h; decide) (by decide)))
        have b6 : ((s[0].toNat : Int) == 44) = true := by rw [a6]; rfl
        clear hat hsl hv h1 a0 a1 a2 a3 a4 a5
        go_enter Try.func58, Try.ntmps58
        go_wp2
        go_ret
        exact ⟨by rw [HE.out]; rfl, rfl⟩
      have b6 : ((s[0].toNat : Int) == 44) = false := by rw [beq_eq_false_iff_ne]; omega
      by_cases a7 : s[0].toNat = 95
      · have hv : s.data.toList[0]? = some 95 := by rw [hat, eq_of_nat a7]; rfl
        have HE := Lib.hid (HN.out.trans (sgnF_1 hv (by rintro ⟨_, h⟩; revert h; decide) (by decide)))
        have b7 : ((s[0].toNat : Int) == 95) = true := by rw [a7]; rfl
        clear hat hsl hv h1 a0 a1 a2 a3 a4 a5 a6
        go_enter Try.func58, Try.ntmps58
        go_wp2
        go_ret
        exact ⟨by rw [HE.out]; rfl, rfl⟩
      have b7 : ((s[0].toNat : Int) == 95) = false := by rw [beq_eq_false_iff_ne]; omega
      have hn : ¬ (s[0] = 61 ∨ s[0] = 33 ∨ s[0] = 60 ∨ s[0] = 62) := by
        rintro (h | h | h | h)
        · exact a0 (by rw [h]; rfl)
        · exact a1 (by rw [h]; rfl)
        · exact a2 (by rw [h]; rfl)
        · exact a3 (by rw [h]; rfl)
      have hm : ¬ (s[0] = 40 ∨ s[0] = 41 ∨ s[0] = 44 ∨ s[0] = 95 ∨ s[0] = 60 ∨ s[0] = 62) := by
        rintro (h | h | h | h | h | h)
        · exact a4 (by rw [h]; rfl)
        · exact a5 (by rw [h]; rfl)
        · exact a6 (by rw [h]; rfl)
        · exact a7 (by rw [h]; rfl)
        · exact a2 (by rw [h]; rfl)
        · exact a3 (by rw [h]; rfl)
      have HE := Lib.hid (HN.out.trans (sgnF_0 hat (fun h => hn h.2) hm))
      clear hat hsl h1 hn hm a0 a1 a2 a3 a4 a5 a6 a7
      go_enter Try.func58, Try.ntmps58
      go_wp2
      go_ret
      exact ⟨by rw [HE.out]; rfl, rfl⟩
    · have h1 : ¬ s.data.toList[1]? = some 61 := by
        rw [hat1]
        intro h
        exact hq (by rw [Option.some.inj h]; rfl)
      have c1 : ((s[1].toNat : Int) == 61) = false := by rw [beq_eq_false_iff_ne]; omega
      clear hat1 hq
      by_cases a0 : s[0].toNat = 61
      · have hv : s.data.toList[0]? = some 61 := by rw [hat, eq_of_nat a0]; rfl
        have HE := Lib.hid (HN.out.trans (sgnF_0 hv (fun h => h1 h.1) (by decide)))
        have b0 : ((s[0].toNat : Int) == 61) = true := by rw [a0]; rfl
        clear hat hsl hv h1 
        go_enter Try.func58, Try.ntmps58
        go_wp2
        go_ret
        exact ⟨by rw [HE.out]; rfl, rfl⟩
      have b0 : ((s[0].toNat : Int) == 61) = false := by rw [beq_eq_false_iff_ne]; omega
      by_cases a1 : s[0].toNat = 33
      · have hv : s.data.toList[0]? = some 33 := by rw [hat, eq_of_nat a1]; rfl
        have HE := Lib.hid (HN.out.trans (sgnF_0 hv (fun h => h1 h.1) (by decide)))
        have b1 : ((s[0].toNat : Int) == 33) = true := by rw [a1]; rfl
        clear hat hsl hv h1 a0
        go_enter Try.func58, Try.ntmps58
        go_wp2
        go_ret
        exact ⟨by rw [HE.out]; rfl, rfl⟩
      have b1 : ((s[0].toNat : Int) == 33) = false := by rw [beq_eq_false_iff_ne]; omega
      by_cases a2 : s[0].toNat = 60
      · have hv : s.data.toList[0]? = some 60 := by rw [hat, eq_of_nat a2]; rfl
        have HE := Lib.hid (HN.out.trans (sgnF_1 hv (fun h => h1 h.1) (by decide)))
        have b2 : ((s[0].toNat : Int) == 60) = true := by rw [a2]; rfl
        clear hat hsl hv h1 a0 a1
        go_enter Try.func58, Try.ntmps58
        go_wp2
        go_ret
        exact ⟨by rw [HE.out]; rfl, rfl⟩
      have b2 : ((s[0].toNat : Int) == 60) = false := by rw [beq_eq_false_iff_ne]; omega
      by_cases a3 : s[0].toNat = 62
      · have hv : s.data.toList[0]? = some 62 := by rw [hat, eq_of_nat a3]; rfl
        have HE := Lib.hid (HN.out.trans (sgnF_1 hv (fun h => h1 h.1) (by decide)))
        have b3 : ((s[0].toNat : Int) == 62) = true := by rw [a3]; rfl
        clear hat hsl hv h1 a0 a1 a2
        go_enter Try.func58, Try.ntmps58
        go_wp2
        go_ret
        exact ⟨by rw [HE.out]; rfl, rfl⟩
      have b3 : ((s[0].toNat : Int) == 62) = false := by rw [beq_eq_false_iff_ne]; omega
      by_cases a4 : s[0].toNat = 40
      · have hv : s.data.toList[0]? = some 40 := by rw [hat, eq_of_nat a4]; rfl
        have HE := Lib.hid (HN.out.trans (sgnF_1 hv (fun h => h1 h.1) (by decide)))
        have b4 : ((s[0].toNat : Int) == 40) = true := by rw [a4]; rfl
        clear hat hsl hv h1 a0 a1 a2 a3
        go_enter Try.func58, Try.ntmps58
        go_wp2
        go_ret
        exact ⟨by rw [HE.out]; rfl, rfl⟩
      have b4 : ((s[0].toNat : Int) == 40) = false := by rw [beq_eq_false_iff_ne]; omega
      by_cases a5 : s[0].toNat = 41
      · have hv : s.data.toList[0]? = some 41 := by rw [hat, eq_of_nat a5]; rfl
        have HE := Lib.hid (HN.out.trans (sgnF_1 hv (fun h => h1 h.1) (by decide)))
        have b5 : ((s[0].toNat : Int) == 41) = true := by rw [a5]; rfl
        clear hat hsl hv h1 a0 a1 a2 a3 a4
        go_enter Try.func58, Try.ntmps58
        go_wp2
        go_ret
        exact ⟨by rw [HE.out]; rfl, rfl⟩
      have b5 : ((s[0].toNat : Int) == 41) = false := by rw [beq_eq_false_iff_ne]; omega
      by_cases a6 : s[0].toNat = 44
      · have hv : s.data.toList[0]? = some 44 := by rw [hat, eq_of_nat a6]; rfl
        have HE := Lib.hid (HN.out.trans (sgnF_1 hv (fun h => h1 h.1) (by decide)))
        have b6 : ((s[0].toNat : Int) == 44) = true := by rw [a6]; rfl
        clear hat hsl hv h1 a0 a1 a2 a3 a4 a5
        go_enter Try.func58, Try.ntmps58
        go_wp2
        go_ret
        exact ⟨by rw [HE.out]; rfl, rfl⟩
      have b6 : ((s[0].toNat : Int) == 44) = false := by rw [beq_eq_false_iff_ne]; omega
      by_cases a7 : s[0].toNat = 95
      · have hv : s.data.toList[0]? = some 95 := by rw [hat, eq_of_nat a7]; rfl
        have HE := Lib.hid (HN.out.trans (sgnF_1 hv (fun h => h1 h.1) (by decide)))
        have b7 : ((s[0].toNat : Int) == 95) = true := by rw [a7]; rfl
        clear hat hsl hv h1 a0 a1 a2 a3 a4 a5 a6
        go_enter Try.func58, Try.ntmps58
        go_wp2
        go_ret
        exact ⟨by rw [HE.out]; rfl, rfl⟩
      have b7 : ((s[0].toNat : Int) == 95) = false := by rw [beq_eq_false_iff_ne]; omega
      have hn : ¬ (s[0] = 61 ∨ s[0] = 33 ∨ s[0] = 60 ∨ s[0] = 62) := by
        rintro (h | h | h | h)
        · exact a0 (by rw [h]; rfl)
        · exact a1 (by rw [h]; rfl)
        · exact a2 (by rw [h]; rfl)
        · exact a3 (by rw [h]; rfl)
      have hm : ¬ (s[0] = 40 ∨ s[0] = 41 ∨ s[0] = 44 ∨ s[0] = 95 ∨ s[0] = 60 ∨ s[0] = 62) := by
        rintro (h | h | h | h | h | h)
        · exact a4 (by rw [h]; rfl)
        · exact a5 (by rw [h]; rfl)
        · exact a6 (by rw [h]; rfl)
        · exact a7 (by rw [h]; rfl)
        · exact a2 (by rw [h]; rfl)
        · exact a3 (by rw [h]; rfl)
      have HE := Lib.hid (HN.out.trans (sgnF_0 hat (fun h => hn h.2) hm))
      clear hat hsl h1 hn hm a0 a1 a2 a3 a4 a5 a6 a7
      go_enter Try.func58, Try.ntmps58
      go_wp2
      go_ret
      exact ⟨by rw [HE.out]; rfl, rfl⟩
  · have h1 : ¬ s.data.toList[1]? = some 61 := by
      rw [List.getElem?_eq_none (by omega)]
      intro h
      cases h
    by_cases a0 : s[0].toNat = 61
    · have hv : s.data.toList[0]? = some 61 := by rw [hat, eq_of_nat a0]; rfl
      have HE := Lib.hid (HN.out.trans (sgnF_0 hv (fun h => h1 h.1) (by decide)))
      have b0 : ((s[0].toNat : Int) == 61) = true := by rw [a0]; rfl
      clear hat hsl hv h1 
      go_enter Try.func58, Try.ntmps58
      go_wp2
      go_ret
      exact ⟨by rw [HE.out]; rfl, rfl⟩
    have b0 : ((s[0].toNat : Int) == 61) = false := by rw [beq_eq_false_iff_ne]; omega
    by_cases a1 : s[0].toNat = 33
    · have hv : s.data.toList[0]? = some 33 := by rw [hat, eq_of_nat a1]; rfl
      have HE := Lib.hid (HN.out.trans (sgnF_0 hv (fun h => h1 h.1) (by decide)))
      have b1 : ((s[0].toNat : Int) == 33) = true := by rw [a1]; rfl
      clear hat hsl hv h1 a0
      go_enter Try.func58, Try.ntmps58
      go_wp2
      go_ret
      exact ⟨by rw [HE.out]; rfl, rfl⟩
    have b1 : ((s[0].toNat : Int) == 33) = false := by rw [beq_eq_false_iff_ne]; omega
    by_cases a2 : s[0].toNat = 60
    · have hv : s.data.toList[0]? = some 60 := by rw [hat, eq_of_nat a2]; rfl
      have HE := Lib.hid (HN.out.trans (sgnF_1 hv (fun h => h1 h.1) (by decide)))
      have b2 : ((s[0].toNat : Int) == 60) = true := by rw [a2]; rfl
      clear hat hsl hv h1 a0 a1
      go_enter Try.func58, Try.ntmps58
      go_wp2
      go_ret
      exact ⟨by rw [HE.out]; rfl, rfl⟩
    have b2 : ((s[0].toNat : Int) == 60) = false := by rw [beq_eq_false_iff_ne]; omega
    by_cases a3 : s[0].toNat = 62
    · have hv : s.data.toList[0]? = some 62 := by rw [hat, eq_of_nat a3]; rfl
      have HE := Lib.hid (HN.out.trans (sgnF_1 hv (fun h => h1 h.1) (by decide)))
      have b3 : ((s[0].toNat : Int) == 62) = true := by rw [a3]; rfl
      clear hat hsl hv h1 a0 a1 a2
      go_enter Try.func58, Try.ntmps58
      go_wp2
      go_ret
      exact ⟨by rw [HE.out]; rfl, rfl⟩
    have b3 : ((s[0].toNat : Int) == 62) = false := by rw [beq_eq_false_iff_ne]; omega
    by_cases a4 : s[0].toNat = 40
    · have hv : s.data.toList[0]? = some 40 := by rw [hat, eq_of_nat a4]; rfl
      have HE := Lib.hid (HN.out.trans (sgnF_1 hv (fun h => h1 h.1) (by decide)))
      have b4 : ((s[0].toNat : Int) == 40) = true := by rw [a4]; rfl
      clear hat hsl hv h1 a0 a1 a2 a3
      go_enter Try.func58, Try.ntmps58
      go_wp2
      go_ret
      exact ⟨by rw [HE.out]; rfl, rfl⟩
    have b4 : ((s[0].toNat : Int) == 40) = false := by rw [beq_eq_false_iff_ne]; omega
    by_cases a5 : s[0].toNat = 41
    · have hv : s.data.toList[0]? = some 41 := by rw [hat, eq_of_nat a5]; rfl
      have HE := Lib.hid (HN.out.trans (sgnF_1 hv (fun h => h1 h.1) (by decide)))
      have b5 : ((s[0].toNat : Int) == 41) = true := by rw [a5]; rfl
      clear hat hsl hv h1 a0 a1 a2 a3 a4
      go_enter Try.func58, Try.ntmps58
      go_wp2
      go_ret
      exact ⟨by rw [HE.out]; rfl, rfl⟩
    have b5 : ((s[0].toNat : Int) == 41) = false := by rw [beq_eq_false_iff_ne]; omega
    by_cases a6 : s[0].toNat = 44
    · have hv : s.data.toList[0]? = some 44 := by rw [hat, eq_of_nat a6]; rfl
      have HE := Lib.hid (HN.out.trans (sgnF_1 hv (fun h => h1 h.1) (by decide)))
      have b6 : ((s[0].toNat : Int) == 44) = true := by rw [a6]; rfl
      clear hat hsl hv h1 a0 a1 a2 a3 a4 a5
      go_enter Try.func58, Try.ntmps58
      go_wp2
      go_ret
      exact ⟨by rw [HE.out]; rfl, rfl⟩
    have b6 : ((s[0].toNat : Int) == 44) = false := by rw [beq_eq_false_iff_ne]; omega
    by_cases a7 : s[0].toNat = 95
    · have hv : s.data.toList[0]? = some 95 := by rw [hat, eq_of_nat a7]; rfl
      have HE := Lib.hid (HN.out.trans (sgnF_1 hv (fun h => h1 h.1) (by decide)))
      have b7 : ((s[0].toNat : Int) == 95) = true := by rw [a7]; rfl
      clear hat hsl hv h1 a0 a1 a2 a3 a4 a5 a6
      go_enter Try.func58, Try.ntmps58
      go_wp2
      go_ret
      exact ⟨by rw [HE.out]; rfl, rfl⟩
    have b7 : ((s[0].toNat : Int) == 95) = false := by rw [beq_eq_false_iff_ne]; omega
    have hn : ¬ (s[0] = 61 ∨ s[0] = 33 ∨ s[0] = 60 ∨ s[0] = 62) := by
      rintro (h | h | h | h)
      · exact a0 (by rw [h]; rfl)
      · exact a1 (by rw [h]; rfl)
      · exact a2 (by rw [h]; rfl)
      · exact a3 (by rw [h]; rfl)
    have hm : ¬ (s[0] = 40 ∨ s[0] = 41 ∨ s[0] = 44 ∨ s[0] = 95 ∨ s[0] = 60 ∨ s[0] = 62) := by
      rintro (h | h | h | h | h | h)
      · exact a4 (by rw [h]; rfl)
      · exact a5 (by rw [h]; rfl)
      · exact a6 (by rw [h]; rfl)
      · exact a7 (by rw [h]; rfl)
      · exact a2 (by rw [h]; rfl)
      · exact a3 (by rw [h]; rfl)
    have HE := Lib.hid (HN.out.trans (sgnF_0 hat (fun h => hn h.2) hm))
    clear hat hsl h1 hn hm a0 a1 a2 a3 a4 a5 a6 a7
    go_enter Try.func58, Try.ntmps58
    go_wp2
    go_ret
    exact ⟨by rw [HE.out]; rfl, rfl⟩
end
end Go.Proofs.Ythdjkagodccdbaa
namespace Go.Proofs.Ythdjkagodccdbaa
section
open Go.RowKit

/-- Does a text go on with a token? -/
def okT (l : List UInt8) : Bool := decide ((oneT l).k ≠ 0)
/-- What the document's next token is. -/
def IsOne (l : List UInt8) (w : World) (e : Ending) (w' : World) : Prop := ∃ (k : Int) (t : ByteArray) (vk : Int) (vf : Bool) (vn : Int) (vt : ByteArray),
  e = .returned (.tuple #[.agg #[.int .i64 k, .string t, .int .i64 vk, .bool vf, .int .i64 vn, .string vt, .int .i64 0], .bool (okT l)]) ∧ (okT l = true → oneT l = ⟨k, t, ⟨vk, vf, vn, vt⟩, 0⟩) ∧ Below w.heap.size w w'

theorem box7_of {w2 : World} {g : Nat} {a b c d e f h : Value} {T : TypeId} (hn : w2.heap[g]? = some (.cells #[a, b, c, d, e, f, h] T (0, 0))) :
    w2.cell? ⟨g, 0, none⟩ = some a ∧ w2.cell? ⟨g, 1, none⟩ = some b ∧ w2.cell? ⟨g, 2, none⟩ = some c ∧ w2.cell? ⟨g, 3, none⟩ = some d ∧ w2.cell? ⟨g, 4, none⟩ = some e ∧ w2.cell? ⟨g, 5, none⟩ = some f ∧ w2.cell? ⟨g, 6, none⟩ = some h ∧
    w2.frozen? ⟨g, 0, none⟩ = false ∧ w2.frozen? ⟨g, 1, none⟩ = false ∧ w2.frozen? ⟨g, 2, none⟩ = false ∧ w2.frozen? ⟨g, 3, none⟩ = false ∧ w2.frozen? ⟨g, 4, none⟩ = false ∧ w2.frozen? ⟨g, 5, none⟩ = false ∧ w2.frozen? ⟨g, 6, none⟩ = false ∧ g < w2.heap.size := by
  have hc : ∀ o, w2.cell? ⟨g, o, none⟩ = (#[a, b, c, d, e, f, h] : Array Value)[o]? := fun o => cell_of_row _ g o _ T (0, 0) hn
  have hf : ∀ o, w2.frozen? ⟨g, o, none⟩ = false := fun o => by unfold World.frozen?; rw [hn]; simp
  exact ⟨hc 0, hc 1, hc 2, hc 3, hc 4, hc 5, hc 6, hf 0, hf 1, hf 2, hf 3, hf 4, hf 5, hf 6, (Array.getElem?_eq_some_iff.1 hn).1⟩

theorem first_of_two (w : World) (o p : Obj) : ((w.alloc o).alloc p).heap[w.heap.size]? = some o := (Below.heap_alloc _ _ _ (by simp)).trans (heap_alloc_new w _)
theorem second_of_two (w : World) (o p : Obj) : ((w.alloc o).alloc p).heap[w.heap.size + 1]? = some p := by
  have h := heap_alloc_new (w.alloc o) p
  rw [World.size_alloc] at h
  exact h
theorem rf_read' (s : ByteArray) (l : List UInt8) (hl : s.data.toList = l) (hs : s.size ≤ 1000) (v : V) (z : Int) (hR : readR l = (v, z)) (w : World) :
    Calls Try.prog 54 #[.string s] w fun e w' => e = .returned (.tuple #[.agg #[.int .i64 v.k, .bool v.f, .int .i64 v.n, .string v.t], .int .i64 z]) ∧ Below w.heap.size w w' := by
  have h := ref_read s w hs
  rw [hl, hR] at h
  exact h
theorem read_null : (readR [110, 117, 108, 108]).2 = 0 := by kernel_rfl

set_option maxRecDepth 100000 in
set_option maxHeartbeats 4000000 in
theorem rf_one_word (s : ByteArray) (w : World) (hs : s.size ≤ 300) (h0 : 0 < s.size) (hl : ltr s[0] = true) : Calls Try.prog 37 #[.string s] w (IsOne s.data.toList w) := by
  have hsl : s.data.toList.length = s.size := rfl
  have hnl := wordF_le s.data.toList
  obtain ⟨N, hN⟩ : ∃ N, N = wordF s.data.toList := ⟨_, rfl⟩
  have hXl : (s.extract 0 N).data.toList = s.data.toList.take N := ext_take s N
  have hNs : N ≤ s.size := by omega
  have hXs : (s.extract 0 N).size ≤ 300 := by
    show (s.extract 0 N).data.toList.length ≤ 300
    rw [hXl, List.length_take]
    omega
  have hone : oneT s.data.toList = worT (s.data.toList.take N) := by
    match e : s.data.toList with
    | [] => rw [e] at hsl; simp at hsl; omega
    | c :: r =>
      have hc : s[0] = c := by
        have h := at_some s 0 h0
        rw [e] at h
        exact (Option.some.inj h).symm
      rw [hc] at hl
      have h1 : c ≠ 34 := by intro h; subst h; revert hl; decide
      have h2 : (dgt c || decide (c = 45)) = false := by
        rw [← Bool.not_eq_true]
        intro h
        simp only [Bool.or_eq_true, decide_eq_true_eq] at h
        rcases h with h | h
        · unfold ltr at hl
          unfold dgt at h
          simp only [Bool.and_eq_true, decide_eq_true_eq] at hl h
          omega
        · subst h; revert hl; decide
      rw [oneT_cons, if_neg h1, if_neg (by rw [h2]; simp), if_pos hl, hN, e]
  have hmk : (⟨(s.data.toList.take N).toArray⟩ : ByteArray) = s.extract 0 N := by rw [← hXl]
  have HA := Lib.hid hl
  have HW : Hid (∀ W, Calls Try.prog 53 #[.string s] W fun e w' => e = .returned (.int .i64 (N : Int)) ∧ W = w') := Lib.hid (fun W => by
    have h := rf_word s W hs h0 hl
    rw [← hN] at h
    exact h)
  obtain ⟨⟨v, z⟩, hR⟩ : ∃ x, x = readR (s.data.toList.take N) := ⟨_, rfl⟩
  have HRD := Lib.hid (fun W => rf_read' (s.extract 0 N) (s.data.toList.take N) hXl (by omega) v z hR.symm W)
  have htl : (s.extract 0 N).toList = s.data.toList.take N := by rw [ByteArray.toList_eq, hXl]
  obtain ⟨vk, vf, vn, vt⟩ := v
  rcases readR_cases0 (s.data.toList.take N) with hz | hz
  · have hz' : z = 0 := by rw [← hR] at hz; exact hz
    subst hz'
    have hr : oneT s.data.toList = ⟨2, s.extract 0 N, ⟨vk, vf, vn, vt⟩, 0⟩ := by rw [hone]; unfold worT; rw [← hR, ← hmk]; rfl
    have HR := Lib.hid hr
    have hok : okT s.data.toList = true := by unfold okT; rw [hr]; rfl
    have HOK := Lib.hid hok
    have key : ∀ b : Bool, ((s.extract 0 N).toList == [110, 117, 108, 108]) = b → Calls Try.prog 37 #[.string s] w (IsOne s.data.toList w) := by
      intro b hb
      clear hsl hnl hXl hone hmk hR htl hz hr hok hl hN hXs
      cases b
      all_goals
        go_enter Try.func37, Try.ntmps37
        go_wp2_with (first
          | (go_at_call 52; refine (rf_letter _ _).mono ?_; rintro e w1 ⟨rfl, rfl⟩; rw [HA.out])
          | (go_at_call 53; refine (HW.out _).mono ?_; rintro e w1 ⟨rfl, rfl⟩))
        refine (HRD.out _).mono ?_
        rintro e w1 ⟨rfl, hb1⟩
        have HB := Lib.hid ((two_new w _ _).trans (hb1.mono (by simp; omega)))
        have k2 := (hb1.block w.heap.size (by simp; omega)).trans (first_of_two w _ _)
        have k4 := (hb1.block (w.heap.size + 1) (by simp)).trans (second_of_two w _ _)
        obtain ⟨c0, c1, c2, c3, c4, c5, c6, f0, f1, f2, f3, f4, f5, f6, hz2⟩ := box7_of k2
        obtain ⟨d0, d1, d2, d3, d4, d5, d6, e0, e1, e2, e3, e4, e5, e6, hz4⟩ := box7_of k4
        clear hb1 k2 k4
        go_wp2
        exact bodyPost_ret (v := .tuple #[.agg #[.int .i64 2, .string (s.extract 0 N), .int .i64 vk, .bool vf, .int .i64 vn, .string vt, .int .i64 0], .bool true]) (by simp [results, Try.results37, go_sem, c0, c1, c2, c3, c4, c5, c6, hz2]) rfl ⟨2, _, vk, vf, vn, vt, by rw [HOK.out], fun _ => HR.out, by repeat (first | (with_reducible exact HB.out) | (with_reducible refine bset ?_) | (with_reducible refine bset1 ?_) | (with_reducible refine bnew' ?_ (Nat.le_refl _) _))⟩
    exact key _ rfl
  · rw [hz] at hR
    have e1 : vk = 0 ∧ vf = false ∧ vn = 0 ∧ vt = ⟨#[]⟩ ∧ z = 7 := by
      have h1 := congrArg Prod.fst hR
      have h2 := congrArg Prod.snd hR
      have h3 : (⟨vk, vf, vn, vt⟩ : V) = ⟨0, false, 0, ⟨#[]⟩⟩ := h1
      injection h3 with a1 a2 a3 a4
      exact ⟨a1, a2, a3, a4, h2⟩
    obtain ⟨rfl, rfl, rfl, rfl, rfl⟩ := e1
    have hr : oneT s.data.toList = ⟨1, s.extract 0 N, ⟨0, false, 0, ⟨#[]⟩⟩, 0⟩ := by rw [hone]; unfold worT; rw [hz, ← hmk]; rfl
    have HR := Lib.hid hr
    have hok : okT s.data.toList = true := by unfold okT; rw [hr]; rfl
    have HOK := Lib.hid hok
    have b1 : ((s.extract 0 N).toList == [110, 117, 108, 108]) = false := by
      rw [htl, beq_eq_false_iff_ne]
      intro h
      rw [h] at hz
      have := read_null
      rw [hz] at this
      cases this
    clear hsl hnl hXl hone hmk hR htl hz hr hok hl hN hXs
    go_enter Try.func37, Try.ntmps37
    go_wp2_with (first
      | (go_at_call 52; refine (rf_letter _ _).mono ?_; rintro e w1 ⟨rfl, rfl⟩; rw [HA.out])
      | (go_at_call 53; refine (HW.out _).mono ?_; rintro e w1 ⟨rfl, rfl⟩))
    refine (HRD.out _).mono ?_
    rintro e w1 ⟨rfl, hb1⟩
    have HB := Lib.hid ((two_new w _ _).trans (hb1.mono (by simp; omega)))
    have k2 := (hb1.block w.heap.size (by simp; omega)).trans (first_of_two w _ _)
    have k4 := (hb1.block (w.heap.size + 1) (by simp)).trans (second_of_two w _ _)
    obtain ⟨c0, c1, c2, c3, c4, c5, c6, f0, f1, f2, f3, f4, f5, f6, hz2⟩ := box7_of k2
    obtain ⟨d0, d1, d2, d3, d4, d5, d6, e0, e1, e2, e3, e4, e5, e6, hz4⟩ := box7_of k4
    clear hb1 k2 k4
    go_wp2
    exact bodyPost_ret (v := .tuple #[.agg #[.int .i64 1, .string (s.extract 0 N), .int .i64 0, .bool false, .int .i64 0, .string ⟨#[]⟩, .int .i64 0], .bool true]) (by simp [results, Try.results37, go_sem, c0, c1, c2, c3, c4, c5, c6, hz2]) rfl ⟨1, _, 0, false, 0, ⟨#[]⟩, by rw [HOK.out], fun _ => HR.out, by repeat (first | (with_reducible exact HB.out) | (with_reducible refine bset ?_) | (with_reducible refine bset1 ?_) | (with_reducible refine bnew' ?_ (Nat.le_refl _) _))⟩

/-- Behind a constant's bytes: what Read of the document answers decides. -/
theorem con_cases (s : ByteArray) (N : Nat) (l : List UInt8) (hl : (s.extract 0 N).data.toList = l) (hs : l.length ≤ 300) : ∃ (vk : Int) (vf : Bool) (vn : Int) (vt : ByteArray) (z : Int) (b : Bool),
    (∀ W, Calls Try.prog 54 #[.string (s.extract 0 N)] W fun e w' => e = .returned (.tuple #[.agg #[.int .i64 vk, .bool vf, .int .i64 vn, .string vt], .int .i64 z]) ∧ Below W.heap.size W w') ∧
    (z == 0) = b ∧ decide ((conT l).k ≠ 0) = b ∧ (b = true → conT l = ⟨2, s.extract 0 N, ⟨vk, vf, vn, vt⟩, 0⟩) := by
  obtain ⟨⟨⟨vk, vf, vn, vt⟩, z⟩, hR⟩ : ∃ x, x = readR l := ⟨_, rfl⟩
  have hsz : (s.extract 0 N).size ≤ 1000 := by
    show (s.extract 0 N).data.toList.length ≤ 1000
    rw [hl]; omega
  refine ⟨vk, vf, vn, vt, z, z == 0, fun W => rf_read' _ l hl hsz ⟨vk, vf, vn, vt⟩ z hR.symm W, rfl, ?_, ?_⟩
  · unfold conT
    rcases readR_cases0 l with h | h
    · have h' : z = 0 := by rw [← hR] at h; exact h
      rw [if_pos h, h']; rfl
    · have h' : z = 7 := by rw [← hR] at h; exact congrArg Prod.snd h
      rw [h, h']; rfl
  · intro hb
    have hb' : z = 0 := by simpa using hb
    have h2 : (readR l).2 = 0 := by rw [← hR]; exact hb'
    unfold conT
    rw [if_pos h2, ← hR, ← hl]
end
end Go.Proofs.Ythdjkagodccdbaa
