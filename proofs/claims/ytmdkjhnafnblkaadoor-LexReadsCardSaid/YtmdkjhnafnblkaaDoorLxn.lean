/-
  The document's own signs, and its next token: how many bytes a sign has; the token with which a text goes on, or that there is none; nothing that was there is changed.
  Condition: a text of at most 300 bytes.
-/
import Derived.Test.YtmdkjhnafnblkaaDoorLxm
namespace Go.Proofs.YtmdkjhnafnblkaaDoor
open Go.RowKit

theorem sgnF_2 {l : List UInt8} {a : UInt8} (h0 : l[0]? = some a) (h1 : l[1]? = some 61) (ha : a = 61 ∨ a = 33 ∨ a = 60 ∨ a = 62) : sgnF l = 2 := by
  match l, h0, h1 with
  | x :: y :: _, h0, h1 =>
    have e0 : x = a := by simpa using h0
    have e1 : y = 61 := by simpa using h1
    subst e0 e1
    show (if _ then 2 else if _ then 1 else 0) = 2
    rw [if_pos ⟨rfl, ha⟩]
theorem sgnF_1 {l : List UInt8} {a : UInt8} (h0 : l[0]? = some a) (h1 : ¬ (l[1]? = some 61 ∧ (a = 61 ∨ a = 33 ∨ a = 60 ∨ a = 62))) (ha : a = 40 ∨ a = 41 ∨ a = 44 ∨ a = 95 ∨ a = 60 ∨ a = 62) : sgnF l = 1 := by
  match l, h0, h1 with
  | [x], h0, _ =>
    have e0 : x = a := by simpa using h0
    subst e0
    show (if _ then 1 else 0) = 1
    rw [if_pos ha]
  | x :: y :: _, h0, h1 =>
    have e0 : x = a := by simpa using h0
    subst e0
    show (if _ then 2 else if _ then 1 else 0) = 1
    rw [if_neg (fun h => h1 ⟨by rw [h.1]; rfl, h.2⟩), if_pos ha]
theorem sgnF_0 {l : List UInt8} {a : UInt8} (h0 : l[0]? = some a) (h1 : ¬ (l[1]? = some 61 ∧ (a = 61 ∨ a = 33 ∨ a = 60 ∨ a = 62))) (ha : ¬ (a = 40 ∨ a = 41 ∨ a = 44 ∨ a = 95 ∨ a = 60 ∨ a = 62)) : sgnF l = 0 := by
  match l, h0, h1 with
  | [x], h0, _ =>
    have e0 : x = a := by simpa using h0
    subst e0
    show (if _ then 1 else 0) = 0
    rw [if_neg ha]
  | x :: y :: _, h0, h1 =>
    have e0 : x = a := by simpa using h0
    subst e0
    show (if _ then 2 else if _ then 1 else 0) = 0
    rw [if_neg (fun h => h1 ⟨by rw [h.1]; rfl, h.2⟩), if_neg ha]

set_option maxRecDepth 100000 in
set_option maxHeartbeats 8000000 in
theorem rf_sign (s : ByteArray) (w : World) (hs : s.size ≤ 300) (h0 : 0 < s.size) : Calls Tryd.prog 28 #[.string s] w fun e w' => e = .returned (.int .i64 (sgnF s.data.toList)) ∧ w = w' := by
  obtain ⟨N, hN⟩ : ∃ N, N = sgnF s.data.toList := ⟨_, rfl⟩
  rw [← hN]
  have HN := Lib.hid hN
  have hat := at_some s 0 h0
  have hsl : s.data.toList.length = s.size := rfl
  clear hN
  by_cases h2 : 2 ≤ s.size
  · have hat1 := at_some s 1 h2
    by_cases hq : s[1].toNat = 61
    · have h1 : s.data.toList[1]? = some 61 := by rw [hat1, eq_of_nat hq]; rfl
      have c1 : ((s[1].toNat : Int) == 61) = true := by rw [hq]; rfl
      clear hat1 hq
      by_cases a0 : s[0].toNat = 61
      · have hv : s.data.toList[0]? = some 61 := by rw [hat, eq_of_nat a0]; rfl
        have HE := Lib.hid (HN.out.trans (sgnF_2 hv h1 (by decide)))
        have b0 : ((s[0].toNat : Int) == 61) = true := by rw [a0]; rfl
        clear hat hsl hv h1 
        go_enter Tryd.func28, Tryd.ntmps28
        go_wp2
        go_ret
        exact ⟨by rw [HE.out]; rfl, rfl⟩
      have b0 : ((s[0].toNat : Int) == 61) = false := by rw [beq_eq_false_iff_ne]; omega
      by_cases a1 : s[0].toNat = 33
      · have hv : s.data.toList[0]? = some 33 := by rw [hat, eq_of_nat a1]; rfl
        have HE := Lib.hid (HN.out.trans (sgnF_2 hv h1 (by decide)))
        have b1 : ((s[0].toNat : Int) == 33) = true := by rw [a1]; rfl
        clear hat hsl hv h1 a0
        go_enter Tryd.func28, Tryd.ntmps28
        go_wp2
        go_ret
        exact ⟨by rw [HE.out]; rfl, rfl⟩
      have b1 : ((s[0].toNat : Int) == 33) = false := by rw [beq_eq_false_iff_ne]; omega
      by_cases a2 : s[0].toNat = 60
      · have hv : s.data.toList[0]? = some 60 := by rw [hat, eq_of_nat a2]; rfl
        have HE := Lib.hid (HN.out.trans (sgnF_2 hv h1 (by decide)))
        have b2 : ((s[0].toNat : Int) == 60) = true := by rw [a2]; rfl
        clear hat hsl hv h1 a0 a1
        go_enter Tryd.func28, Tryd.ntmps28
        go_wp2
        go_ret
        exact ⟨by rw [HE.out]; rfl, rfl⟩
      have b2 : ((s[0].toNat : Int) == 60) = false := by rw [beq_eq_false_iff_ne]; omega
      by_cases a3 : s[0].toNat = 62
      · have hv : s.data.toList[0]? = some 62 := by rw [hat, eq_of_nat a3]; rfl
        have HE := Lib.hid (HN.out.trans (sgnF_2 hv h1 (by decide)))
        have b3 : ((s[0].toNat : Int) == 62) = true := by rw [a3]; rfl
        clear hat hsl hv h1 a0 a1 a2
        go_enter Tryd.func28, Tryd.ntmps28
        go_wp2
        go_ret
        exact ⟨by rw [HE.out]; rfl, rfl⟩
      have b3 : ((s[0].toNat : Int) == 62) = false := by rw [beq_eq_false_iff_ne]; omega
      by_cases a4 : s[0].toNat = 40
      · have hv : s.data.toList[0]? = some 40 := by rw [hat, eq_of_nat a4]; rfl
        have HE := Lib.hid (HN.out.trans (sgnF_1 hv (by rintro ⟨_, h⟩; revert h; decide) (by decide)))
        have b4 : ((s[0].toNat : Int) == 40) = true := by rw [a4]; rfl
        clear hat hsl hv h1 a0 a1 a2 a3
        go_enter Tryd.func28, Tryd.ntmps28
        go_wp2
        go_ret
        exact ⟨by rw [HE.out]; rfl, rfl⟩
      have b4 : ((s[0].toNat : Int) == 40) = false := by rw [beq_eq_false_iff_ne]; omega
      by_cases a5 : s[0].toNat = 41
      · have hv : s.data.toList[0]? = some 41 := by rw [hat, eq_of_nat a5]; rfl
        have HE := Lib.hid (HN.out.trans (sgnF_1 hv (by rintro ⟨_, h⟩; revert h; decide) (by decide)))
        have b5 : ((s[0].toNat : Int) == 41) = true := by rw [a5]; rfl
        clear hat hsl hv h1 a0 a1 a2 a3 a4
        go_enter Tryd.func28, Tryd.ntmps28
        go_wp2
        go_ret
        exact ⟨by rw [HE.out]; rfl, rfl⟩
      have b5 : ((s[0].toNat : Int) == 41) = false := by rw [beq_eq_false_iff_ne]; omega
      by_cases a6 : s[0].toNat = 44
      · have hv : s.data.toList[0]? = some 44 := by rw [hat, eq_of_nat a6]; rfl
        have HE := Lib.hid (HN.out.trans (sgnF_1 hv (by rintro ⟨_, h⟩; revert h; decide) (by decide)))
        have b6 : ((s[0].toNat : Int) == 44) = true := by rw [a6]; rfl
        clear hat hsl hv h1 a0 a1 a2 a3 a4 a5
        go_enter Tryd.func28, Tryd.ntmps28
        go_wp2
        go_ret
        exact ⟨by rw [HE.out]; rfl, rfl⟩
      have b6 : ((s[0].toNat : Int) == 44) = false := by rw [beq_eq_false_iff_ne]; omega
      by_cases a7 : s[0].toNat = 95
      · have hv : s.data.toList[0]? = some 95 := by rw [hat, eq_of_nat a7]; rfl
        have HE := Lib.hid (HN.out.trans (sgnF_1 hv (by rintro ⟨_, h⟩; revert h; decide) (by decide)))
        have b7 : ((s[0].toNat : Int) == 95) = true := by rw [a7]; rfl
        clear hat hsl hv h1 a0 a1 a2 a3 a4 a5 a6
        go_enter Tryd.func28, Tryd.ntmps28
        go_wp2
        go_ret
        exact ⟨by rw [HE.out]; rfl, rfl⟩
      have b7 : ((s[0].toNat : Int) == 95) = false := by rw [beq_eq_false_iff_ne]; omega
      have hn : ¬ (s[0] = 61 ∨ s[0] = 33 ∨ s[0] = 60 ∨ s[0] = 62) := by
        rintro (h | h | h | h)
        · exact a0 (by rw [h]; rfl)
        · exact a1 (by rw [h]; rfl)
        · exact a2 (by rw [h]; rfl)
        · exact a3 (by rw [h]; rfl)
      have hm : ¬ (s[0] = 40 ∨ s[0] = 41 ∨ s[0] = 44 ∨ s[0] = 95 ∨ s[0] = 60 ∨ s[0] = 62) := by
        rintro (h | h | h | h | h | h)
        · exact a4 (by rw [h]; rfl)
        · exact a5 (by rw [h]; rfl)
        · exact a6 (by rw [h]; rfl)
        · exact a7 (by rw [h]; rfl)
        · exact a2 (by rw [h]; rfl)
        · exact a3 (by rw [h]; rfl)
      have HE := Lib.hid (HN.out.trans (sgnF_0 hat (fun h => hn h.2) hm))
      clear hat hsl h1 hn hm a0 a1 a2 a3 a4 a5 a6 a7
      go_enter Tryd.func28, Tryd.ntmps28
      go_wp2
      go_ret
      exact ⟨by rw [HE.out]; rfl, rfl⟩
    · have h1 : ¬ s.data.toList[1]? = some 61 := by
        rw [hat1]
        intro h
        exact hq (by rw [Option.some.inj h]; rfl)
      have c1 : ((s[1].toNat : Int) == 61) = false := by rw [beq_eq_false_iff_ne]; omega
      clear hat1 hq
      by_cases a0 : s[0].toNat = 61
      · have hv : s.data.toList[0]? = some 61 := by rw [hat, eq_of_nat a0]; rfl
        have HE := Lib.hid (HN.out.trans (sgnF_0 hv (fun h => h1 h.1) (by decide)))
        have b0 : ((s[0].toNat : Int) == 61) = true := by rw [a0]; rfl
        clear hat hsl hv h1 
        go_enter Tryd.func28, Tryd.ntmps28
        go_wp2
        go_ret
        exact ⟨by rw [HE.out]; rfl, rfl⟩
      have b0 : ((s[0].toNat : Int) == 61) = false := by rw [beq_eq_false_iff_ne]; omega
      by_cases a1 : s[0].toNat = 33
      · have hv : s.data.toList[0]? = some 33 := by rw [hat, eq_of_nat a1]; rfl
        have HE := Lib.hid (HN.out.trans (sgnF_0 hv (fun h => h1 h.1) (by decide)))
        have b1 : ((s[0].toNat : Int) == 33) = true := by rw [a1]; rfl
        clear hat hsl hv h1 a0
        go_enter Tryd.func28, Tryd.ntmps28
        go_wp2
        go_ret
        exact ⟨by rw [HE.out]; rfl, rfl⟩
      have b1 : ((s[0].toNat : Int) == 33) = false := by rw [beq_eq_false_iff_ne]; omega
      by_cases a2 : s[0].toNat = 60
      · have hv : s.data.toList[0]? = some 60 := by rw [hat, eq_of_nat a2]; rfl
        have HE := Lib.hid (HN.out.trans (sgnF_1 hv (fun h => h1 h.1) (by decide)))
        have b2 : ((s[0].toNat : Int) == 60) = true := by rw [a2]; rfl
        clear hat hsl hv h1 a0 a1
        go_enter Tryd.func28, Tryd.ntmps28
        go_wp2
        go_ret
        exact ⟨by rw [HE.out]; rfl, rfl⟩
      have b2 : ((s[0].toNat : Int) == 60) = false := by rw [beq_eq_false_iff_ne]; omega
      by_cases a3 : s[0].toNat = 62
      · have hv : s.data.toList[0]? = some 62 := by rw [hat, eq_of_nat a3]; rfl
        have HE := Lib.hid (HN.out.trans (sgnF_1 hv (fun h => h1 h.1) (by decide)))
        have b3 : ((s[0].toNat : Int) == 62) = true := by rw [a3]; rfl
        clear hat hsl hv h1 a0 a1 a2
        go_enter Tryd.func28, Tryd.ntmps28
        go_wp2
        go_ret
        exact ⟨by rw [HE.out]; rfl, rfl⟩
      have b3 : ((s[0].toNat : Int) == 62) = false := by rw [beq_eq_false_iff_ne]; omega
      by_cases a4 : s[0].toNat = 40
      · have hv : s.data.toList[0]? = some 40 := by rw [hat, eq_of_nat a4]; rfl
        have HE := Lib.hid (HN.out.trans (sgnF_1 hv (fun h => h1 h.1) (by decide)))
        have b4 : ((s[0].toNat : Int) == 40) = true := by rw [a4]; rfl
        clear hat hsl hv h1 a0 a1 a2 a3
        go_enter Tryd.func28, Tryd.ntmps28
        go_wp2
        go_ret
        exact ⟨by rw [HE.out]; rfl, rfl⟩
      have b4 : ((s[0].toNat : Int) == 40) = false := by rw [beq_eq_false_iff_ne]; omega
      by_cases a5 : s[0].toNat = 41
      · have hv : s.data.toList[0]? = some 41 := by rw [hat, eq_of_nat a5]; rfl
        have HE := Lib.hid (HN.out.trans (sgnF_1 hv (fun h => h1 h.1) (by decide)))
        have b5 : ((s[0].toNat : Int) == 41) = true := by rw [a5]; rfl
        clear hat hsl hv h1 a0 a1 a2 a3 a4
        go_enter Tryd.func28, Tryd.ntmps28
        go_wp2
        go_ret
        exact ⟨by rw [HE.out]; rfl, rfl⟩
      have b5 : ((s[0].toNat : Int) == 41) = false := by rw [beq_eq_false_iff_ne]; omega
      by_cases a6 : s[0].toNat = 44
      · have hv : s.data.toList[0]? = some 44 := by rw [hat, eq_of_nat a6]; rfl
        have HE := Lib.hid (HN.out.trans (sgnF_1 hv (fun h => h1 h.1) (by decide)))
        have b6 : ((s[0].toNat : Int) == 44) = true := by rw [a6]; rfl
        clear hat hsl hv h1 a0 a1 a2 a3 a4 a5
        go_enter Tryd.func28, Tryd.ntmps28
        go_wp2
        go_ret
        exact ⟨by rw [HE.out]; rfl, rfl⟩
      have b6 : ((s[0].toNat : Int) == 44) = false := by rw [beq_eq_false_iff_ne]; omega
      by_cases a7 : s[0].toNat = 95
      · have hv : s.data.toList[0]? = some 95 := by rw [hat, eq_of_nat a7]; rfl
        have HE := Lib.hid (HN.out.trans (sgnF_1 hv (fun h => h1 h.1) (by decide)))
        have b7 : ((s[0].toNat : Int) == 95) = true := by rw [a7]; rfl
        clear hat hsl hv h1 a0 a1 a2 a3 a4 a5 a6
        go_enter Tryd.func28, Tryd.ntmps28
        go_wp2
        go_ret
        exact ⟨by rw [HE.out]; rfl, rfl⟩
      have b7 : ((s[0].toNat : Int) == 95) = false := by rw [beq_eq_false_iff_ne]; omega
      have hn : ¬ (s[0] = 61 ∨ s[0] = 33 ∨ s[0] = 60 ∨ s[0] = 62) := by
        rintro (h | h | h | h)
        · exact a0 (by rw [h]; rfl)
        · exact a1 (by rw [h]; rfl)
        · exact a2 (by rw [h]; rfl)
        · exact a3 (by rw [h]; rfl)
      have hm : ¬ (s[0] = 40 ∨ s[0] = 41 ∨ s[0] = 44 ∨ s[0] = 95 ∨ s[0] = 60 ∨ s[0] = 62) := by
        rintro (h | h | h | h | h | h)
        · exact a4 (by rw [h]; rfl)
        · exact a5 (by rw [h]; rfl)
        · exact a6 (by rw [h]; rfl)
        · exact a7 (by rw [h]; rfl)
        · exact a2 (by rw [h]; rfl)
        · exact a3 (by rw [h]; rfl)
      have HE := Lib.hid (HN.out.trans (sgnF_0 hat (fun h => hn h.2) hm))
      clear hat hsl h1 hn hm a0 a1 a2 a3 a4 a5 a6 a7
      go_enter Tryd.func28, Tryd.ntmps28
      go_wp2
      go_ret
      exact ⟨by rw [HE.out]; rfl, rfl⟩
  · have h1 : ¬ s.data.toList[1]? = some 61 := by
      rw [List.getElem?_eq_none (by omega)]
      intro h
      cases h
    by_cases a0 : s[0].toNat = 61
    · have hv : s.data.toList[0]? = some 61 := by rw [hat, eq_of_nat a0]; rfl
      have HE := Lib.hid (HN.out.trans (sgnF_0 hv (fun h => h1 h.1) (by decide)))
      have b0 : ((s[0].toNat : Int) == 61) = true := by rw [a0]; rfl
      clear hat hsl hv h1 
      go_enter Tryd.func28, Tryd.ntmps28
      go_wp2
      go_ret
      exact ⟨by rw [HE.out]; rfl, rfl⟩
    have b0 : ((s[0].toNat : Int) == 61) = false := by rw [beq_eq_false_iff_ne]; omega
    by_cases a1 : s[0].toNat = 33
    · have hv : s.data.toList[0]? = some 33 := by rw [hat, eq_of_nat a1]; rfl
      have HE := Lib.hid (HN.out.trans (sgnF_0 hv (fun h => h1 h.1) (by decide)))
      have b1 : ((s[0].toNat : Int) == 33) = true := by rw [a1]; rfl
      clear hat hsl hv h1 a0
      go_enter Tryd.func28, Tryd.ntmps28
      go_wp2
      go_ret
      exact ⟨by rw [HE.out]; rfl, rfl⟩
    have b1 : ((s[0].toNat : Int) == 33) = false := by rw [beq_eq_false_iff_ne]; omega
    by_cases a2 : s[0].toNat = 60
    · have hv : s.data.toList[0]? = some 60 := by rw [hat, eq_of_nat a2]; rfl
      have HE := Lib.hid (HN.out.trans (sgnF_1 hv (fun h => h1 h.1) (by decide)))
      have b2 : ((s[0].toNat : Int) == 60) = true := by rw [a2]; rfl
      clear hat hsl hv h1 a0 a1
      go_enter Tryd.func28, Tryd.ntmps28
      go_wp2
      go_ret
      exact ⟨by rw [HE.out]; rfl, rfl⟩
    have b2 : ((s[0].toNat : Int) == 60) = false := by rw [beq_eq_false_iff_ne]; omega
    by_cases a3 : s[0].toNat = 62
    · have hv : s.data.toList[0]? = some 62 := by rw [hat, eq_of_nat a3]; rfl
      have HE := Lib.hid (HN.out.trans (sgnF_1 hv (fun h => h1 h.1) (by decide)))
      have b3 : ((s[0].toNat : Int) == 62) = true := by rw [a3]; rfl
      clear hat hsl hv h1 a0 a1 a2
      go_enter Tryd.func28, Tryd.ntmps28
      go_wp2
      go_ret
      exact ⟨by rw [HE.out]; rfl, rfl⟩
    have b3 : ((s[0].toNat : Int) == 62) = false := by rw [beq_eq_false_iff_ne]; omega
    by_cases a4 : s[0].toNat = 40
    · have hv : s.data.toList[0]? = some 40 := by rw [hat, eq_of_nat a4]; rfl
      have HE := Lib.hid (HN.out.trans (sgnF_1 hv (fun h => h1 h.1) (by decide)))
      have b4 : ((s[0].toNat : Int) == 40) = true := by rw [a4]; rfl
      clear hat hsl hv h1 a0 a1 a2 a3
      go_enter Tryd.func28, Tryd.ntmps28
      go_wp2
      go_ret
      exact ⟨by rw [HE.out]; rfl, rfl⟩
    have b4 : ((s[0].toNat : Int) == 40) = false := by rw [beq_eq_false_iff_ne]; omega
    by_cases a5 : s[0].toNat = 41
    · have hv : s.data.toList[0]? = some 41 := by rw [hat, eq_of_nat a5]; rfl
      have HE := Lib.hid (HN.out.trans (sgnF_1 hv (fun h => h1 h.1) (by decide)))
      have b5 : ((s[0].toNat : Int) == 41) = true := by rw [a5]; rfl
      clear hat hsl hv h1 a0 a1 a2 a3 a4
      go_enter Tryd.func28, Tryd.ntmps28
      go_wp2
      go_ret
      exact ⟨by rw [HE.out]; rfl, rfl⟩
    have b5 : ((s[0].toNat : Int) == 41) = false := by rw [beq_eq_false_iff_ne]; omega
    by_cases a6 : s[0].toNat = 44
    · have hv : s.data.toList[0]? = some 44 := by rw [hat, eq_of_nat a6]; rfl
      have HE := Lib.hid (HN.out.trans (sgnF_1 hv (fun h => h1 h.1) (by decide)))
      have b6 : ((s[0].toNat : Int) == 44) = true := by rw [a6]; rfl
      clear hat hsl hv h1 a0 a1 a2 a3 a4 a5
      go_enter Tryd.func28, Tryd.ntmps28
      go_wp2
      go_ret
      exact ⟨by rw [HE.out]; rfl, rfl⟩
    have b6 : ((s[0].toNat : Int) == 44) = false := by rw [beq_eq_false_iff_ne]; omega
    by_cases a7 : s[0].toNat = 95
    · have hv : s.data.toList[0]? = some 95 := by rw [hat, eq_of_nat a7]; rfl
      have HE := Lib.hid (HN.out.trans (sgnF_1 hv (fun h => h1 h.1) (by decide)))
      have b7 : ((s[0].toNat : Int) == 95) = true := by rw [a7]; rfl
      clear hat hsl hv h1 a0 a1 a2 a3 a4 a5 a6
      go_enter Tryd.func28, Tryd.ntmps28
      go_wp2
      go_ret
      exact ⟨by rw [HE.out]; rfl, rfl⟩
    have b7 : ((s[0].toNat : Int) == 95) = false := by rw [beq_eq_false_iff_ne]; omega
    have hn : ¬ (s[0] = 61 ∨ s[0] = 33 ∨ s[0] = 60 ∨ s[0] = 62) := by
      rintro (h | h | h | h)
      · exact a0 (by rw [h]; rfl)
      · exact a1 (by rw [h]; rfl)
      · exact a2 (by rw [h]; rfl)
      · exact a3 (by rw [h]; rfl)
    have hm : ¬ (s[0] = 40 ∨ s[0] = 41 ∨ s[0] = 44 ∨ s[0] = 95 ∨ s[0] = 60 ∨ s[0] = 62) := by
      rintro (h | h | h | h | h | h)
      · exact a4 (by rw [h]; rfl)
      · exact a5 (by rw [h]; rfl)
      · exact a6 (by rw [h]; rfl)
      · exact a7 (by rw [h]; rfl)
      · exact a2 (by rw [h]; rfl)
      · exact a3 (by rw [h]; rfl)
    have HE := Lib.hid (HN.out.trans (sgnF_0 hat (fun h => hn h.2) hm))
    clear hat hsl h1 hn hm a0 a1 a2 a3 a4 a5 a6 a7
    go_enter Tryd.func28, Tryd.ntmps28
    go_wp2
    go_ret
    exact ⟨by rw [HE.out]; rfl, rfl⟩
end Go.Proofs.YtmdkjhnafnblkaaDoor
