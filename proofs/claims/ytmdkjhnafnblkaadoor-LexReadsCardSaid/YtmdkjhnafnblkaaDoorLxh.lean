/-
  The functions of package lex that tell one token: quoted, number, word, sign, first: what each answers, at every short text; nothing that was there is changed.
  Condition: the library's variables are as the program's text lays them; the text has at most 300 bytes.
-/
import Derived.Test.YtmdkjhnafnblkaaDoorLxg
namespace Go.Proofs.YtmdkjhnafnblkaaDoor
open Go.RowKit

theorem drop_cons {l : List UInt8} {k : Nat} {c : UInt8} (h : l[k]? = some c) : l.drop k = c :: l.drop (k + 1) := by
  obtain ⟨hk, e⟩ := List.getElem?_eq_some_iff.1 h
  rw [List.drop_eq_getElem_cons hk, e]
theorem txtF_92 {l : List UInt8} {k : Nat} (h : l[k]? = some 92) : txtF (l.drop k) k = txtF (l.drop (k + 2)) (k + 2) := by
  rw [drop_cons h]
  match e : l[k + 1]? with
  | none =>
    have h1 : l.length ≤ k + 1 := List.getElem?_eq_none_iff.1 e
    rw [List.drop_eq_nil_of_le h1, List.drop_eq_nil_of_le (show l.length ≤ k + 2 by omega)]
    rfl
  | some c =>
    rw [drop_cons e, txtF_esc]
theorem txtF_34 {l : List UInt8} {k : Nat} (h : l[k]? = some 34) : txtF (l.drop k) k = k + 1 := by
  rw [drop_cons h, txtF_end]
theorem txtF_other {l : List UInt8} {k : Nat} {c : UInt8} (h : l[k]? = some c) (h1 : c ≠ 92) (h2 : c ≠ 34) : txtF (l.drop k) k = txtF (l.drop (k + 1)) (k + 1) := by
  rw [drop_cons h, txtF_plain _ _ _ h1 h2]
theorem txtF_over {l : List UInt8} {k : Nat} (h : l.length ≤ k) : txtF (l.drop k) k = 0 := by
  rw [List.drop_eq_nil_of_le h]
  rfl
theorem at_some (s : ByteArray) (k : Nat) (h : k < s.size) : s.data.toList[k]? = some s[k] := by
  rw [List.getElem?_eq_getElem (by exact h)]; rfl
theorem ne_of_nat {c : UInt8} {n : Nat} (hn : n < 256) (h : ¬ c.toNat = n) : c ≠ UInt8.ofNat n := fun e => h (by rw [e, UInt8.toNat_ofNat_of_lt' hn])
theorem eq_of_nat {c : UInt8} {n : Nat} (h : c.toNat = n) : c = UInt8.ofNat n := by rw [← h, UInt8.ofNat_toNat]

def quoR (s : ByteArray) (n : Nat) : ByteArray := if n = 0 then s else s.extract 0 n
/-- What quoted answers. -/
def quoS (s : ByteArray) : ByteArray := quoR s (txtF (s.data.toList.drop 1) 1)

set_option maxHeartbeats 2000000 in
theorem lx_quoted (s : ByteArray) (w : World) (hs : s.size ≤ 300) : Calls Tryd.prog 34 #[.string s] w fun e w' => e = .returned (.string (quoS s)) ∧ w = w' := by
  obtain ⟨R, hR⟩ : ∃ R, R = txtF (s.data.toList.drop 1) 1 := ⟨_, rfl⟩
  have hq : quoS s = quoR s R := by rw [hR]; rfl
  rw [hq]
  have HR := Lib.hid hR.symm
  have hsl : s.data.toList.length = s.size := rfl
  have HL := Lib.hid hsl
  clear hq hR hsl
  go_enter Tryd.func34, Tryd.ntmps34
  go_wp2
  go_loop [3] (fun i => ∃ k : Nat, 1 ≤ k ∧ k ≤ s.size + 1 ∧ i = .int .i64 k ∧ Hid (txtF (s.data.toList.drop k) k = R)) (fun i => s.size + 1 - (intOf i).toNat)
  case atStart =>
    by_cases h0 : s.size = 0
    · exact ⟨1, by omega, by omega, rfl, HR⟩
    · exact ⟨1, by omega, by omega, rfl, HR⟩
  case round =>
    obtain ⟨k, hk1, hk, rfl, HK⟩ := hrel
    by_cases hlt : k < s.size
    · have hat := at_some s k hlt
      by_cases h1 : s[k].toNat = 92
      · have b1 : ((s[k].toNat : Int) == 92) = true := by rw [h1]; rfl
        have HE := Lib.hid ((txtF_92 (by rw [hat, eq_of_nat h1]; rfl)).symm.trans HK.out)
        clear h1 hat
        go_wp2
        go_round
        case rel => exact ⟨k + 2, by omega, by omega, by go_num, HE⟩
        case measure => simp [intOf]; omega
      · have b1 : ((s[k].toNat : Int) == 92) = false := by rw [beq_eq_false_iff_ne]; omega
        by_cases h2 : s[k].toNat = 34
        · have b2 : ((s[k].toNat : Int) == 34) = true := by rw [h2]; rfl
          have hE := (txtF_34 (by rw [hat, eq_of_nat h2]; rfl)).symm.trans HK.out
          have HE := Lib.hid hE
          clear h1 h2 hat hE
          go_wp2
          go_ret
          refine ⟨?_, rfl⟩
          have e : quoR s R = s.extract 0 (k + 1) := by rw [← HE.out]; exact if_neg (by omega)
          rw [e]
          rfl
        · have b2 : ((s[k].toNat : Int) == 34) = false := by rw [beq_eq_false_iff_ne]; omega
          have HE := Lib.hid ((txtF_other hat (ne_of_nat (n := 92) (by omega) h1) (ne_of_nat (n := 34) (by omega) h2)).symm.trans HK.out)
          clear h1 h2 hat
          go_wp2
          go_round
          case rel => exact ⟨k + 1, by omega, by omega, by go_num, HE⟩
          case measure => simp [intOf]; omega
    · have hE := (txtF_over (l := s.data.toList) (k := k) (by rw [HL.out]; omega)).symm.trans HK.out
      have HE := Lib.hid hE
      clear hE
      go_wp2
      go_ret
      have e : quoR s R = s := by rw [← HE.out]; rfl
      exact ⟨by rw [e]; rfl, rfl⟩

theorem drop_len (a b : List UInt8) : (a ++ b).drop a.length = b := by simp
theorem numF_drop (l : List UInt8) : (Lib.trimPrefix l [45]).dropWhile dgt = l.drop (numF l) := by
  have e : ∀ u : List UInt8, u.dropWhile dgt = u.drop (u.takeWhile dgt).length := by
    intro u
    have h1 := List.takeWhile_append_dropWhile (p := dgt) (l := u)
    have h2 := drop_len (u.takeWhile dgt) (u.dropWhile dgt)
    rw [h1] at h2
    exact h2.symm
  unfold numF
  match l with
  | [] => rfl
  | c :: r =>
    by_cases h : c = 45
    · subst h
      rw [if_pos (by rfl)]
      have : Lib.trimPrefix ((45 : UInt8) :: r) [45] = r := by simp [Lib.trimPrefix, Lib.hasPrefix]
      rw [this, e]
      show _ = (List.drop (1 + _) (45 :: r))
      rw [Nat.add_comm, List.drop_succ_cons]
      rfl
    · rw [if_neg (by simpa using h)]
      have : Lib.trimPrefix (c :: r) [45] = c :: r := by simp [Lib.trimPrefix, Lib.hasPrefix, Ne.symm h]
      rw [this, e]
theorem ltu_beg (l : List UInt8) : begB (fun c => (ltr c || decide (c = 95))) l = ltu l := by cases l <;> rfl
theorem wordF_drop (l : List UInt8) : l.dropWhile wch = l.drop (wordF l) := by
  have h1 := List.takeWhile_append_dropWhile (p := wch) (l := l)
  have h2 := drop_len (l.takeWhile wch) (l.dropWhile wch)
  rw [h1] at h2
  exact h2.symm

/-- constant, at a token's parts. -/
theorem lx_const' (s : ByteArray) (l : List UInt8) (hl : s.data.toList = l) (k : Int) (t : ByteArray) (vk : Int) (vf : Bool) (vn : Int) (vt : ByteArray) (a : Int) (hx : conT l = ⟨k, t, ⟨vk, vf, vn, vt⟩, a⟩) (w : World) (hv : Vars w) :
    Calls Tryd.prog 33 #[.string s] w fun e w' => e = .returned (.agg #[.int .i64 k, .string t, .int .i64 vk, .bool vf, .int .i64 vn, .string vt, .int .i64 a]) ∧ Below w.heap.size w w' := by
  have h := lx_const s w hv
  rw [hl, hx] at h
  exact h

/-- The end of a walk that fills the token that it answers. -/
theorem below_tok {w w1 : World} (h : Below w.heap.size w w1) (a b c d e f g : Value) : Below w.heap.size w (((((((w1.setCell ⟨w.heap.size, 0, none⟩ a).setCell ⟨w.heap.size, 1, none⟩ b).setCell ⟨w.heap.size, 2, none⟩ c).setCell ⟨w.heap.size, 3, none⟩ d).setCell ⟨w.heap.size, 4, none⟩ e).setCell ⟨w.heap.size, 5, none⟩ f).setCell ⟨w.heap.size, 6, none⟩ g) :=
  bset (bset (bset (bset (bset (bset (bset h))))))

set_option maxHeartbeats 2000000 in
theorem lx_number (s : ByteArray) (w : World) (hv : Vars w) (hs : s.size ≤ 300) : Calls Tryd.prog 36 #[.string s] w fun e w' => e = .returned (numT s.data.toList).val ∧ Below w.heap.size w w' := by
  have HV := Lib.hid hv
  have hsl : s.data.toList.length = s.size := rfl
  have hnl := numF_le s.data.toList
  obtain ⟨N, hN⟩ : ∃ N, N = numF s.data.toList := ⟨_, rfl⟩
  obtain ⟨B, hB⟩ : ∃ B : ByteArray, B = ⟨(s.data.toList.drop N).toArray⟩ := ⟨_, rfl⟩
  have hBl : B.data.toList = s.data.toList.drop N := by rw [hB]
  have hBs : B.size = s.size - N := by
    show B.data.toList.length = _
    rw [hBl, List.length_drop, hsl]
  have hT : (⟨((Lib.trimPrefix s.data.toList [45]).dropWhile dgt).toArray⟩ : ByteArray) = B := by rw [hB, numF_drop, ← hN]
  have HTL : Hid (∀ W, Calls Tryd.prog 20 #[.string ⟨(Lib.trimPrefix s.data.toList [45]).toArray⟩, .string ⟨#[48, 49, 50, 51, 52, 53, 54, 55, 56, 57]⟩] W fun e w' => e = .returned (.string B) ∧ Below W.heap.size W w') := Lib.hid (fun W => by
    have h := trim_at cDig dgt in_dig (by decide) (by decide) ⟨(Lib.trimPrefix s.data.toList [45]).toArray⟩ W
    rw [show (⟨(Lib.trimPrefix s.data.toList [45]).toArray⟩ : ByteArray).data.toList = Lib.trimPrefix s.data.toList [45] from by simp, hT] at h
    exact h)
  have HTP : Hid (∀ W, Calls Tryd.prog 47 #[.string s, .string ⟨#[45]⟩] W fun e w' => e = .returned (.string ⟨(Lib.trimPrefix s.data.toList [45]).toArray⟩) ∧ w' = W) := Lib.hid (fun W => Tryd.strings_TrimPrefix s ⟨#[45]⟩ W)
  have HBG : Hid (∀ W, Calls Tryd.prog 35 #[.string B, .string ⟨#[97, 98, 99, 100, 101, 102, 103, 104, 105, 106, 107, 108, 109, 110, 111, 112, 113, 114, 115, 116, 117, 118, 119, 120, 121, 122, 95]⟩] W fun e w' => e = .returned (.bool (ltu (s.data.toList.drop N))) ∧ W = w') := Lib.hid (fun W => by
    have h := lx_begins (cLet ++ [95]) (fun c => (ltr c || decide (c = 95))) in_ltu B W
    rw [hBl, ltu_beg] at h
    exact h)
  have hx0 : (s.extract 0 (s.size - B.size)).data.toList = s.data.toList.take N := by
    rw [ext_take]
    congr 1
    omega
  have hBle : B.size ≤ s.size := by omega
  rcases Bool.eq_false_or_eq_true (ltu (s.data.toList.drop N)) with hb | hb
  · have hr : numT s.data.toList = noT := by unfold numT; rw [← hN, if_pos hb]
    rw [hr]
    have HB := Lib.hid hb
    clear hv hsl hnl hN hB hBl hBs hT hx0 hb hr
    go_enter Tryd.func36, Tryd.ntmps36
    go_wp2_with (first
      | (go_at_call 47; refine (HTP.out _).mono ?_; rintro e w1 ⟨rfl, rfl⟩)
      | (go_at_call 20; refine (HTL.out _).mono ?_; rintro e w1 ⟨rfl, hb1⟩; have HB1 := Lib.hid ((one_new w _).trans (hb1.mono (by simp))); obtain ⟨c0, c1, c2, c3, c4, c5, c6, f0, f1, f2, f3, f4, f5, f6, _⟩ := box7_later hb1; clear hb1)
      | (go_at_call 35; refine (HBG.out _).mono ?_; rintro e w2 ⟨rfl, rfl⟩; rw [HB.out]))
    exact bodyPost_ret (v := .agg #[.int .i64 0, .string ⟨#[]⟩, .int .i64 0, .bool false, .int .i64 0, .string ⟨#[]⟩, .int .i64 0]) (by simp [results, Tryd.results36, go_sem, c0, c1, c2, c3, c4, c5, c6]) rfl ⟨rfl, below_tok HB1.out _ _ _ _ _ _ _⟩
  · obtain ⟨⟨k, t, ⟨vk, vf, vn, vt⟩, a⟩, hx⟩ : ∃ x, x = conT (s.data.toList.take N) := ⟨_, rfl⟩
    have hr : numT s.data.toList = ⟨k, t, ⟨vk, vf, vn, vt⟩, a⟩ := by unfold numT; rw [← hN, if_neg (by rw [hb]; simp), hx]
    rw [hr]
    have HB := Lib.hid hb
    have HC := Lib.hid (fun W hW => lx_const' (s.extract 0 (s.size - B.size)) _ hx0 k t vk vf vn vt a hx.symm W hW)
    clear hv hsl hnl hN hB hBl hBs hT hx0 hb hr hx
    go_enter Tryd.func36, Tryd.ntmps36
    go_wp2_with (first
      | (go_at_call 47; refine (HTP.out _).mono ?_; rintro e w1 ⟨rfl, rfl⟩)
      | (go_at_call 20; refine (HTL.out _).mono ?_; rintro e w1 ⟨rfl, hb1⟩)
      | (go_at_call 35; refine (HBG.out _).mono ?_; rintro e w2 ⟨rfl, rfl⟩; rw [HB.out]))
    refine (HC.out _ (by exact HV.out.later ((one_new w _).trans (hb1.mono (by simp))))).mono ?_
    rintro e w2 ⟨rfl, hb2⟩
    have hb3 := hb1.trans (hb2.mono (Nat.le_trans (by simp) hb1.size))
    have HB1 := Lib.hid ((one_new w _).trans (hb3.mono (by simp)))
    obtain ⟨c0, c1, c2, c3, c4, c5, c6, f0, f1, f2, f3, f4, f5, f6, _⟩ := box7_later hb3
    clear hb1 hb2 hb3
    go_wp2
    exact bodyPost_ret (v := .agg #[.int .i64 k, .string t, .int .i64 vk, .bool vf, .int .i64 vn, .string vt, .int .i64 a]) (by simp [results, Tryd.results36, go_sem, c0, c1, c2, c3, c4, c5, c6]) rfl ⟨rfl, below_tok HB1.out _ _ _ _ _ _ _⟩
end Go.Proofs.YtmdkjhnafnblkaaDoor
