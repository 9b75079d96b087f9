/-
  The signs, the reserved words and the first byte of a text: what the functions of package lex that ask them answer; nothing is changed.
  No condition.
  The functions of package lex that tell one token: what each answers, at every text that is short; nothing that was there is changed.
  Condition: the library's variables are as the program's text lays them; the text has at most 300 bytes.
  The functions of package lex that tell one token: quoted, number, word, sign, first: what each answers, at every short text; nothing that was there is changed.
  Condition: the library's variables are as the program's text lays them; the text has at most 300 bytes.
-/
import Derived.Shelf.Strings.SlTrimAscii
import Derived.Test.YtkobfngnnblpeaaGreatDoorM9
namespace Go.Proofs.YtkobfngnnblpeaaGreatDoor
section
open Go.RowKit

/-- A comparison's sign. -/
def sgnS (op : Int) : List UInt8 :=
  if op = 1 then [61, 61] else if op = 2 then [33, 61] else if op = 3 then [60] else if op = 4 then [60, 61] else if op = 5 then [62] else if op = 6 then [62, 61] else []
/-- The comparison that a sign is. -/
def opF (l : List UInt8) : Int :=
  if l = [61, 61] then 1 else if l = [33, 61] then 2 else if l = [60] then 3 else if l = [60, 61] then 4 else if l = [62] then 5 else if l = [62, 61] then 6 else 0

set_option maxHeartbeats 1000000 in
theorem lx_sgn (op : Int) (w : World) : Calls Tryz.prog 145 #[.int .i64 op] w fun e w' => e = .returned (.string ⟨(sgnS op).toArray⟩) ∧ w = w' := by
  by_cases h1 : op = 1
  · subst h1
    go_enter Tryz.func145, Tryz.ntmps145
    go_wp2
    go_ret
    exact ⟨rfl, rfl⟩
  have b1 : (op == 1) = false := by simpa using h1
  by_cases h2 : op = 2
  · subst h2
    clear h1 b1
    go_enter Tryz.func145, Tryz.ntmps145
    go_wp2
    go_ret
    exact ⟨rfl, rfl⟩
  have b2 : (op == 2) = false := by simpa using h2
  by_cases h3 : op = 3
  · subst h3
    clear h1 b1 h2 b2
    go_enter Tryz.func145, Tryz.ntmps145
    go_wp2
    go_ret
    exact ⟨rfl, rfl⟩
  have b3 : (op == 3) = false := by simpa using h3
  by_cases h4 : op = 4
  · subst h4
    clear h1 b1 h2 b2 h3 b3
    go_enter Tryz.func145, Tryz.ntmps145
    go_wp2
    go_ret
    exact ⟨rfl, rfl⟩
  have b4 : (op == 4) = false := by simpa using h4
  by_cases h5 : op = 5
  · subst h5
    clear h1 b1 h2 b2 h3 b3 h4 b4
    go_enter Tryz.func145, Tryz.ntmps145
    go_wp2
    go_ret
    exact ⟨rfl, rfl⟩
  have b5 : (op == 5) = false := by simpa using h5
  by_cases h6 : op = 6
  · subst h6
    clear h1 b1 h2 b2 h3 b3 h4 b4 h5 b5
    go_enter Tryz.func145, Tryz.ntmps145
    go_wp2
    go_ret
    exact ⟨rfl, rfl⟩
  have b6 : (op == 6) = false := by simpa using h6
  have hs : sgnS op = [] := by unfold sgnS; rw [if_neg h1, if_neg h2, if_neg h3, if_neg h4, if_neg h5, if_neg h6]
  rw [hs]
  clear h1 h2 h3 h4 h5 h6 hs
  go_enter Tryz.func145, Tryz.ntmps145
  go_wp2
  go_ret
  exact ⟨rfl, rfl⟩

theorem op_at (l : List UInt8) (k : Nat) (h1 : 1 ≤ k) (h6 : k ≤ 6) (h : sgnS k = l) : opF l = k := by
  subst h
  have : k = 1 ∨ k = 2 ∨ k = 3 ∨ k = 4 ∨ k = 5 ∨ k = 6 := by omega
  rcases this with rfl | rfl | rfl | rfl | rfl | rfl <;> rfl
theorem op_none (l : List UInt8) (h : ∀ j : Nat, 1 ≤ j → j < 7 → sgnS j ≠ l) : opF l = 0 := by
  unfold opF
  rw [if_neg (fun e => h 1 (by omega) (by omega) e.symm), if_neg (fun e => h 2 (by omega) (by omega) e.symm), if_neg (fun e => h 3 (by omega) (by omega) e.symm), if_neg (fun e => h 4 (by omega) (by omega) e.symm), if_neg (fun e => h 5 (by omega) (by omega) e.symm), if_neg (fun e => h 6 (by omega) (by omega) e.symm)]

set_option maxHeartbeats 1000000 in
theorem lx_op (s : ByteArray) (w : World) : Calls Tryz.prog 131 #[.string s] w fun e w' => e = .returned (.int .i64 (opF s.data.toList)) ∧ w = w' := by
  have htl : s.toList = s.data.toList := ByteArray.toList_eq s
  have HTL := Lib.hid htl
  clear htl
  go_enter Tryz.func131, Tryz.ntmps131
  go_wp2
  go_loop [3] (fun i => ∃ k : Nat, 1 ≤ k ∧ k ≤ 7 ∧ i = .int .i64 k ∧ Hid (∀ j : Nat, 1 ≤ j → j < k → sgnS j ≠ s.data.toList)) (fun i => 7 - (intOf i).toNat)
  case atStart => exact ⟨1, by omega, by omega, rfl, Lib.hid (fun j h1 h2 => by omega)⟩
  case round =>
    obtain ⟨k, hk1, hk7, rfl, HJ⟩ := hrel
    by_cases hk : k ≤ 6
    · by_cases he : sgnS k = s.data.toList
      · have b1 : (sgnS (k : Int) == s.toList) = true := by rw [HTL.out, he]; simp
        have HE := Lib.hid (op_at _ k hk1 hk he)
        clear he
        go_wp2_with (go_at_call 145; refine (lx_sgn _ _).mono ?_; rintro e w' ⟨rfl, rfl⟩)
        go_ret
        exact ⟨by rw [HE.out]; rfl, rfl⟩
      · have b1 : (sgnS (k : Int) == s.toList) = false := by rw [HTL.out]; simpa using he
        have HE := Lib.hid he
        clear he
        go_wp2_with (go_at_call 145; refine (lx_sgn _ _).mono ?_; rintro e w' ⟨rfl, rfl⟩)
        go_round
        case rel =>
          refine ⟨k + 1, by omega, by omega, by go_num, Lib.hid (fun j h1 h2 => ?_)⟩
          by_cases h3 : j = k
          · subst h3; exact HE.out
          · exact HJ.out j h1 (by omega)
        case measure => simp [intOf]; omega
    · have HE := Lib.hid (op_none _ (fun j h1 h2 => HJ.out j h1 (by omega)))
      go_wp2
      go_ret
      exact ⟨by rw [HE.out]; rfl, rfl⟩

/-- Is it a sign? -/
def isSg (l : List UInt8) : Bool := if l = [40] ∨ l = [41] ∨ l = [44] ∨ l = [95] then true else decide (opF l ≠ 0)

set_option maxHeartbeats 1000000 in
theorem lx_isSign (s : ByteArray) (w : World) : Calls Tryz.prog 99 #[.string s] w fun e w' => e = .returned (.bool (isSg s.data.toList)) ∧ w = w' := by
  have htl : s.toList = s.data.toList := ByteArray.toList_eq s
  by_cases h1 : s.data.toList = [40]
  · have hs : isSg s.data.toList = true := if_pos (.inl h1)
    rw [hs]
    have b1 : (s.toList == [40]) = true := by rw [htl, h1]; rfl
    clear h1 hs htl
    go_enter Tryz.func99, Tryz.ntmps99
    go_wp2
    go_ret
    exact ⟨rfl, rfl⟩
  have b1 : (s.toList == [40]) = false := by rw [htl]; simpa using h1
  by_cases h2 : s.data.toList = [41]
  · have hs : isSg s.data.toList = true := if_pos (.inr (.inl h2))
    rw [hs]
    have b2 : (s.toList == [41]) = true := by rw [htl, h2]; rfl
    clear h1 h2 hs htl
    go_enter Tryz.func99, Tryz.ntmps99
    go_wp2
    go_ret
    exact ⟨rfl, rfl⟩
  have b2 : (s.toList == [41]) = false := by rw [htl]; simpa using h2
  by_cases h3 : s.data.toList = [44]
  · have hs : isSg s.data.toList = true := if_pos (.inr (.inr (.inl h3)))
    rw [hs]
    have b3 : (s.toList == [44]) = true := by rw [htl, h3]; rfl
    clear h1 h2 h3 hs htl
    go_enter Tryz.func99, Tryz.ntmps99
    go_wp2
    go_ret
    exact ⟨rfl, rfl⟩
  have b3 : (s.toList == [44]) = false := by rw [htl]; simpa using h3
  by_cases h4 : s.data.toList = [95]
  · have hs : isSg s.data.toList = true := if_pos (.inr (.inr (.inr h4)))
    rw [hs]
    have b4 : (s.toList == [95]) = true := by rw [htl, h4]; rfl
    clear h1 h2 h3 h4 hs htl
    go_enter Tryz.func99, Tryz.ntmps99
    go_wp2
    go_ret
    exact ⟨rfl, rfl⟩
  have b4 : (s.toList == [95]) = false := by rw [htl]; simpa using h4
  have hs : isSg s.data.toList = decide (opF s.data.toList ≠ 0) := by
    unfold isSg
    rw [if_neg (by rintro (h | h | h | h) <;> contradiction)]
  rw [hs]
  clear h1 h2 h3 h4 hs htl
  obtain ⟨z, hz⟩ : ∃ z, z = opF s.data.toList := ⟨_, rfl⟩
  rw [← hz]
  have HZ := Lib.hid hz
  clear hz
  go_enter Tryz.func99, Tryz.ntmps99
  go_wp2_with (go_at_call 131; refine (lx_op _ _).mono ?_; rintro e w' ⟨rfl, rfl⟩; rw [← HZ.out])
  go_ret
  refine ⟨?_, rfl⟩
  by_cases h : z = 0 <;> simp [h]
end
end Go.Proofs.YtkobfngnnblpeaaGreatDoor
namespace Go.Proofs.YtkobfngnnblpeaaGreatDoor
section
open Go.RowKit

theorem ext_take (s : ByteArray) (n : Nat) : (s.extract 0 n).data.toList = s.data.toList.take n := by
  rw [ByteArray.data_extract]; simp
theorem ext_drop (s : ByteArray) (n : Nat) : (s.extract n s.size).data.toList = s.data.toList.drop n := by
  rw [ByteArray.data_extract, Array.toList_extract]
  show (s.data.toList.drop n).take _ = _
  rw [List.take_of_length_le]
  rw [List.length_drop]
  exact Nat.le_refl _
theorem mk_list (s : ByteArray) : (⟨s.data.toList.toArray⟩ : ByteArray) = s := rfl

theorem trimL_pred (cs : List UInt8) (p : UInt8 → Bool) (h : ∀ c, cs.contains c = p c) (l : List UInt8) : Lib.trimLeftS l cs = l.dropWhile p := by
  unfold Lib.trimLeftS
  congr 1
  funext c
  exact h c
theorem in_all {p q : UInt8 → Bool} (h : ∀ n : Fin 256, p (UInt8.ofNat n.val) = q (UInt8.ofNat n.val)) (c : UInt8) : p c = q c := by
  have := h ⟨c.toNat, c.toNat_lt⟩
  rw [UInt8.ofNat_toNat] at this
  exact this
abbrev cDig : List UInt8 := [48, 49, 50, 51, 52, 53, 54, 55, 56, 57]
abbrev cLet : List UInt8 := [97, 98, 99, 100, 101, 102, 103, 104, 105, 106, 107, 108, 109, 110, 111, 112, 113, 114, 115, 116, 117, 118, 119, 120, 121, 122]
theorem in_dig : ∀ c, cDig.contains c = dgt c := in_all (p := fun c => cDig.contains c) (by decide +kernel)
theorem in_let : ∀ c, cLet.contains c = ltr c := in_all (p := fun c => cLet.contains c) (by decide +kernel)
theorem in_ltu : ∀ c, (cLet ++ [95]).contains c = (ltr c || decide (c = 95)) := in_all (p := fun c => (cLet ++ [95]).contains c) (q := fun c => (ltr c || decide (c = 95))) (by decide +kernel)
theorem in_wch : ∀ c, (cLet ++ cDig ++ [95]).contains c = wch c := in_all (p := fun c => (cLet ++ cDig ++ [95]).contains c) (by decide +kernel)
theorem in_num : ∀ c, ((45 : UInt8) :: cDig).contains c = (dgt c || decide (c = 45)) := in_all (p := fun c => ((45 : UInt8) :: cDig).contains c) (q := fun c => (dgt c || decide (c = 45))) (by decide +kernel)
theorem in_blk : ∀ c, ([32, 10] : List UInt8).contains c = blk c := in_all (p := fun c => ([32, 10] : List UInt8).contains c) (by decide +kernel)

/-- TrimLeft of the library, at a written cutset. -/
theorem trim_at (cs : List UInt8) (p : UInt8 → Bool) (h : ∀ c, cs.contains c = p c) (ha : cs.all (fun b => decide (b.toNat < 128)) = true) (hl : cs.length < 4294967281) (s : ByteArray) (w : World) :
    Calls Tryz.prog 29 #[.string s, .string ⟨cs.toArray⟩] w fun e w' => e = .returned (.string ⟨(s.data.toList.dropWhile p).toArray⟩) ∧ Below w.heap.size w w' := by
  have H := Any.strings_TrimLeft_laid Tryz.lays161 (by kernel_rfl) s ⟨cs.toArray⟩ w (by show cs.toArray.size < _; simpa using hl) (by
    show ∀ (j : Nat) b, cs.toArray.toList[j]? = some b → _
    simpa using ascii_of_all ha)
  rw [show Lib.trimLeftS s.data.toList (⟨cs.toArray⟩ : ByteArray).data.toList = s.data.toList.dropWhile p from by
    show Lib.trimLeftS s.data.toList cs.toArray.toList = _
    simpa using trimL_pred cs p h s.data.toList] at H
  exact H

theorem idx_has (bs : List UInt8) (c : UInt8) : decide (0 ≤ Lib.indexByte bs c) = bs.contains c := by
  have h1 := Lib.indexByte_ge bs c
  by_cases h : Lib.indexByte bs c = -1
  · have h2 := Lib.indexByte_none h
    have h3 : bs.contains c = false := by
      rw [← Bool.not_eq_true, List.contains_iff_mem]
      intro hm
      obtain ⟨k, hk⟩ := List.mem_iff_getElem?.1 hm
      exact h2 k hk
    rw [h3, h]
    rfl
  · obtain ⟨o, ho⟩ : ∃ o : Nat, Lib.indexByte bs c = o := ⟨(Lib.indexByte bs c).toNat, by omega⟩
    have h2 := (Lib.indexByte_some ho).1
    have h3 : bs.contains c = true := List.contains_iff_mem.2 (List.mem_of_getElem? h2)
    rw [h3, ho]
    simp

/-- Does the text begin with one of these bytes? -/
def begB (p : UInt8 → Bool) : List UInt8 → Bool
  | [] => false
  | c :: _ => p c

set_option maxHeartbeats 1000000 in
theorem lx_begins (cs : List UInt8) (p : UInt8 → Bool) (h : ∀ c, cs.contains c = p c) (s : ByteArray) (w : World) :
    Calls Tryz.prog 61 #[.string s, .string ⟨cs.toArray⟩] w fun e w' => e = .returned (.bool (begB p s.data.toList)) ∧ w = w' := by
  have htl : s.toList = s.data.toList := ByteArray.toList_eq s
  match hs : s.data.toList with
  | [] =>
    have b1 : (s.toList == []) = true := by rw [htl, hs]; rfl
    have b2 : s.toList.isEmpty = true := by rw [htl, hs]; rfl
    have b3 : s.toList = [] := by rw [htl, hs]
    clear hs htl h
    go_enter Tryz.func61, Tryz.ntmps61
    go_wp2
    go_ret
    exact ⟨rfl, rfl⟩
  | c :: r =>
    have h0 : 0 < s.size := by
      show 0 < s.data.toList.length
      rw [hs]; simp
    have hc : s[0] = c := by
      have e : s.data.toList[0]? = some s[0] := by rw [List.getElem?_eq_getElem (by exact h0)]; rfl
      rw [hs] at e
      exact (Option.some.inj e).symm
    have b2 : s.toList.isEmpty = false := by rw [htl, hs]; rfl
    have b1 : (s.toList == []) = false := by rw [htl, hs]; rfl
    have b3 : (!s.toList.isEmpty) = true := by rw [b2]; rfl
    have HI : Hid (∀ W, Calls Tryz.prog 97 #[.string ⟨cs.toArray⟩, .int .u8 (s[0].toNat : Int)] W fun e w' => e = .returned (.int .i64 (Lib.indexByte cs c)) ∧ w' = W) := Lib.hid (by
      intro W
      have H := Tryz.strings_IndexByte ⟨cs.toArray⟩ (s[0].toNat : Int) W
      have e : ((s[0].toNat : Int)).toNat.toUInt8 = c := by rw [hc]; simp
      rw [e] at H
      simpa using H)
    have HB := Lib.hid (idx_has cs c)
    have hb : begB p (c :: r) = cs.contains c := (h c).symm
    rw [hb]
    clear hs htl h hc b1 hb
    go_enter Tryz.func61, Tryz.ntmps61
    go_wp2_with (go_at_call 97; refine (HI.out _).mono ?_; rintro e w' ⟨rfl, rfl⟩)
    go_ret
    exact ⟨by rw [← HB.out]; rfl, rfl⟩

theorem readR_cases0 (l : List UInt8) : (readR l).2 = 0 ∨ readR l = (noV, 7) := by
  unfold readR
  split
  · exact .inl rfl
  · exact .inr rfl

abbrev tokZ : Array Value := #[.int .i64 0, .string ⟨#[]⟩, .int .i64 0, .bool false, .int .i64 0, .string ⟨#[]⟩, .int .i64 0]
/-- A token's seven cells, in a later world. -/
theorem box7_later {w w2 : World} {a b c d e f g : Value} {T : TypeId} (hb : Below (w.alloc (.cells #[a, b, c, d, e, f, g] T)).heap.size (w.alloc (.cells #[a, b, c, d, e, f, g] T)) w2) :
    w2.cell? ⟨w.heap.size, 0, none⟩ = some a ∧ w2.cell? ⟨w.heap.size, 1, none⟩ = some b ∧ w2.cell? ⟨w.heap.size, 2, none⟩ = some c ∧ w2.cell? ⟨w.heap.size, 3, none⟩ = some d ∧ w2.cell? ⟨w.heap.size, 4, none⟩ = some e ∧ w2.cell? ⟨w.heap.size, 5, none⟩ = some f ∧ w2.cell? ⟨w.heap.size, 6, none⟩ = some g ∧
    w2.frozen? ⟨w.heap.size, 0, none⟩ = false ∧ w2.frozen? ⟨w.heap.size, 1, none⟩ = false ∧ w2.frozen? ⟨w.heap.size, 2, none⟩ = false ∧ w2.frozen? ⟨w.heap.size, 3, none⟩ = false ∧ w2.frozen? ⟨w.heap.size, 4, none⟩ = false ∧ w2.frozen? ⟨w.heap.size, 5, none⟩ = false ∧ w2.frozen? ⟨w.heap.size, 6, none⟩ = false ∧ w.heap.size < w2.heap.size := by
  have hs : (w.alloc (.cells #[a, b, c, d, e, f, g] T)).heap.size = w.heap.size + 1 := by simp
  have hn := heap_alloc_new w (.cells #[a, b, c, d, e, f, g] T)
  have hz := hb.size
  have hc : ∀ o, w2.cell? ⟨w.heap.size, o, none⟩ = (#[a, b, c, d, e, f, g] : Array Value)[o]? := fun o => (hb.cell (p := ⟨w.heap.size, o, none⟩) (by rw [hs]; exact Nat.lt_succ_self _)).trans (cell_of_row _ w.heap.size o _ T (0, 0) hn)
  have hf : ∀ o, w2.frozen? ⟨w.heap.size, o, none⟩ = false := fun o => (hb.frozen (p := ⟨w.heap.size, o, none⟩) (by rw [hs]; exact Nat.lt_succ_self _)).trans (by unfold World.frozen?; rw [hn]; simp)
  exact ⟨hc 0, hc 1, hc 2, hc 3, hc 4, hc 5, hc 6, hf 0, hf 1, hf 2, hf 3, hf 4, hf 5, hf 6, by omega⟩

set_option maxHeartbeats 1000000 in
theorem lx_const (s : ByteArray) (w : World) (hv : Vars w) : Calls Tryz.prog 59 #[.string s] w fun e w' => e = .returned (conT s.data.toList).val ∧ Below w.heap.size w w' := by
  have HV := Lib.hid hv
  have hz := readR_cases0 s.data.toList
  clear hv
  rcases hz with hz | hz
  · obtain ⟨⟨⟨k, f, n, t⟩, z⟩, hR⟩ : ∃ x, x = readR s.data.toList := ⟨_, rfl⟩
    rw [← hR] at hz
    have hz' : z = 0 := hz
    subst hz'
    have HR := Lib.hid hR.symm
    have hc : conT s.data.toList = ⟨2, s, ⟨k, f, n, t⟩, 0⟩ := by unfold conT; rw [← hR]; rfl
    rw [hc]
    clear hc hz hR
    go_enter Tryz.func59, Tryz.ntmps59
    go_wp2_with (fail)
    refine (read_all s _ (by exact HV.out.later (one_new _ _))).mono ?_
    rintro e w1 ⟨he, hb1⟩
    rw [HR.out] at he
    have he' : e = .returned (.tuple #[.agg #[.int .i64 k, .bool f, .int .i64 n, .string t], .int .i64 0]) := he
    clear he
    subst he'
    have HB := Lib.hid ((one_new w _).trans (hb1.mono (by simp)))
    obtain ⟨c0, c1, c2, c3, c4, c5, c6, f0, f1, f2, f3, f4, f5, f6, hz⟩ := box7_later hb1
    clear hb1
    go_wp2
    exact bodyPost_ret (v := .agg #[.int .i64 2, .string s, .int .i64 k, .bool f, .int .i64 n, .string t, .int .i64 0]) (by simp [results, Tryz.results59, go_sem, c0, c1, c2, c3, c4, c5, c6, hz]) rfl ⟨rfl, by repeat (first | (with_reducible exact HB.out) | (with_reducible exact Below.refl _ _) | (with_reducible refine bset ?_) | (with_reducible refine bnew' ?_ (Nat.le_refl _) _))⟩
  · have HR := Lib.hid hz
    have hc : conT s.data.toList = noT := by unfold conT; rw [hz]; rfl
    rw [hc]
    clear hc hz
    go_enter Tryz.func59, Tryz.ntmps59
    go_wp2_with (fail)
    refine (read_all s _ (by exact HV.out.later (one_new _ _))).mono ?_
    rintro e w1 ⟨he, hb1⟩
    rw [HR.out] at he
    have he' : e = .returned (.tuple #[.agg #[.int .i64 0, .bool false, .int .i64 0, .string ⟨#[]⟩], .int .i64 7]) := he
    clear he
    subst he'
    have HB := Lib.hid ((one_new w _).trans (hb1.mono (by simp)))
    obtain ⟨c0, c1, c2, c3, c4, c5, c6, f0, f1, f2, f3, f4, f5, f6, hz⟩ := box7_later hb1
    clear hb1
    go_wp2
    exact bodyPost_ret (v := .agg #[.int .i64 0, .string ⟨#[]⟩, .int .i64 0, .bool false, .int .i64 0, .string ⟨#[]⟩, .int .i64 0]) (by simp [results, Tryz.results59, go_sem, c0, c1, c2, c3, c4, c5, c6, hz]) rfl ⟨rfl, by repeat (first | (with_reducible exact HB.out) | (with_reducible exact Below.refl _ _) | (with_reducible refine bset ?_) | (with_reducible refine bnew' ?_ (Nat.le_refl _) _))⟩
end
end Go.Proofs.YtkobfngnnblpeaaGreatDoor
namespace Go.Proofs.YtkobfngnnblpeaaGreatDoor
section
open Go.RowKit

theorem drop_cons {l : List UInt8} {k : Nat} {c : UInt8} (h : l[k]? = some c) : l.drop k = c :: l.drop (k + 1) := by
  obtain ⟨hk, e⟩ := List.getElem?_eq_some_iff.1 h
  rw [List.drop_eq_getElem_cons hk, e]
theorem txtF_92 {l : List UInt8} {k : Nat} (h : l[k]? = some 92) : txtF (l.drop k) k = txtF (l.drop (k + 2)) (k + 2) := by
  rw [drop_cons h]
  match e : l[k + 1]? with
  | none =>
    have h1 : l.length ≤ k + 1 := List.getElem?_eq_none_iff.1 e
    rw [List.drop_eq_nil_of_le h1, List.drop_eq_nil_of_le (show l.length ≤ k + 2 by omega)]
    rfl
  | some c =>
    rw [drop_cons e, txtF_esc]
theorem txtF_34 {l : List UInt8} {k : Nat} (h : l[k]? = some 34) : txtF (l.drop k) k = k + 1 := by
  rw [drop_cons h, txtF_end]
theorem txtF_other {l : List UInt8} {k : Nat} {c : UInt8} (h : l[k]? = some c) (h1 : c ≠ 92) (h2 : c ≠ 34) : txtF (l.drop k) k = txtF (l.drop (k + 1)) (k + 1) := by
  rw [drop_cons h, txtF_plain _ _ _ h1 h2]
theorem txtF_over {l : List UInt8} {k : Nat} (h : l.length ≤ k) : txtF (l.drop k) k = 0 := by
  rw [List.drop_eq_nil_of_le h]
  rfl
theorem at_some (s : ByteArray) (k : Nat) (h : k < s.size) : s.data.toList[k]? = some s[k] := by
  rw [List.getElem?_eq_getElem (by exact h)]; rfl
theorem ne_of_nat {c : UInt8} {n : Nat} (hn : n < 256) (h : ¬ c.toNat = n) : c ≠ UInt8.ofNat n := fun e => h (by rw [e, UInt8.toNat_ofNat_of_lt' hn])
theorem eq_of_nat {c : UInt8} {n : Nat} (h : c.toNat = n) : c = UInt8.ofNat n := by rw [← h, UInt8.ofNat_toNat]

def quoR (s : ByteArray) (n : Nat) : ByteArray := if n = 0 then s else s.extract 0 n
/-- What quoted answers. -/
def quoS (s : ByteArray) : ByteArray := quoR s (txtF (s.data.toList.drop 1) 1)

set_option maxHeartbeats 2000000 in
theorem lx_quoted (s : ByteArray) (w : World) (hs : s.size ≤ 300) : Calls Tryz.prog 60 #[.string s] w fun e w' => e = .returned (.string (quoS s)) ∧ w = w' := by
  obtain ⟨R, hR⟩ : ∃ R, R = txtF (s.data.toList.drop 1) 1 := ⟨_, rfl⟩
  have hq : quoS s = quoR s R := by rw [hR]; rfl
  rw [hq]
  have HR := Lib.hid hR.symm
  have hsl : s.data.toList.length = s.size := rfl
  have HL := Lib.hid hsl
  clear hq hR hsl
  go_enter Tryz.func60, Tryz.ntmps60
  go_wp2
  go_loop [3] (fun i => ∃ k : Nat, 1 ≤ k ∧ k ≤ s.size + 1 ∧ i = .int .i64 k ∧ Hid (txtF (s.data.toList.drop k) k = R)) (fun i => s.size + 1 - (intOf i).toNat)
  case atStart =>
    by_cases h0 : s.size = 0
    · exact ⟨1, by omega, by omega, rfl, HR⟩
    · exact ⟨1, by omega, by omega, rfl, HR⟩
  case round =>
    obtain ⟨k, hk1, hk, rfl, HK⟩ := hrel
    by_cases hlt : k < s.size
    · have hat := at_some s k hlt
      by_cases h1 : s[k].toNat = 92
      · have b1 : ((s[k].toNat : Int) == 92) = true := by rw [h1]; rfl
        have HE := Lib.hid ((txtF_92 (by rw [hat, eq_of_nat h1]; rfl)).symm.trans HK.out)
        clear h1 hat
        go_wp2
        go_round
        case rel => exact ⟨k + 2, by omega, by omega, by go_num, HE⟩
        case measure => simp [intOf]; omega
      · have b1 : ((s[k].toNat : Int) == 92) = false := by rw [beq_eq_false_iff_ne]; omega
        by_cases h2 : s[k].toNat = 34
        · have b2 : ((s[k].toNat : Int) == 34) = true := by rw [h2]; rfl
          have hE := (txtF_34 (by rw [hat, eq_of_nat h2]; rfl)).symm.trans HK.out
          have HE := Lib.hid hE
          clear h1 h2 hat hE
          go_wp2
          go_ret
          refine ⟨?_, rfl⟩
          have e : quoR s R = s.extract 0 (k + 1) := by rw [← HE.out]; exact if_neg (by omega)
          rw [e]
          rfl
        · have b2 : ((s[k].toNat : Int) == 34) = false := by rw [beq_eq_false_iff_ne]; omega
          have HE := Lib.hid ((txtF_other hat (ne_of_nat (n := 92) (by omega) h1) (ne_of_nat (n := 34) (by omega) h2)).symm.trans HK.out)
          clear h1 h2 hat
          go_wp2
          go_round
          case rel => exact ⟨k + 1, by omega, by omega, by go_num, HE⟩
          case measure => simp [intOf]; omega
    · have hE := (txtF_over (l := s.data.toList) (k := k) (by rw [HL.out]; omega)).symm.trans HK.out
      have HE := Lib.hid hE
      clear hE
      go_wp2
      go_ret
      have e : quoR s R = s := by rw [← HE.out]; rfl
      exact ⟨by rw [e]; rfl, rfl⟩

theorem drop_len (a b : List UInt8) : (a ++ b).drop a.length = b := by simp
theorem numF_drop (l : List UInt8) : (Lib.trimPrefix l [45]).dropWhile dgt = l.drop (numF l) := by
  have e : ∀ u : List UInt8, u.dropWhile dgt = u.drop (u.takeWhile dgt).length := by
    intro u
    have h1 := List.takeWhile_append_dropWhile (p := dgt) (l := u)
    have h2 := drop_len (u.takeWhile dgt) (u.dropWhile dgt)
    rw [h1] at h2
    exact h2.symm
  unfold numF
  match l with
  | [] => rfl
  | c :: r =>
    by_cases h : c = 45
    · subst h
      rw [if_pos (by rfl)]
      have : Lib.trimPrefix ((45 : UInt8) :: r) [45] = r := by simp [Lib.trimPrefix, Lib.hasPrefix]
      rw [this, e]
      show _ = (List.drop (1 + _) (45 :: r))
      rw [Nat.add_comm, List.drop_succ_cons]
      rfl
    · rw [if_neg (by simpa using h)]
      have : Lib.trimPrefix (c :: r) [45] = c :: r := by simp [Lib.trimPrefix, Lib.hasPrefix, Ne.symm h]
      rw [this, e]
theorem ltu_beg (l : List UInt8) : begB (fun c => (ltr c || decide (c = 95))) l = ltu l := by cases l <;> rfl
theorem wordF_drop (l : List UInt8) : l.dropWhile wch = l.drop (wordF l) := by
  have h1 := List.takeWhile_append_dropWhile (p := wch) (l := l)
  have h2 := drop_len (l.takeWhile wch) (l.dropWhile wch)
  rw [h1] at h2
  exact h2.symm

/-- constant, at a token's parts. -/
theorem lx_const' (s : ByteArray) (l : List UInt8) (hl : s.data.toList = l) (k : Int) (t : ByteArray) (vk : Int) (vf : Bool) (vn : Int) (vt : ByteArray) (a : Int) (hx : conT l = ⟨k, t, ⟨vk, vf, vn, vt⟩, a⟩) (w : World) (hv : Vars w) :
    Calls Tryz.prog 59 #[.string s] w fun e w' => e = .returned (.agg #[.int .i64 k, .string t, .int .i64 vk, .bool vf, .int .i64 vn, .string vt, .int .i64 a]) ∧ Below w.heap.size w w' := by
  have h := lx_const s w hv
  rw [hl, hx] at h
  exact h

/-- The end of a walk that fills the token that it answers. -/
theorem below_tok {w w1 : World} (h : Below w.heap.size w w1) (a b c d e f g : Value) : Below w.heap.size w (((((((w1.setCell ⟨w.heap.size, 0, none⟩ a).setCell ⟨w.heap.size, 1, none⟩ b).setCell ⟨w.heap.size, 2, none⟩ c).setCell ⟨w.heap.size, 3, none⟩ d).setCell ⟨w.heap.size, 4, none⟩ e).setCell ⟨w.heap.size, 5, none⟩ f).setCell ⟨w.heap.size, 6, none⟩ g) :=
  bset (bset (bset (bset (bset (bset (bset h))))))

set_option maxHeartbeats 2000000 in
theorem lx_number (s : ByteArray) (w : World) (hv : Vars w) (hs : s.size ≤ 300) : Calls Tryz.prog 62 #[.string s] w fun e w' => e = .returned (numT s.data.toList).val ∧ Below w.heap.size w w' := by
  have HV := Lib.hid hv
  have hsl : s.data.toList.length = s.size := rfl
  have hnl := numF_le s.data.toList
  obtain ⟨N, hN⟩ : ∃ N, N = numF s.data.toList := ⟨_, rfl⟩
  obtain ⟨B, hB⟩ : ∃ B : ByteArray, B = ⟨(s.data.toList.drop N).toArray⟩ := ⟨_, rfl⟩
  have hBl : B.data.toList = s.data.toList.drop N := by rw [hB]
  have hBs : B.size = s.size - N := by
    show B.data.toList.length = _
    rw [hBl, List.length_drop, hsl]
  have hT : (⟨((Lib.trimPrefix s.data.toList [45]).dropWhile dgt).toArray⟩ : ByteArray) = B := by rw [hB, numF_drop, ← hN]
  have HTL : Hid (∀ W, Calls Tryz.prog 29 #[.string ⟨(Lib.trimPrefix s.data.toList [45]).toArray⟩, .string ⟨#[48, 49, 50, 51, 52, 53, 54, 55, 56, 57]⟩] W fun e w' => e = .returned (.string B) ∧ Below W.heap.size W w') := Lib.hid (fun W => by
    have h := trim_at cDig dgt in_dig (by decide) (by decide) ⟨(Lib.trimPrefix s.data.toList [45]).toArray⟩ W
    rw [show (⟨(Lib.trimPrefix s.data.toList [45]).toArray⟩ : ByteArray).data.toList = Lib.trimPrefix s.data.toList [45] from by simp, hT] at h
    exact h)
  have HTP : Hid (∀ W, Calls Tryz.prog 98 #[.string s, .string ⟨#[45]⟩] W fun e w' => e = .returned (.string ⟨(Lib.trimPrefix s.data.toList [45]).toArray⟩) ∧ w' = W) := Lib.hid (fun W => Tryz.strings_TrimPrefix s ⟨#[45]⟩ W)
  have HBG : Hid (∀ W, Calls Tryz.prog 61 #[.string B, .string ⟨#[97, 98, 99, 100, 101, 102, 103, 104, 105, 106, 107, 108, 109, 110, 111, 112, 113, 114, 115, 116, 117, 118, 119, 120, 121, 122, 95]⟩] W fun e w' => e = .returned (.bool (ltu (s.data.toList.drop N))) ∧ W = w') := Lib.hid (fun W => by
    have h := lx_begins (cLet ++ [95]) (fun c => (ltr c || decide (c = 95))) in_ltu B W
    rw [hBl, ltu_beg] at h
    exact h)
  have hx0 : (s.extract 0 (s.size - B.size)).data.toList = s.data.toList.take N := by
    rw [ext_take]
    congr 1
    omega
  have hBle : B.size ≤ s.size := by omega
  rcases Bool.eq_false_or_eq_true (ltu (s.data.toList.drop N)) with hb | hb
  · have hr : numT s.data.toList = noT := by unfold numT; rw [← hN, if_pos hb]
    rw [hr]
    have HB := Lib.hid hb
    clear hv hsl hnl hN hB hBl hBs hT hx0 hb hr
    go_enter Tryz.func62, Tryz.ntmps62
    go_wp2_with (first
      | (go_at_call 98; refine (HTP.out _).mono ?_; rintro e w1 ⟨rfl, rfl⟩)
      | (go_at_call 29; refine (HTL.out _).mono ?_; rintro e w1 ⟨rfl, hb1⟩; have HB1 := Lib.hid ((one_new w _).trans (hb1.mono (by simp))); obtain ⟨c0, c1, c2, c3, c4, c5, c6, f0, f1, f2, f3, f4, f5, f6, _⟩ := box7_later hb1; clear hb1)
      | (go_at_call 61; refine (HBG.out _).mono ?_; rintro e w2 ⟨rfl, rfl⟩; rw [HB.out]))
    exact bodyPost_ret (v := .agg #[.int .i64 0, .string ⟨#[]⟩, .int .i64 0, .bool false, .int .i64 0, .string ⟨#[]⟩, .int .i64 0]) (by simp [results, Tryz.results62, go_sem, c0, c1, c2, c3, c4, c5, c6]) rfl ⟨rfl, below_tok HB1.out _ _ _ _ _ _ _⟩
  · obtain ⟨⟨k, t, ⟨vk, vf, vn, vt⟩, a⟩, hx⟩ : ∃ x, x = conT (s.data.toList.take N) := ⟨_, rfl⟩
    have hr : numT s.data.toList = ⟨k, t, ⟨vk, vf, vn, vt⟩, a⟩ := by unfold numT; rw [← hN, if_neg (by rw [hb]; simp), hx]
    rw [hr]
    have HB := Lib.hid hb
    have HC := Lib.hid (fun W hW => lx_const' (s.extract 0 (s.size - B.size)) _ hx0 k t vk vf vn vt a hx.symm W hW)
    clear hv hsl hnl hN hB hBl hBs hT hx0 hb hr hx
    go_enter Tryz.func62, Tryz.ntmps62
    go_wp2_with (first
      | (go_at_call 98; refine (HTP.out _).mono ?_; rintro e w1 ⟨rfl, rfl⟩)
      | (go_at_call 29; refine (HTL.out _).mono ?_; rintro e w1 ⟨rfl, hb1⟩)
      | (go_at_call 61; refine (HBG.out _).mono ?_; rintro e w2 ⟨rfl, rfl⟩; rw [HB.out]))
    refine (HC.out _ (by exact HV.out.later ((one_new w _).trans (hb1.mono (by simp))))).mono ?_
    rintro e w2 ⟨rfl, hb2⟩
    have hb3 := hb1.trans (hb2.mono (Nat.le_trans (by simp) hb1.size))
    have HB1 := Lib.hid ((one_new w _).trans (hb3.mono (by simp)))
    obtain ⟨c0, c1, c2, c3, c4, c5, c6, f0, f1, f2, f3, f4, f5, f6, _⟩ := box7_later hb3
    clear hb1 hb2 hb3
    go_wp2
    exact bodyPost_ret (v := .agg #[.int .i64 k, .string t, .int .i64 vk, .bool vf, .int .i64 vn, .string vt, .int .i64 a]) (by simp [results, Tryz.results62, go_sem, c0, c1, c2, c3, c4, c5, c6]) rfl ⟨rfl, below_tok HB1.out _ _ _ _ _ _ _⟩
end
end Go.Proofs.YtkobfngnnblpeaaGreatDoor
