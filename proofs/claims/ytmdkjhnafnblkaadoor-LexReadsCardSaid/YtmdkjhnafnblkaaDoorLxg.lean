/-
  The functions of package lex that tell one token: what each answers, at every text that is short; nothing that was there is changed.
  Condition: the library's variables are as the program's text lays them; the text has at most 300 bytes.
-/
import Derived.Test.YtmdkjhnafnblkaaDoorLxf
namespace Go.Proofs.YtmdkjhnafnblkaaDoor
open Go.RowKit

theorem ext_take (s : ByteArray) (n : Nat) : (s.extract 0 n).data.toList = s.data.toList.take n := by
  rw [ByteArray.data_extract]; simp
theorem ext_drop (s : ByteArray) (n : Nat) : (s.extract n s.size).data.toList = s.data.toList.drop n := by
  rw [ByteArray.data_extract, Array.toList_extract]
  show (s.data.toList.drop n).take _ = _
  rw [List.take_of_length_le]
  rw [List.length_drop]
  exact Nat.le_refl _
theorem mk_list (s : ByteArray) : (⟨s.data.toList.toArray⟩ : ByteArray) = s := rfl

theorem trimL_pred (cs : List UInt8) (p : UInt8 → Bool) (h : ∀ c, cs.contains c = p c) (l : List UInt8) : Lib.trimLeftS l cs = l.dropWhile p := by
  unfold Lib.trimLeftS
  congr 1
  funext c
  exact h c
theorem in_all {p q : UInt8 → Bool} (h : ∀ n : Fin 256, p (UInt8.ofNat n.val) = q (UInt8.ofNat n.val)) (c : UInt8) : p c = q c := by
  have := h ⟨c.toNat, c.toNat_lt⟩
  rw [UInt8.ofNat_toNat] at this
  exact this
abbrev cDig : List UInt8 := [48, 49, 50, 51, 52, 53, 54, 55, 56, 57]
abbrev cLet : List UInt8 := [97, 98, 99, 100, 101, 102, 103, 104, 105, 106, 107, 108, 109, 110, 111, 112, 113, 114, 115, 116, 117, 118, 119, 120, 121, 122]
theorem in_dig : ∀ c, cDig.contains c = dgt c := in_all (p := fun c => cDig.contains c) (by decide +kernel)
theorem in_let : ∀ c, cLet.contains c = ltr c := in_all (p := fun c => cLet.contains c) (by decide +kernel)
theorem in_ltu : ∀ c, (cLet ++ [95]).contains c = (ltr c || decide (c = 95)) := in_all (p := fun c => (cLet ++ [95]).contains c) (q := fun c => (ltr c || decide (c = 95))) (by decide +kernel)
theorem in_wch : ∀ c, (cLet ++ cDig ++ [95]).contains c = wch c := in_all (p := fun c => (cLet ++ cDig ++ [95]).contains c) (by decide +kernel)
theorem in_num : ∀ c, ((45 : UInt8) :: cDig).contains c = (dgt c || decide (c = 45)) := in_all (p := fun c => ((45 : UInt8) :: cDig).contains c) (q := fun c => (dgt c || decide (c = 45))) (by decide +kernel)
theorem in_blk : ∀ c, ([32, 10] : List UInt8).contains c = blk c := in_all (p := fun c => ([32, 10] : List UInt8).contains c) (by decide +kernel)

/-- TrimLeft of the library, at a written cutset. -/
theorem trim_at (cs : List UInt8) (p : UInt8 → Bool) (h : ∀ c, cs.contains c = p c) (ha : cs.all (fun b => decide (b.toNat < 128)) = true) (hl : cs.length < 4294967281) (s : ByteArray) (w : World) :
    Calls Tryd.prog 20 #[.string s, .string ⟨cs.toArray⟩] w fun e w' => e = .returned (.string ⟨(s.data.toList.dropWhile p).toArray⟩) ∧ Below w.heap.size w w' := by
  have H := Any.strings_TrimLeft_laid Tryd.lays161 (by kernel_rfl) s ⟨cs.toArray⟩ w (by show cs.toArray.size < _; simpa using hl) (by
    show ∀ (j : Nat) b, cs.toArray.toList[j]? = some b → _
    simpa using ascii_of_all ha)
  rw [show Lib.trimLeftS s.data.toList (⟨cs.toArray⟩ : ByteArray).data.toList = s.data.toList.dropWhile p from by
    show Lib.trimLeftS s.data.toList cs.toArray.toList = _
    simpa using trimL_pred cs p h s.data.toList] at H
  exact H

theorem idx_has (bs : List UInt8) (c : UInt8) : decide (0 ≤ Lib.indexByte bs c) = bs.contains c := by
  have h1 := Lib.indexByte_ge bs c
  by_cases h : Lib.indexByte bs c = -1
  · have h2 := Lib.indexByte_none h
    have h3 : bs.contains c = false := by
      rw [← Bool.not_eq_true, List.contains_iff_mem]
      intro hm
      obtain ⟨k, hk⟩ := List.mem_iff_getElem?.1 hm
      exact h2 k hk
    rw [h3, h]
    rfl
  · obtain ⟨o, ho⟩ : ∃ o : Nat, Lib.indexByte bs c = o := ⟨(Lib.indexByte bs c).toNat, by omega⟩
    have h2 := (Lib.indexByte_some ho).1
    have h3 : bs.contains c = true := List.contains_iff_mem.2 (List.mem_of_getElem? h2)
    rw [h3, ho]
    simp

/-- Does the text begin with one of these bytes? -/
def begB (p : UInt8 → Bool) : List UInt8 → Bool
  | [] => false
  | c :: _ => p c

set_option maxHeartbeats 1000000 in
theorem lx_begins (cs : List UInt8) (p : UInt8 → Bool) (h : ∀ c, cs.contains c = p c) (s : ByteArray) (w : World) :
    Calls Tryd.prog 35 #[.string s, .string ⟨cs.toArray⟩] w fun e w' => e = .returned (.bool (begB p s.data.toList)) ∧ w = w' := by
  have htl : s.toList = s.data.toList := ByteArray.toList_eq s
  match hs : s.data.toList with
  | [] =>
    have b1 : (s.toList == []) = true := by rw [htl, hs]; rfl
    have b2 : s.toList.isEmpty = true := by rw [htl, hs]; rfl
    have b3 : s.toList = [] := by rw [htl, hs]
    clear hs htl h
    go_enter Tryd.func35, Tryd.ntmps35
    go_wp2
    go_ret
    exact ⟨rfl, rfl⟩
  | c :: r =>
    have h0 : 0 < s.size := by
      show 0 < s.data.toList.length
      rw [hs]; simp
    have hc : s[0] = c := by
      have e : s.data.toList[0]? = some s[0] := by rw [List.getElem?_eq_getElem (by exact h0)]; rfl
      rw [hs] at e
      exact (Option.some.inj e).symm
    have b2 : s.toList.isEmpty = false := by rw [htl, hs]; rfl
    have b1 : (s.toList == []) = false := by rw [htl, hs]; rfl
    have b3 : (!s.toList.isEmpty) = true := by rw [b2]; rfl
    have HI : Hid (∀ W, Calls Tryd.prog 46 #[.string ⟨cs.toArray⟩, .int .u8 (s[0].toNat : Int)] W fun e w' => e = .returned (.int .i64 (Lib.indexByte cs c)) ∧ w' = W) := Lib.hid (by
      intro W
      have H := Tryd.strings_IndexByte ⟨cs.toArray⟩ (s[0].toNat : Int) W
      have e : ((s[0].toNat : Int)).toNat.toUInt8 = c := by rw [hc]; simp
      rw [e] at H
      simpa using H)
    have HB := Lib.hid (idx_has cs c)
    have hb : begB p (c :: r) = cs.contains c := (h c).symm
    rw [hb]
    clear hs htl h hc b1 hb
    go_enter Tryd.func35, Tryd.ntmps35
    go_wp2_with (go_at_call 46; refine (HI.out _).mono ?_; rintro e w' ⟨rfl, rfl⟩)
    go_ret
    exact ⟨by rw [← HB.out]; rfl, rfl⟩

theorem readR_cases0 (l : List UInt8) : (readR l).2 = 0 ∨ readR l = (noV, 7) := by
  unfold readR
  split
  · exact .inl rfl
  · exact .inr rfl

abbrev tokZ : Array Value := #[.int .i64 0, .string ⟨#[]⟩, .int .i64 0, .bool false, .int .i64 0, .string ⟨#[]⟩, .int .i64 0]
/-- A token's seven cells, in a later world. -/
theorem box7_later {w w2 : World} {a b c d e f g : Value} {T : TypeId} (hb : Below (w.alloc (.cells #[a, b, c, d, e, f, g] T)).heap.size (w.alloc (.cells #[a, b, c, d, e, f, g] T)) w2) :
    w2.cell? ⟨w.heap.size, 0, none⟩ = some a ∧ w2.cell? ⟨w.heap.size, 1, none⟩ = some b ∧ w2.cell? ⟨w.heap.size, 2, none⟩ = some c ∧ w2.cell? ⟨w.heap.size, 3, none⟩ = some d ∧ w2.cell? ⟨w.heap.size, 4, none⟩ = some e ∧ w2.cell? ⟨w.heap.size, 5, none⟩ = some f ∧ w2.cell? ⟨w.heap.size, 6, none⟩ = some g ∧
    w2.frozen? ⟨w.heap.size, 0, none⟩ = false ∧ w2.frozen? ⟨w.heap.size, 1, none⟩ = false ∧ w2.frozen? ⟨w.heap.size, 2, none⟩ = false ∧ w2.frozen? ⟨w.heap.size, 3, none⟩ = false ∧ w2.frozen? ⟨w.heap.size, 4, none⟩ = false ∧ w2.frozen? ⟨w.heap.size, 5, none⟩ = false ∧ w2.frozen? ⟨w.heap.size, 6, none⟩ = false ∧ w.heap.size < w2.heap.size := by
  have hs : (w.alloc (.cells #[a, b, c, d, e, f, g] T)).heap.size = w.heap.size + 1 := by simp
  have hn := heap_alloc_new w (.cells #[a, b, c, d, e, f, g] T)
  have hz := hb.size
  have hc : ∀ o, w2.cell? ⟨w.heap.size, o, none⟩ = (#[a, b, c, d, e, f, g] : Array Value)[o]? := fun o => (hb.cell (p := ⟨w.heap.size, o, none⟩) (by rw [hs]; exact Nat.lt_succ_self _)).trans (cell_of_row _ w.heap.size o _ T (0, 0) hn)
  have hf : ∀ o, w2.frozen? ⟨w.heap.size, o, none⟩ = false := fun o => (hb.frozen (p := ⟨w.heap.size, o, none⟩) (by rw [hs]; exact Nat.lt_succ_self _)).trans (by unfold World.frozen?; rw [hn]; simp)
  exact ⟨hc 0, hc 1, hc 2, hc 3, hc 4, hc 5, hc 6, hf 0, hf 1, hf 2, hf 3, hf 4, hf 5, hf 6, by omega⟩

set_option maxHeartbeats 1000000 in
theorem lx_const (s : ByteArray) (w : World) (hv : Vars w) : Calls Tryd.prog 33 #[.string s] w fun e w' => e = .returned (conT s.data.toList).val ∧ Below w.heap.size w w' := by
  have HV := Lib.hid hv
  have hz := readR_cases0 s.data.toList
  clear hv
  rcases hz with hz | hz
  · obtain ⟨⟨⟨k, f, n, t⟩, z⟩, hR⟩ : ∃ x, x = readR s.data.toList := ⟨_, rfl⟩
    rw [← hR] at hz
    have hz' : z = 0 := hz
    subst hz'
    have HR := Lib.hid hR.symm
    have hc : conT s.data.toList = ⟨2, s, ⟨k, f, n, t⟩, 0⟩ := by unfold conT; rw [← hR]; rfl
    rw [hc]
    clear hc hz hR
    go_enter Tryd.func33, Tryd.ntmps33
    go_wp2_with (fail)
    refine (read_all s _ (by exact HV.out.later (one_new _ _))).mono ?_
    rintro e w1 ⟨he, hb1⟩
    rw [HR.out] at he
    have he' : e = .returned (.tuple #[.agg #[.int .i64 k, .bool f, .int .i64 n, .string t], .int .i64 0]) := he
    clear he
    subst he'
    have HB := Lib.hid ((one_new w _).trans (hb1.mono (by simp)))
    obtain ⟨c0, c1, c2, c3, c4, c5, c6, f0, f1, f2, f3, f4, f5, f6, hz⟩ := box7_later hb1
    clear hb1
    go_wp2
    exact bodyPost_ret (v := .agg #[.int .i64 2, .string s, .int .i64 k, .bool f, .int .i64 n, .string t, .int .i64 0]) (by simp [results, Tryd.results33, go_sem, c0, c1, c2, c3, c4, c5, c6, hz]) rfl ⟨rfl, by repeat (first | (with_reducible exact HB.out) | (with_reducible exact Below.refl _ _) | (with_reducible refine bset ?_) | (with_reducible refine bnew' ?_ (Nat.le_refl _) _))⟩
  · have HR := Lib.hid hz
    have hc : conT s.data.toList = noT := by unfold conT; rw [hz]; rfl
    rw [hc]
    clear hc hz
    go_enter Tryd.func33, Tryd.ntmps33
    go_wp2_with (fail)
    refine (read_all s _ (by exact HV.out.later (one_new _ _))).mono ?_
    rintro e w1 ⟨he, hb1⟩
    rw [HR.out] at he
    have he' : e = .returned (.tuple #[.agg #[.int .i64 0, .bool false, .int .i64 0, .string ⟨#[]⟩], .int .i64 7]) := he
    clear he
    subst he'
    have HB := Lib.hid ((one_new w _).trans (hb1.mono (by simp)))
    obtain ⟨c0, c1, c2, c3, c4, c5, c6, f0, f1, f2, f3, f4, f5, f6, hz⟩ := box7_later hb1
    clear hb1
    go_wp2
    exact bodyPost_ret (v := .agg #[.int .i64 0, .string ⟨#[]⟩, .int .i64 0, .bool false, .int .i64 0, .string ⟨#[]⟩, .int .i64 0]) (by simp [results, Tryd.results33, go_sem, c0, c1, c2, c3, c4, c5, c6, hz]) rfl ⟨rfl, by repeat (first | (with_reducible exact HB.out) | (with_reducible exact Below.refl _ _) | (with_reducible refine bset ?_) | (with_reducible refine bnew' ?_ (Nat.le_refl _) _))⟩
end Go.Proofs.YtmdkjhnafnblkaaDoor
