/-
  The signs, the reserved words and the first byte of a text: what the functions of package lex that ask them answer; nothing is changed.
  No condition.
  The functions of package lex that tell one token: what each answers, at every text that is short; nothing that was there is changed.
  Condition: the library's variables are as the program's text lays them; the text has at most 300 bytes.
  The functions of package lex that tell one token: quoted, number, word, sign, first: what each answers, at every short text; nothing that was there is changed.
  Condition: the library's variables are as the program's text lays them; the text has at most 300 bytes.
  The functions word, sign and first of package lex: what each answers, at every short text; nothing that was there is changed.
  Condition: the library's variables are as the program's text lays them; the text has at most 300 bytes.
-/
import Derived.Shelf.Strings.SlTrimAscii
import Derived.Test.YtmkejlhkipngnaaM9
namespace Go.Proofs.Ytmkejlhkipngnaa
section
open Go.RowKit

/-- A comparison's sign. -/
def sgnS (op : Int) : List UInt8 :=
  if op = 1 then [61, 61] else if op = 2 then [33, 61] else if op = 3 then [60] else if op = 4 then [60, 61] else if op = 5 then [62] else if op = 6 then [62, 61] else []
/-- The comparison that a sign is. -/
def opF (l : List UInt8) : Int :=
  if l = [61, 61] then 1 else if l = [33, 61] then 2 else if l = [60] then 3 else if l = [60, 61] then 4 else if l = [62] then 5 else if l = [62, 61] then 6 else 0

theorem op_at (l : List UInt8) (k : Nat) (h1 : 1 ≤ k) (h6 : k ≤ 6) (h : sgnS k = l) : opF l = k := by
  subst h
  have : k = 1 ∨ k = 2 ∨ k = 3 ∨ k = 4 ∨ k = 5 ∨ k = 6 := by omega
  rcases this with rfl | rfl | rfl | rfl | rfl | rfl <;> rfl
theorem op_none (l : List UInt8) (h : ∀ j : Nat, 1 ≤ j → j < 7 → sgnS j ≠ l) : opF l = 0 := by
  unfold opF
  rw [if_neg (fun e => h 1 (by omega) (by omega) e.symm), if_neg (fun e => h 2 (by omega) (by omega) e.symm), if_neg (fun e => h 3 (by omega) (by omega) e.symm), if_neg (fun e => h 4 (by omega) (by omega) e.symm), if_neg (fun e => h 5 (by omega) (by omega) e.symm), if_neg (fun e => h 6 (by omega) (by omega) e.symm)]

/-- Is it a sign? -/
def isSg (l : List UInt8) : Bool := if l = [40] ∨ l = [41] ∨ l = [44] ∨ l = [95] then true else decide (opF l ≠ 0)
end
end Go.Proofs.Ytmkejlhkipngnaa
namespace Go.Proofs.Ytmkejlhkipngnaa
section
open Go.RowKit

theorem ext_take (s : ByteArray) (n : Nat) : (s.extract 0 n).data.toList = s.data.toList.take n := by
  rw [ByteArray.data_extract]; simp
theorem ext_drop (s : ByteArray) (n : Nat) : (s.extract n s.size).data.toList = s.data.toList.drop n := by
  rw [ByteArray.data_extract, Array.toList_extract]
  show (s.data.toList.drop n).take _ = _
  rw [List.take_of_length_le]
  rw [List.length_drop]
  exact Nat.le_refl _
theorem mk_list (s : ByteArray) : (⟨s.data.toList.toArray⟩ : ByteArray) = s := rfl

theorem trimL_pred (cs : List UInt8) (p : UInt8 → Bool) (h : ∀ c, cs.contains c = p c) (l : List UInt8) : Lib.trimLeftS l cs = l.dropWhile p := by
  unfold Lib.trimLeftS
  congr 1
  funext c
  exact h c
theorem in_all {p q : UInt8 → Bool} (h : ∀ n : Fin 256, p (UInt8.ofNat n.val) = q (UInt8.ofNat n.val)) (c : UInt8) : p c = q c := by
  have := h ⟨c.toNat, c.toNat_lt⟩
  rw [UInt8.ofNat_toNat] at this
  exact this
abbrev cDig : List UInt8 := [48, 49, 50, 51, 52, 53, 54, 55, 56, 57]
abbrev cLet : List UInt8 := [97, 98, 99, 100, 101, 102, 103, 104, 105, 106, 107, 108, 109, 110, 111, 112, 113, 114, 115, 116, 117, 118, 119, 120, 121, 122]
theorem in_dig : ∀ c, cDig.contains c = dgt c := in_all (p := fun c => cDig.contains c) (by decide +kernel)
theorem in_let : ∀ c, cLet.contains c = ltr c := in_all (p := fun c => cLet.contains c) (by decide +kernel)
theorem in_ltu : ∀ c, (cLet ++ [95]).contains c = (ltr c || decide (c = 95)) := in_all (p := fun c => (cLet ++ [95]).contains c) (q := fun c => (ltr c || decide (c = 95))) (by decide +kernel)
theorem in_wch : ∀ c, (cLet ++ cDig ++ [95]).contains c = wch c := in_all (p := fun c => (cLet ++ cDig ++ [95]).contains c) (by decide +kernel)
theorem in_num : ∀ c, ((45 : UInt8) :: cDig).contains c = (dgt c || decide (c = 45)) := in_all (p := fun c => ((45 : UInt8) :: cDig).contains c) (q := fun c => (dgt c || decide (c = 45))) (by decide +kernel)
theorem in_blk : ∀ c, ([32, 10] : List UInt8).contains c = blk c := in_all (p := fun c => ([32, 10] : List UInt8).contains c) (by decide +kernel)

theorem idx_has (bs : List UInt8) (c : UInt8) : decide (0 ≤ Lib.indexByte bs c) = bs.contains c := by
  have h1 := Lib.indexByte_ge bs c
  by_cases h : Lib.indexByte bs c = -1
  · have h2 := Lib.indexByte_none h
    have h3 : bs.contains c = false := by
      rw [← Bool.not_eq_true, List.contains_iff_mem]
      intro hm
      obtain ⟨k, hk⟩ := List.mem_iff_getElem?.1 hm
      exact h2 k hk
    rw [h3, h]
    rfl
  · obtain ⟨o, ho⟩ : ∃ o : Nat, Lib.indexByte bs c = o := ⟨(Lib.indexByte bs c).toNat, by omega⟩
    have h2 := (Lib.indexByte_some ho).1
    have h3 : bs.contains c = true := List.contains_iff_mem.2 (List.mem_of_getElem? h2)
    rw [h3, ho]
    simp

/-- Does the text begin with one of these bytes? -/
def begB (p : UInt8 → Bool) : List UInt8 → Bool
  | [] => false
  | c :: _ => p c

theorem readR_cases0 (l : List UInt8) : (readR l).2 = 0 ∨ readR l = (noV, 7) := by
  unfold readR
  split
  · exact .inl rfl
  · exact .inr rfl

abbrev tokZ : Array Value := #[.int .i64 0, .string ⟨#[]⟩, .int .i64 0, .bool false, .int .i64 0, .string ⟨#[]⟩, .int .i64 0]
/-- A token's seven cells, in a later world. -/
theorem box7_later {w w2 : World} {a b c d e f g : Value} {T : TypeId} (hb : Below (w.alloc (.cells #[a, b, c, d, e, f, g] T)).heap.size (w.alloc (.cells #[a, b, c, d, e, f, g] T)) w2) :
    w2.cell? ⟨w.heap.size, 0, none⟩ = some a ∧ w2.cell? ⟨w.heap.size, 1, none⟩ = some b ∧ w2.cell? ⟨w.heap.size, 2, none⟩ = some c ∧ w2.cell? ⟨w.heap.size, 3, none⟩ = some d ∧ w2.cell? ⟨w.heap.size, 4, none⟩ = some e ∧ w2.cell? ⟨w.heap.size, 5, none⟩ = some f ∧ w2.cell? ⟨w.heap.size, 6, none⟩ = some g ∧
    w2.frozen? ⟨w.heap.size, 0, none⟩ = false ∧ w2.frozen? ⟨w.heap.size, 1, none⟩ = false ∧ w2.frozen? ⟨w.heap.size, 2, none⟩ = false ∧ w2.frozen? ⟨w.heap.size, 3, none⟩ = false ∧ w2.frozen? ⟨w.heap.size, 4, none⟩ = false ∧ w2.frozen? ⟨w.heap.size, 5, none⟩ = false ∧ w2.frozen? ⟨w.heap.size, 6, none⟩ = false ∧ w.heap.size < w2.heap.size := by
  have hs : (w.alloc (.cells #[a, b, c, d, e, f, g] T)).heap.size = w.heap.size + 1 := by simp
  have hn := heap_alloc_new w (.cells #[a, b, c, d, e, f, g] T)
  have hz := hb.size
  have hc : ∀ o, w2.cell? ⟨w.heap.size, o, none⟩ = (#[a, b, c, d, e, f, g] : Array Value)[o]? := fun o => (hb.cell (p := ⟨w.heap.size, o, none⟩) (by rw [hs]; exact Nat.lt_succ_self _)).trans (cell_of_row _ w.heap.size o _ T (0, 0) hn)
  have hf : ∀ o, w2.frozen? ⟨w.heap.size, o, none⟩ = false := fun o => (hb.frozen (p := ⟨w.heap.size, o, none⟩) (by rw [hs]; exact Nat.lt_succ_self _)).trans (by unfold World.frozen?; rw [hn]; simp)
  exact ⟨hc 0, hc 1, hc 2, hc 3, hc 4, hc 5, hc 6, hf 0, hf 1, hf 2, hf 3, hf 4, hf 5, hf 6, by omega⟩
end
end Go.Proofs.Ytmkejlhkipngnaa
namespace Go.Proofs.Ytmkejlhkipngnaa
section
open Go.RowKit

theorem drop_cons {l : List UInt8} {k : Nat} {c : UInt8} (h : l[k]? = some c) : l.drop k = c :: l.drop (k + 1) := by
  obtain ⟨hk, e⟩ := List.getElem?_eq_some_iff.1 h
  rw [List.drop_eq_getElem_cons hk, e]
theorem txtF_92 {l : List UInt8} {k : Nat} (h : l[k]? = some 92) : txtF (l.drop k) k = txtF (l.drop (k + 2)) (k + 2) := by
  rw [drop_cons h]
  match e : l[k + 1]? with
  | none =>
    have h1 : l.length ≤ k + 1 := List.getElem?_eq_none_iff.1 e
    rw [List.drop_eq_nil_of_le h1, List.drop_eq_nil_of_le (show l.length ≤ k + 2 by omega)]
    rfl
  | some c =>
    rw [drop_cons e, txtF_esc]
theorem txtF_34 {l : List UInt8} {k : Nat} (h : l[k]? = some 34) : txtF (l.drop k) k = k + 1 := by
  rw [drop_cons h, txtF_end]
theorem txtF_other {l : List UInt8} {k : Nat} {c : UInt8} (h : l[k]? = some c) (h1 : c ≠ 92) (h2 : c ≠ 34) : txtF (l.drop k) k = txtF (l.drop (k + 1)) (k + 1) := by
  rw [drop_cons h, txtF_plain _ _ _ h1 h2]
theorem txtF_over {l : List UInt8} {k : Nat} (h : l.length ≤ k) : txtF (l.drop k) k = 0 := by
  rw [List.drop_eq_nil_of_le h]
  rfl
theorem at_some (s : ByteArray) (k : Nat) (h : k < s.size) : s.data.toList[k]? = some s[k] := by
  rw [List.getElem?_eq_getElem (by exact h)]; rfl
theorem ne_of_nat {c : UInt8} {n : Nat} (hn : n < 256) (h : ¬ c.toNat = n) : c ≠ UInt8.ofNat n := fun e => h (by rw [e, UInt8.toNat_ofNat_of_lt' hn])
theorem eq_of_nat {c : UInt8} {n : Nat} (h : c.toNat = n) : c = UInt8.ofNat n := by rw [← h, UInt8.ofNat_toNat]

def quoR (s : ByteArray) (n : Nat) : ByteArray := if n = 0 then s else s.extract 0 n
/-- What quoted answers. -/
def quoS (s : ByteArray) : ByteArray := quoR s (txtF (s.data.toList.drop 1) 1)

theorem drop_len (a b : List UInt8) : (a ++ b).drop a.length = b := by simp
theorem numF_drop (l : List UInt8) : (Lib.trimPrefix l [45]).dropWhile dgt = l.drop (numF l) := by
  have e : ∀ u : List UInt8, u.dropWhile dgt = u.drop (u.takeWhile dgt).length := by
    intro u
    have h1 := List.takeWhile_append_dropWhile (p := dgt) (l := u)
    have h2 := drop_len (u.takeWhile dgt) (u.dropWhile dgt)
    rw [h1] at h2
    exact h2.symm
  unfold numF
  match l with
  | [] => rfl
  | c :: r =>
    by_cases h : c = 45
    · subst h
      rw [if_pos (by rfl)]
      have : Lib.trimPrefix ((45 : UInt8) :: r) [45] = r := by simp [Lib.trimPrefix, Lib.hasPrefix]
      rw [this, e]
      show _ = (List.drop (1 + _) (45 :: r))
      rw [Nat.add_comm, List.drop_succ_cons]
      rfl
    · rw [if_neg (by simpa using h)]
      have : Lib.trimPrefix (c :: r) [45] = c :: r := by simp [Lib.trimPrefix, Lib.hasPrefix, Ne.symm h]
      rw [this, e]
theorem ltu_beg (l : List UInt8) : begB (fun c => (ltr c || decide (c = 95))) l = ltu l := by cases l <;> rfl
theorem wordF_drop (l : List UInt8) : l.dropWhile wch = l.drop (wordF l) := by
  have h1 := List.takeWhile_append_dropWhile (p := wch) (l := l)
  have h2 := drop_len (l.takeWhile wch) (l.dropWhile wch)
  rw [h1] at h2
  exact h2.symm

/-- The end of a walk that fills the token that it answers. -/
theorem below_tok {w w1 : World} (h : Below w.heap.size w w1) (a b c d e f g : Value) : Below w.heap.size w (((((((w1.setCell ⟨w.heap.size, 0, none⟩ a).setCell ⟨w.heap.size, 1, none⟩ b).setCell ⟨w.heap.size, 2, none⟩ c).setCell ⟨w.heap.size, 3, none⟩ d).setCell ⟨w.heap.size, 4, none⟩ e).setCell ⟨w.heap.size, 5, none⟩ f).setCell ⟨w.heap.size, 6, none⟩ g) :=
  bset (bset (bset (bset (bset (bset (bset h))))))
end
end Go.Proofs.Ytmkejlhkipngnaa
namespace Go.Proofs.Ytmkejlhkipngnaa
section
open Go.RowKit

theorem isSg_one (a : UInt8) : isSg [a] = decide (a = 40 ∨ a = 41 ∨ a = 44 ∨ a = 95 ∨ a = 60 ∨ a = 62) :=
  in_all (p := fun a => isSg [a]) (q := fun a => decide (a = 40 ∨ a = 41 ∨ a = 44 ∨ a = 95 ∨ a = 60 ∨ a = 62)) (by decide +kernel) a
theorem isSg_two (a b : UInt8) : isSg [a, b] = decide (b = 61 ∧ (a = 61 ∨ a = 33 ∨ a = 60 ∨ a = 62)) := by
  unfold isSg opF
  simp only [List.cons.injEq, and_true, reduceCtorEq, and_false, if_false, or_self]
  by_cases hb : b = 61
  · subst hb
    by_cases h1 : a = 61
    · subst h1; simp
    · by_cases h2 : a = 33
      · subst h2; simp
      · by_cases h3 : a = 60
        · subst h3; simp
        · by_cases h4 : a = 62
          · subst h4; simp
          · simp [h1, h2, h3, h4]
  · simp [hb]
/-- The longest sign with which a text begins. -/
theorem sgnF_at (l : List UInt8) (k : Nat) (hk : 0 < k) (hk2 : k ≤ 2) (hkl : k ≤ l.length) (h : isSg (l.take k) = true) (hm : k = 2 ∨ l.length < 2 ∨ isSg (l.take 2) = false) : sgnF l = k := by
  match l with
  | [] => simp at hkl; omega
  | [a] =>
    have : k = 1 := by simp at hkl; omega
    subst this
    rw [show List.take 1 [a] = [a] from rfl, isSg_one, decide_eq_true_eq] at h
    show (if _ then 1 else 0) = 1
    rw [if_pos h]
  | a :: b :: r =>
    rcases (by omega : k = 1 ∨ k = 2) with rfl | rfl
    · rw [show List.take 1 (a :: b :: r) = [a] from rfl, isSg_one, decide_eq_true_eq] at h
      rcases hm with hm | hm | hm
      · omega
      · simp only [List.length_cons] at hm
        omega
      · rw [show List.take 2 (a :: b :: r) = [a, b] from rfl, isSg_two, decide_eq_false_iff_not] at hm
        show (if _ then 2 else if _ then 1 else 0) = 1
        rw [if_neg hm, if_pos h]
    · rw [show List.take 2 (a :: b :: r) = [a, b] from rfl, isSg_two, decide_eq_true_eq] at h
      show (if _ then 2 else if _ then 1 else 0) = 2
      rw [if_pos h]
theorem sgnF_no (l : List UInt8) (h1 : l.length < 1 ∨ isSg (l.take 1) = false) (h2 : l.length < 2 ∨ isSg (l.take 2) = false) : sgnF l = 0 := by
  match l with
  | [] => rfl
  | [a] =>
    rcases h1 with h1 | h1
    · simp at h1
    · rw [show List.take 1 [a] = [a] from rfl, isSg_one, decide_eq_false_iff_not] at h1
      show (if _ then 1 else 0) = 0
      rw [if_neg h1]
  | a :: b :: r =>
    rcases h1 with h1 | h1
    · simp at h1
    · rcases h2 with h2 | h2
      · simp only [List.length_cons] at h2
        omega
      · rw [show List.take 1 (a :: b :: r) = [a] from rfl, isSg_one, decide_eq_false_iff_not] at h1
        rw [show List.take 2 (a :: b :: r) = [a, b] from rfl, isSg_two, decide_eq_false_iff_not] at h2
        show (if _ then 2 else if _ then 1 else 0) = 0
        rw [if_neg h2, if_neg h1]

theorem oneT_cons (c : UInt8) (r : List UInt8) : oneT (c :: r) = if c = 34 then quoT (c :: r) else if (dgt c || decide (c = 45)) = true then numT (c :: r) else if ltr c = true then worT ((c :: r).take (wordF (c :: r))) else sgnT (c :: r) := rfl
theorem tok_eta (x : Tok) : ∃ k t vk vf vn vt a, x = ⟨k, t, ⟨vk, vf, vn, vt⟩, a⟩ := ⟨_, _, _, _, _, _, _, rfl⟩
theorem call_tok {f : FuncId} {args : Array Value} {w : World} {x : Tok} (h : Calls Try.prog f args w fun e w' => e = .returned x.val ∧ Below w.heap.size w w') {k : Int} {t : ByteArray} {vk : Int} {vf : Bool} {vn : Int} {vt : ByteArray} {a : Int} (hx : x = ⟨k, t, ⟨vk, vf, vn, vt⟩, a⟩) :
    Calls Try.prog f args w fun e w' => e = .returned (.agg #[.int .i64 k, .string t, .int .i64 vk, .bool vf, .int .i64 vn, .string vt, .int .i64 a]) ∧ Below w.heap.size w w' := by
  subst hx
  exact h
end
end Go.Proofs.Ytmkejlhkipngnaa
