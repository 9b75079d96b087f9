/-
  What tokens a text has, as plain lists of bytes: blanks left out, one token behind another, each with its kind, its bytes, its value, and where it begins.
  No condition.
  Facts on the tokens of a text: a quoted text that does not end is no value's word; tokens stand one behind the other, with blanks alone between them.
  No condition.
  The signs, the reserved words and the first byte of a text: what the functions of package lex that ask them answer; nothing is changed.
  No condition.
  The functions of package lex that tell one token: what each answers, at every text that is short; nothing that was there is changed.
  Condition: the library's variables are as the program's text lays them; the text has at most 300 bytes.
  The functions of package lex that tell one token: quoted, number, word, sign, first: what each answers, at every short text; nothing that was there is changed.
  Condition: the library's variables are as the program's text lays them; the text has at most 300 bytes.
  The functions word, sign and first of package lex: what each answers, at every short text; nothing that was there is changed.
  Condition: the library's variables are as the program's text lays them; the text has at most 300 bytes.
-/
import Derived.Test.YthdjkagodccdbaaM8
namespace Go.Proofs.Ythdjkagodccdbaa
section
open Go.RowKit

def ltr (c : UInt8) : Bool := decide (97 ≤ c.toNat) && decide (c.toNat ≤ 122)
def dgt (c : UInt8) : Bool := decide (48 ≤ c.toNat) && decide (c.toNat ≤ 57)
def wch (c : UInt8) : Bool := ltr c || dgt c || decide (c = 95)
def blk (c : UInt8) : Bool := decide (c = 32) || decide (c = 10)

theorem tw_le (p : UInt8 → Bool) (l : List UInt8) : (l.takeWhile p).length ≤ l.length := (List.takeWhile_sublist p).length_le

/-- Where the quote that ends a text stands, behind it; 0: none does. -/
def txtF : List UInt8 → Nat → Nat
  | [], _ => 0
  | c :: r, i => if c = 92 then (match r with | [] => 0 | _ :: r' => txtF r' (i + 2)) else if c = 34 then i + 1 else txtF r (i + 1)
/-- How many bytes a sign has. -/
def sgnF : List UInt8 → Nat
  | [] => 0
  | [a] => if a = 40 ∨ a = 41 ∨ a = 44 ∨ a = 95 ∨ a = 60 ∨ a = 62 then 1 else 0
  | a :: b :: _ => if b = 61 ∧ (a = 61 ∨ a = 33 ∨ a = 60 ∨ a = 62) then 2 else if a = 40 ∨ a = 41 ∨ a = 44 ∨ a = 95 ∨ a = 60 ∨ a = 62 then 1 else 0
/-- How many bytes a number has. -/
def numF (l : List UInt8) : Nat := if l.head? = some 45 then 1 + (l.drop 1 |>.takeWhile dgt).length else (l.takeWhile dgt).length
def wordF (l : List UInt8) : Nat := (l.takeWhile wch).length

/-- A token: its kind, its bytes, its value, where it begins. -/
structure Tok where
  k : Int
  t : ByteArray
  v : V
  a : Int
abbrev Tok.val (x : Tok) : Value := .agg #[.int .i64 x.k, .string x.t, .int .i64 x.v.k, .bool x.v.f, .int .i64 x.v.n, .string x.v.t, .int .i64 x.a]

abbrev Tok.set (x : Tok) (a : Int) : Tok := ⟨x.k, x.t, x.v, a⟩

def noT : Tok := ⟨0, ⟨#[]⟩, noV, 0⟩
/-- The token of a value's word. -/
def conT (l : List UInt8) : Tok := if (readR l).2 = 0 then ⟨2, ⟨l.toArray⟩, (readR l).1, 0⟩ else noT
/-- The token of a word. -/
def worT (l : List UInt8) : Tok := if (readR l).2 = 0 then ⟨2, ⟨l.toArray⟩, (readR l).1, 0⟩ else ⟨1, ⟨l.toArray⟩, noV, 0⟩
/-- Does a letter or an underscore stand first? -/
def ltu (l : List UInt8) : Bool := match l with | [] => false | c :: _ => ltr c || decide (c = 95)
def numT (l : List UInt8) : Tok := if ltu (l.drop (numF l)) = true then noT else conT (l.take (numF l))
def sgnT (l : List UInt8) : Tok := if sgnF l = 0 then noT else ⟨3, ⟨(l.take (sgnF l)).toArray⟩, noV, 0⟩
def quoT (l : List UInt8) : Tok := if txtF (l.drop 1) 1 = 0 then noT else conT (l.take (txtF (l.drop 1) 1))
/-- The token with which a text goes on. -/
def oneT : List UInt8 → Tok
  | [] => ⟨4, ⟨#[]⟩, noV, 0⟩
  | c :: r => if c = 34 then quoT (c :: r) else if (dgt c || decide (c = 45)) = true then numT (c :: r) else if ltr c = true then worT ((c :: r).take (wordF (c :: r))) else sgnT (c :: r)

/-- The tokens of a text of n bytes whose last ones are l, up to the end, or the first one that is wrong. -/
def lexF : Nat → Nat → List UInt8 → List Tok
  | 0, _, _ => []
  | f + 1, n, l => (oneT (l.dropWhile blk)).set ((n : Int) - ((l.dropWhile blk).length : Int)) :: (if (oneT (l.dropWhile blk)).t.size = 0 then [] else lexF f n ((l.dropWhile blk).drop (oneT (l.dropWhile blk)).t.size))

theorem txtF_le : ∀ (r : List UInt8) (i : Nat), txtF r i ≤ i + r.length
  | [], i => by simp [txtF]
  | c :: r, i => by
    unfold txtF
    split
    · match r with
      | [] => simp
      | d :: r' =>
        have := txtF_le r' (i + 2)
        simp only [List.length_cons]
        omega
    · split
      · simp only [List.length_cons]
        omega
      · have := txtF_le r (i + 1)
        simp only [List.length_cons]
        omega
theorem txtF_pos : ∀ (r : List UInt8) (i : Nat), txtF r i = 0 ∨ i < txtF r i
  | [], i => .inl rfl
  | c :: r, i => by
    unfold txtF
    split
    · match r with
      | [] => exact .inl rfl
      | d :: r' =>
        rcases txtF_pos r' (i + 2) with h | h
        · exact .inl h
        · exact .inr (by show i < txtF r' (i + 2); omega)
    · split
      · exact .inr (by omega)
      · rcases txtF_pos r (i + 1) with h | h
        · exact .inl h
        · exact .inr (by omega)
theorem numF_le (l : List UInt8) : numF l ≤ l.length := by
  unfold numF
  split
  · have h := tw_le dgt (l.drop 1)
    rename_i h1
    cases l with
    | nil => simp at h1
    | cons c r =>
      simp only [List.drop_succ_cons, List.drop_zero, List.length_cons] at h ⊢
      omega
  · exact tw_le _ _
theorem sgnF_le (l : List UInt8) : sgnF l ≤ l.length := by
  unfold sgnF
  split
  · simp
  · split <;> simp
  · split
    · simp
    · split <;> simp
theorem wordF_le (l : List UInt8) : wordF l ≤ l.length := tw_le _ _
theorem conT_t (l : List UInt8) : (conT l).t = ⟨l.toArray⟩ ∨ conT l = noT := by
  unfold conT
  split
  · exact .inl rfl
  · exact .inr rfl
/-- A token's bytes are those with which the text goes on. -/
theorem oneT_take (l : List UInt8) : (oneT l).t.data.toList = l.take (oneT l).t.size := by
  have hc : ∀ n, n ≤ l.length → (conT (l.take n)).t.data.toList = l.take (conT (l.take n)).t.size := by
    intro n hn
    rcases conT_t (l.take n) with h | h
    · rw [h]
      have : (⟨(l.take n).toArray⟩ : ByteArray).size = n := by show (l.take n).toArray.size = n; simp; omega
      rw [this]
    · rw [h]; rfl
  match l with
  | [] => rfl
  | c :: r =>
    unfold oneT
    simp only
    split
    · unfold quoT
      split
      · rfl
      · refine hc _ ?_
        have := txtF_le ((c :: r).drop 1) 1
        simp at this ⊢
        omega
    · split
      · unfold numT
        split
        · rfl
        · exact hc _ (numF_le _)
      · split
        · have hw : ∀ n, n ≤ (c :: r).length → (worT ((c :: r).take n)).t.data.toList = (c :: r).take (worT ((c :: r).take n)).t.size := by
            intro n hn
            have e : (worT ((c :: r).take n)).t = ⟨((c :: r).take n).toArray⟩ := by
              unfold worT
              split <;> rfl
            rw [e]
            have : (⟨((c :: r).take n).toArray⟩ : ByteArray).size = n := by show ((c :: r).take n).toArray.size = n; rw [List.size_toArray, List.length_take]; omega
            rw [this]
          exact hw _ (wordF_le _)
        · unfold sgnT
          split
          · rfl
          · have : (⟨((c :: r).take (sgnF (c :: r))).toArray⟩ : ByteArray).size = sgnF (c :: r) := by
              show ((c :: r).take (sgnF (c :: r))).toArray.size = _
              rw [List.size_toArray, List.length_take]
              have := sgnF_le (c :: r)
              omega
            simp only
            rw [this]
theorem oneT_size (l : List UInt8) : (oneT l).t.size ≤ l.length := by
  have h := congrArg List.length (oneT_take l)
  rw [List.length_take] at h
  have e : (oneT l).t.data.toList.length = (oneT l).t.size := rfl
  omega
theorem drop_blk_le (l : List UInt8) : (l.dropWhile blk).length ≤ l.length := (List.dropWhile_sublist blk).length_le
theorem lexF_fuel : ∀ (f g n : Nat) (l : List UInt8), l.length < f → l.length < g → lexF f n l = lexF g n l
  | 0, _, _, _, h, _ => by omega
  | _, 0, _, _, _, h => by omega
  | f + 1, g + 1, n, l, hf, hg => by
    unfold lexF
    by_cases h : (oneT (l.dropWhile blk)).t.size = 0
    · rw [if_pos h, if_pos h]
    · rw [if_neg h, if_neg h]
      have h1 := oneT_size (l.dropWhile blk)
      have h2 := drop_blk_le l
      rw [lexF_fuel f g n _ (by rw [List.length_drop]; omega) (by rw [List.length_drop]; omega)]
/-- All tokens of a text. -/
def lexA (n : Nat) (l : List UInt8) : List Tok := lexF (l.length + 1) n l
theorem lexA_step (n : Nat) (l : List UInt8) : lexA n l = (oneT (l.dropWhile blk)).set ((n : Int) - ((l.dropWhile blk).length : Int)) :: (if (oneT (l.dropWhile blk)).t.size = 0 then [] else lexA n ((l.dropWhile blk).drop (oneT (l.dropWhile blk)).t.size)) := by
  show lexF (l.length + 1) n l = _
  unfold lexF
  by_cases h : (oneT (l.dropWhile blk)).t.size = 0
  · rw [if_pos h, if_pos h]
  · rw [if_neg h, if_neg h]
    have h1 := oneT_size (l.dropWhile blk)
    have h2 := drop_blk_le l
    unfold lexA
    rw [lexF_fuel l.length (((l.dropWhile blk).drop (oneT (l.dropWhile blk)).t.size).length + 1) n _ (by rw [List.length_drop]; omega) (by omega)]
theorem lexF_len : ∀ (f n : Nat) (l : List UInt8), (lexF f n l).length ≤ l.length + 1
  | 0, _, _ => by simp [lexF]
  | f + 1, n, l => by
    unfold lexF
    have h2 := drop_blk_le l
    split
    · simp
    · have h1 := oneT_size (l.dropWhile blk)
      have h3 := lexF_len f n ((l.dropWhile blk).drop (oneT (l.dropWhile blk)).t.size)
      rw [List.length_drop] at h3
      simp only [List.length_cons]
      omega
theorem lexA_len (n : Nat) (l : List UInt8) : (lexA n l).length ≤ l.length + 1 := lexF_len _ _ _

/-- What Read answers: the tokens, where, and why not. -/
def lexR (l : List UInt8) : List Tok × Int × Int :=
  if 300 < l.length then ([], 0, 9)
  else match (lexA l.length l).find? (fun t => decide (t.k = 0)) with
    | none => (lexA l.length l, 0, 0)
    | some t => ([], t.a, 7)
end
end Go.Proofs.Ythdjkagodccdbaa
namespace Go.Proofs.Ythdjkagodccdbaa
section
open Go.RowKit

theorem hexd_not (d : Nat) (h : d < 16) : hexd d ≠ 92 ∧ hexd d ≠ 34 := by
  have : ∀ e : Fin 16, hexd e.val ≠ 92 ∧ hexd e.val ≠ 34 := by decide
  exact this ⟨d, h⟩
theorem txtF_plain (c : UInt8) (r : List UInt8) (i : Nat) (h1 : c ≠ 92) (h2 : c ≠ 34) : txtF (c :: r) i = txtF r (i + 1) := by
  rw [txtF.eq_def]
  simp only [h1, h2, if_false]
theorem txtF_esc (c : UInt8) (r : List UInt8) (i : Nat) : txtF (92 :: c :: r) i = txtF r (i + 2) := by
  rw [txtF.eq_def]
  simp only [if_true]
theorem txtF_end (r : List UInt8) (i : Nat) : txtF (34 :: r) i = i + 1 := by
  rw [txtF.eq_def]
  simp only [show ¬ ((34 : UInt8) = 92) by decide, if_false, if_true]
theorem txtF_qs : ∀ (t : List UInt8) (i : Nat), txtF (t.flatMap qb ++ [34]) i = i + (t.flatMap qb).length + 1
  | [], i => by simp [txtF]
  | c :: t, i => by
    rw [List.flatMap_cons, List.append_assoc, List.length_append]
    have hc : c.toNat < 256 := c.toNat_lt
    have ih := fun j => txtF_qs t j
    generalize t.flatMap qb = u at ih ⊢
    by_cases h : c.toNat = 34 ∨ c.toNat = 92
    · have e : qb c = [92, c] := if_pos h
      rw [e]
      show txtF (92 :: c :: (u ++ [34])) i = _
      rw [txtF_esc, ih]
      simp only [List.length_cons, List.length_nil]
      omega
    · by_cases h' : c.toNat < 32 ∨ 126 < c.toNat
      · have e : qb c = [92, 120, hexd (c.toNat / 16), hexd (c.toNat % 16)] := by unfold qb; rw [if_neg h, if_pos h']
        rw [e]
        show txtF (92 :: 120 :: hexd (c.toNat / 16) :: hexd (c.toNat % 16) :: (u ++ [34])) i = _
        have h1 := hexd_not (c.toNat / 16) (by omega)
        have h2 := hexd_not (c.toNat % 16) (by omega)
        rw [txtF_esc, txtF_plain _ _ _ h1.1 h1.2, txtF_plain _ _ _ h2.1 h2.2, ih]
        simp only [List.length_cons, List.length_nil]
        omega
      · have e : qb c = [c] := by unfold qb; rw [if_neg h, if_neg h']
        rw [e]
        show txtF (c :: (u ++ [34])) i = _
        have h1 : c ≠ 92 := fun e => h (.inr (by rw [e]; rfl))
        have h2 : c ≠ 34 := fun e => h (.inl (by rw [e]; rfl))
        rw [txtF_plain _ _ _ h1 h2, ih]
        simp only [List.length_cons, List.length_nil]
        omega
theorem readR_ok {l : List UInt8} (h : (readR l).2 = 0) : l.length ≤ 242 ∧ showV (guessV l) = l := by
  unfold readR at h
  split at h
  · assumption
  · cases h
theorem quo_ends (r : List UInt8) (h : (readR (34 :: r)).2 = 0) : txtF r 1 = r.length + 1 := by
  obtain ⟨_, h2⟩ := readR_ok h
  have hp : Lib.hasPrefix ((34 : UInt8) :: r) [34] = true := by
    unfold Lib.hasPrefix
    simp
  have hg : guessV (34 :: r) = ⟨3, false, 0, ⟨(unqF (34 :: r) (34 :: r).length 1).toArray⟩⟩ := by
    unfold guessV
    rw [if_neg (by simp), if_neg (by simp), if_neg (by simp), if_pos hp]
  rw [hg] at h2
  unfold showV at h2
  split at h2
  · rw [if_neg (show ¬ (3 : Int) = 1 by decide), if_neg (show ¬ (3 : Int) = 2 by decide), if_pos rfl] at h2
    unfold qs at h2
    simp only [List.cons_append, List.nil_append, List.cons.injEq, true_and] at h2
    rw [← h2, txtF_qs]
    simp
    omega
  · cases h2
/-- A quoted text that does not end is no value's word. -/
theorem quo_open (r : List UInt8) (h : txtF r 1 = 0) : conT (34 :: r) = noT := by
  unfold conT
  rw [if_neg]
  intro e
  have := quo_ends r e
  omega

theorem size_mk (l : List UInt8) : (⟨l.toArray⟩ : ByteArray).size = l.length := by show l.toArray.size = _; simp
theorem conT_kind (l : List UInt8) (h : 0 < l.length) : ((conT l).k = 0 ∧ (conT l).t.size = 0) ∨ ((conT l).k = 2 ∧ 0 < (conT l).t.size) := by
  unfold conT
  split
  · exact .inr ⟨rfl, by rw [size_mk]; exact h⟩
  · exact .inl ⟨rfl, rfl⟩
theorem oneT_kind (l : List UInt8) (h : l ≠ []) : ((oneT l).k = 0 ∧ (oneT l).t.size = 0) ∨ ((oneT l).k ≠ 0 ∧ (oneT l).k ≠ 4 ∧ 0 < (oneT l).t.size) := by
  have hc : ∀ n, 0 < n → ((conT (l.take n)).k = 0 ∧ (conT (l.take n)).t.size = 0) ∨ ((conT (l.take n)).k ≠ 0 ∧ (conT (l.take n)).k ≠ 4 ∧ 0 < (conT (l.take n)).t.size) := by
    intro n hn
    rcases conT_kind (l.take n) (by rw [List.length_take]; have := List.length_pos_iff.2 h; omega) with h1 | h1
    · exact .inl h1
    · exact .inr ⟨by rw [h1.1]; decide, by rw [h1.1]; decide, h1.2⟩
  match l, h with
  | c :: r, _ =>
    unfold oneT
    simp only
    split
    · unfold quoT
      split
      · exact .inl ⟨rfl, rfl⟩
      · exact hc _ (by omega)
    · split
      · rename_i h2
        unfold numT
        split
        · exact .inl ⟨rfl, rfl⟩
        · refine hc _ ?_
          unfold numF
          split
          · omega
          · rename_i h3
            simp only [Bool.or_eq_true, decide_eq_true_eq] at h2
            rcases h2 with h2 | h2
            · rw [List.takeWhile_cons_of_pos h2]
              simp
            · subst h2
              simp at h3
      · split
        · rename_i h3
          right
          have hw : 0 < wordF (c :: r) := by
            unfold wordF
            rw [List.takeWhile_cons_of_pos (by unfold wch; rw [h3]; rfl)]
            simp
          have hl : 0 < ((c :: r).take (wordF (c :: r))).length := by rw [List.length_take]; simp only [List.length_cons]; omega
          unfold worT
          split
          · exact ⟨show (2 : Int) ≠ 0 by decide, show (2 : Int) ≠ 4 by decide, by rw [size_mk]; exact hl⟩
          · exact ⟨show (1 : Int) ≠ 0 by decide, show (1 : Int) ≠ 4 by decide, by rw [size_mk]; exact hl⟩
        · unfold sgnT
          split
          · exact .inl ⟨rfl, rfl⟩
          · refine .inr ⟨show (3 : Int) ≠ 0 by decide, show (3 : Int) ≠ 4 by decide, ?_⟩
            rw [size_mk, List.length_take]
            have := sgnF_le (c :: r)
            omega

/-- Tokens of s from a place on: one behind the other, blanks alone between them, the end behind all. -/
def Apart (s : List UInt8) : Nat → List Tok → Prop
  | _, [] => False
  | at', x :: r => ∃ a : Nat, x.a = a ∧ at' ≤ a ∧ a + x.t.size ≤ s.length ∧ (s.drop a).take x.t.size = x.t.data.toList ∧ (∀ j, at' ≤ j → j < a → ∃ c, s[j]? = some c ∧ blk c = true) ∧
      ((r = [] ∧ x.k = 4 ∧ a + x.t.size = s.length) ∨ (r ≠ [] ∧ x.k ≠ 4 ∧ Apart s (a + x.t.size) r))
theorem lexF_ne (f n : Nat) (l : List UInt8) (h : 0 < f) : lexF f n l ≠ [] := by
  cases f with
  | zero => omega
  | succ f => unfold lexF; simp
theorem apart_lex (s : List UInt8) : ∀ (f at' : Nat), at' ≤ s.length → (s.drop at').length < f → (∀ x ∈ lexF f s.length (s.drop at'), x.k ≠ 0) → Apart s at' (lexF f s.length (s.drop at'))
  | 0, _, _, h, _ => by omega
  | f + 1, at', hat, hf, hk => by
    obtain ⟨l, hl⟩ : ∃ l, l = s.drop at' := ⟨_, rfl⟩
    obtain ⟨r, hr⟩ : ∃ r, r = l.dropWhile blk := ⟨_, rfl⟩
    have hlr : l.takeWhile blk ++ r = l := by rw [hr]; exact List.takeWhile_append_dropWhile
    have hll : (l.takeWhile blk).length + r.length = l.length := by
      have := congrArg List.length hlr
      rw [List.length_append] at this
      exact this
    have hle : l.length = s.length - at' := by rw [hl, List.length_drop]
    have hrd : r = s.drop (at' + (l.takeWhile blk).length) := by
      rw [← List.drop_drop, ← hl]
      have e : ∀ (a b : List UInt8), (a ++ b).drop a.length = b := fun a b => by simp
      have e2 := e (l.takeWhile blk) r
      rw [hlr] at e2
      exact e2.symm
    rw [← hl] at hk ⊢
    unfold lexF at hk ⊢
    rw [← hr] at hk ⊢
    have ht := oneT_take r
    have hz := oneT_size r
    refine ⟨at' + (l.takeWhile blk).length, ?_, by omega, ?_, ?_, ?_, ?_⟩
    · show (s.length : Int) - (r.length : Int) = _
      omega
    · show _ + (oneT r).t.size ≤ _
      omega
    · show List.take (oneT r).t.size _ = _
      rw [← hrd]
      exact ht.symm
    · intro j h1 h2
      have h3 : j - at' < (l.takeWhile blk).length := by omega
      refine ⟨(l.takeWhile blk)[j - at'], ?_, ?_⟩
      · have h4 : l[j - at']? = some (l.takeWhile blk)[j - at'] := by
          have e : (l.takeWhile blk ++ r)[j - at']? = some (l.takeWhile blk)[j - at'] := by
            rw [List.getElem?_append_left h3, List.getElem?_eq_getElem h3]
          rw [hlr] at e
          exact e
        have h5 := (congrArg (fun u : List UInt8 => u[j - at']?) hl).symm.trans h4
        simp only [List.getElem?_drop] at h5
        have h6 : at' + (j - at') = j := by omega
        rw [h6] at h5
        exact h5
      · have := List.all_takeWhile (p := blk) (l := l)
        exact List.all_eq_true.1 this _ (List.getElem_mem h3)
    · have hk0 : (oneT r).k ≠ 0 := by
        have := hk ((oneT r).set ((s.length : Int) - (r.length : Int))) (by simp)
        exact this
      by_cases hr0 : r = []
      · left
        have e : oneT r = ⟨4, ⟨#[]⟩, noV, 0⟩ := by rw [hr0]; rfl
        refine ⟨?_, ?_, ?_⟩
        · rw [e]; rfl
        · show (oneT r).k = 4
          rw [e]
        · show _ + (oneT r).t.size = _
          have h5 : (oneT r).t.size = 0 := by rw [e]; rfl
          rw [h5]
          have : r.length = 0 := by rw [hr0]; rfl
          omega
      · right
        rcases oneT_kind r hr0 with h | ⟨_, h4, h5⟩
        · exact absurd h.1 hk0
        · have h6 : ¬ (oneT r).t.size = 0 := by omega
          rw [if_neg h6] at hk ⊢
          have hd : r.drop (oneT r).t.size = s.drop (at' + (l.takeWhile blk).length + (oneT r).t.size) := by
            rw [← List.drop_drop, ← hrd]
          rw [hd] at hk ⊢
          have h7 : at' + (l.takeWhile blk).length + (oneT r).t.size ≤ s.length := by omega
          have h8 : (s.drop (at' + (l.takeWhile blk).length + (oneT r).t.size)).length < f := by rw [List.length_drop] at hf ⊢; omega
          have h9 : 0 < f := by omega
          exact ⟨lexF_ne _ _ _ h9, h4, apart_lex s f _ h7 h8 (fun x hx => hk x (List.mem_cons_of_mem _ hx))⟩
end
end Go.Proofs.Ythdjkagodccdbaa
namespace Go.Proofs.Ythdjkagodccdbaa
section
open Go.RowKit

/-- A comparison's sign. -/
def sgnS (op : Int) : List UInt8 :=
  if op = 1 then [61, 61] else if op = 2 then [33, 61] else if op = 3 then [60] else if op = 4 then [60, 61] else if op = 5 then [62] else if op = 6 then [62, 61] else []
/-- The comparison that a sign is. -/
def opF (l : List UInt8) : Int :=
  if l = [61, 61] then 1 else if l = [33, 61] then 2 else if l = [60] then 3 else if l = [60, 61] then 4 else if l = [62] then 5 else if l = [62, 61] then 6 else 0

theorem op_at (l : List UInt8) (k : Nat) (h1 : 1 ≤ k) (h6 : k ≤ 6) (h : sgnS k = l) : opF l = k := by
  subst h
  have : k = 1 ∨ k = 2 ∨ k = 3 ∨ k = 4 ∨ k = 5 ∨ k = 6 := by omega
  rcases this with rfl | rfl | rfl | rfl | rfl | rfl <;> rfl
theorem op_none (l : List UInt8) (h : ∀ j : Nat, 1 ≤ j → j < 7 → sgnS j ≠ l) : opF l = 0 := by
  unfold opF
  rw [if_neg (fun e => h 1 (by omega) (by omega) e.symm), if_neg (fun e => h 2 (by omega) (by omega) e.symm), if_neg (fun e => h 3 (by omega) (by omega) e.symm), if_neg (fun e => h 4 (by omega) (by omega) e.symm), if_neg (fun e => h 5 (by omega) (by omega) e.symm), if_neg (fun e => h 6 (by omega) (by omega) e.symm)]

/-- Is it a sign? -/
def isSg (l : List UInt8) : Bool := if l = [40] ∨ l = [41] ∨ l = [44] ∨ l = [95] then true else decide (opF l ≠ 0)
end
end Go.Proofs.Ythdjkagodccdbaa
namespace Go.Proofs.Ythdjkagodccdbaa
section
open Go.RowKit

theorem ext_take (s : ByteArray) (n : Nat) : (s.extract 0 n).data.toList = s.data.toList.take n := by
  rw [ByteArray.data_extract]; simp
theorem ext_drop (s : ByteArray) (n : Nat) : (s.extract n s.size).data.toList = s.data.toList.drop n := by
  rw [ByteArray.data_extract, Array.toList_extract]
  show (s.data.toList.drop n).take _ = _
  rw [List.take_of_length_le]
  rw [List.length_drop]
  exact Nat.le_refl _
theorem mk_list (s : ByteArray) : (⟨s.data.toList.toArray⟩ : ByteArray) = s := rfl

theorem trimL_pred (cs : List UInt8) (p : UInt8 → Bool) (h : ∀ c, cs.contains c = p c) (l : List UInt8) : Lib.trimLeftS l cs = l.dropWhile p := by
  unfold Lib.trimLeftS
  congr 1
  funext c
  exact h c
theorem in_all {p q : UInt8 → Bool} (h : ∀ n : Fin 256, p (UInt8.ofNat n.val) = q (UInt8.ofNat n.val)) (c : UInt8) : p c = q c := by
  have := h ⟨c.toNat, c.toNat_lt⟩
  rw [UInt8.ofNat_toNat] at this
  exact this
abbrev cDig : List UInt8 := [48, 49, 50, 51, 52, 53, 54, 55, 56, 57]
abbrev cLet : List UInt8 := [97, 98, 99, 100, 101, 102, 103, 104, 105, 106, 107, 108, 109, 110, 111, 112, 113, 114, 115, 116, 117, 118, 119, 120, 121, 122]
theorem in_dig : ∀ c, cDig.contains c = dgt c := in_all (p := fun c => cDig.contains c) (by decide +kernel)
theorem in_let : ∀ c, cLet.contains c = ltr c := in_all (p := fun c => cLet.contains c) (by decide +kernel)
theorem in_ltu : ∀ c, (cLet ++ [95]).contains c = (ltr c || decide (c = 95)) := in_all (p := fun c => (cLet ++ [95]).contains c) (q := fun c => (ltr c || decide (c = 95))) (by decide +kernel)
theorem in_wch : ∀ c, (cLet ++ cDig ++ [95]).contains c = wch c := in_all (p := fun c => (cLet ++ cDig ++ [95]).contains c) (by decide +kernel)
theorem in_num : ∀ c, ((45 : UInt8) :: cDig).contains c = (dgt c || decide (c = 45)) := in_all (p := fun c => ((45 : UInt8) :: cDig).contains c) (q := fun c => (dgt c || decide (c = 45))) (by decide +kernel)
theorem in_blk : ∀ c, ([32, 10] : List UInt8).contains c = blk c := in_all (p := fun c => ([32, 10] : List UInt8).contains c) (by decide +kernel)

theorem idx_has (bs : List UInt8) (c : UInt8) : decide (0 ≤ Lib.indexByte bs c) = bs.contains c := by
  have h1 := Lib.indexByte_ge bs c
  by_cases h : Lib.indexByte bs c = -1
  · have h2 := Lib.indexByte_none h
    have h3 : bs.contains c = false := by
      rw [← Bool.not_eq_true, List.contains_iff_mem]
      intro hm
      obtain ⟨k, hk⟩ := List.mem_iff_getElem?.1 hm
      exact h2 k hk
    rw [h3, h]
    rfl
  · obtain ⟨o, ho⟩ : ∃ o : Nat, Lib.indexByte bs c = o := ⟨(Lib.indexByte bs c).toNat, by omega⟩
    have h2 := (Lib.indexByte_some ho).1
    have h3 : bs.contains c = true := List.contains_iff_mem.2 (List.mem_of_getElem? h2)
    rw [h3, ho]
    simp

/-- Does the text begin with one of these bytes? -/
def begB (p : UInt8 → Bool) : List UInt8 → Bool
  | [] => false
  | c :: _ => p c

theorem readR_cases0 (l : List UInt8) : (readR l).2 = 0 ∨ readR l = (noV, 7) := by
  unfold readR
  split
  · exact .inl rfl
  · exact .inr rfl

abbrev tokZ : Array Value := #[.int .i64 0, .string ⟨#[]⟩, .int .i64 0, .bool false, .int .i64 0, .string ⟨#[]⟩, .int .i64 0]
/-- A token's seven cells, in a later world. -/
theorem box7_later {w w2 : World} {a b c d e f g : Value} {T : TypeId} (hb : Below (w.alloc (.cells #[a, b, c, d, e, f, g] T)).heap.size (w.alloc (.cells #[a, b, c, d, e, f, g] T)) w2) :
    w2.cell? ⟨w.heap.size, 0, none⟩ = some a ∧ w2.cell? ⟨w.heap.size, 1, none⟩ = some b ∧ w2.cell? ⟨w.heap.size, 2, none⟩ = some c ∧ w2.cell? ⟨w.heap.size, 3, none⟩ = some d ∧ w2.cell? ⟨w.heap.size, 4, none⟩ = some e ∧ w2.cell? ⟨w.heap.size, 5, none⟩ = some f ∧ w2.cell? ⟨w.heap.size, 6, none⟩ = some g ∧
    w2.frozen? ⟨w.heap.size, 0, none⟩ = false ∧ w2.frozen? ⟨w.heap.size, 1, none⟩ = false ∧ w2.frozen? ⟨w.heap.size, 2, none⟩ = false ∧ w2.frozen? ⟨w.heap.size, 3, none⟩ = false ∧ w2.frozen? ⟨w.heap.size, 4, none⟩ = false ∧ w2.frozen? ⟨w.heap.size, 5, none⟩ = false ∧ w2.frozen? ⟨w.heap.size, 6, none⟩ = false ∧ w.heap.size < w2.heap.size := by
  have hs : (w.alloc (.cells #[a, b, c, d, e, f, g] T)).heap.size = w.heap.size + 1 := by simp
  have hn := heap_alloc_new w (.cells #[a, b, c, d, e, f, g] T)
  have hz := hb.size
  have hc : ∀ o, w2.cell? ⟨w.heap.size, o, none⟩ = (#[a, b, c, d, e, f, g] : Array Value)[o]? := fun o => (hb.cell (p := ⟨w.heap.size, o, none⟩) (by rw [hs]; exact Nat.lt_succ_self _)).trans (cell_of_row _ w.heap.size o _ T (0, 0) hn)
  have hf : ∀ o, w2.frozen? ⟨w.heap.size, o, none⟩ = false := fun o => (hb.frozen (p := ⟨w.heap.size, o, none⟩) (by rw [hs]; exact Nat.lt_succ_self _)).trans (by unfold World.frozen?; rw [hn]; simp)
  exact ⟨hc 0, hc 1, hc 2, hc 3, hc 4, hc 5, hc 6, hf 0, hf 1, hf 2, hf 3, hf 4, hf 5, hf 6, by omega⟩
end
end Go.Proofs.Ythdjkagodccdbaa
namespace Go.Proofs.Ythdjkagodccdbaa
section
open Go.RowKit

theorem drop_cons {l : List UInt8} {k : Nat} {c : UInt8} (h : l[k]? = some c) : l.drop k = c :: l.drop (k + 1) := by
  obtain ⟨hk, e⟩ := List.getElem?_eq_some_iff.1 h
  rw [List.drop_eq_getElem_cons hk, e]
theorem txtF_92 {l : List UInt8} {k : Nat} (h : l[k]? = some 92) : txtF (l.drop k) k = txtF (l.drop (k + 2)) (k + 2) := by
  rw [drop_cons h]
  match e : l[k + 1]? with
  | none =>
    have h1 : l.length ≤ k + 1 := List.getElem?_eq_none_iff.1 e
    rw [List.drop_eq_nil_of_le h1, List.drop_eq_nil_of_le (show l.length ≤ k + 2 by omega)]
    rfl
  | some c =>
    rw [drop_cons e, txtF_esc]
theorem txtF_34 {l : List UInt8} {k : Nat} (h : l[k]? = some 34) : txtF (l.drop k) k = k + 1 := by
  rw [drop_cons h, txtF_end]
theorem txtF_other {l : List UInt8} {k : Nat} {c : UInt8} (h : l[k]? = some c) (h1 : c ≠ 92) (h2 : c ≠ 34) : txtF (l.drop k) k = txtF (l.drop (k + 1)) (k + 1) := by
  rw [drop_cons h, txtF_plain _ _ _ h1 h2]
theorem txtF_over {l : List UInt8} {k : Nat} (h : l.length ≤ k) : txtF (l.drop k) k = 0 := by
  rw [List.drop_eq_nil_of_le h]
  rfl
theorem at_some (s : ByteArray) (k : Nat) (h : k < s.size) : s.data.toList[k]? = some s[k] := by
  rw [List.getElem?_eq_getElem (by exact h)]; rfl
theorem ne_of_nat {c : UInt8} {n : Nat} (hn : n < 256) (h : ¬ c.toNat = n) : c ≠ UInt8.ofNat n := fun e => h (by rw [e, UInt8.toNat_ofNat_of_lt' hn])
theorem eq_of_nat {c : UInt8} {n : Nat} (h : c.toNat = n) : c = UInt8.ofNat n := by rw [← h, UInt8.ofNat_toNat]

def quoR (s : ByteArray) (n : Nat) : ByteArray := if n = 0 then s else s.extract 0 n
/-- What quoted answers. -/
def quoS (s : ByteArray) : ByteArray := quoR s (txtF (s.data.toList.drop 1) 1)

theorem drop_len (a b : List UInt8) : (a ++ b).drop a.length = b := by simp
theorem numF_drop (l : List UInt8) : (Lib.trimPrefix l [45]).dropWhile dgt = l.drop (numF l) := by
  have e : ∀ u : List UInt8, u.dropWhile dgt = u.drop (u.takeWhile dgt).length := by
    intro u
    have h1 := List.takeWhile_append_dropWhile (p := dgt) (l := u)
    have h2 := drop_len (u.takeWhile dgt) (u.dropWhile dgt)
    rw [h1] at h2
    exact h2.symm
  unfold numF
  match l with
  | [] => rfl
  | c :: r =>
    by_cases h : c = 45
    · subst h
      rw [if_pos (by rfl)]
      have : Lib.trimPrefix ((45 : UInt8) :: r) [45] = r := by simp [Lib.trimPrefix, Lib.hasPrefix]
      rw [this, e]
      show _ = (List.drop (1 + _) (45 :: r))
      rw [Nat.add_comm, List.drop_succ_cons]
      rfl
    · rw [if_neg (by simpa using h)]
      have : Lib.trimPrefix (c :: r) [45] = c :: r := by simp [Lib.trimPrefix, Lib.hasPrefix, Ne.symm h]
      rw [this, e]
theorem ltu_beg (l : List UInt8) : begB (fun c => (ltr c || decide (c = 95))) l = ltu l := by cases l <;> rfl
theorem wordF_drop (l : List UInt8) : l.dropWhile wch = l.drop (wordF l) := by
  have h1 := List.takeWhile_append_dropWhile (p := wch) (l := l)
  have h2 := drop_len (l.takeWhile wch) (l.dropWhile wch)
  rw [h1] at h2
  exact h2.symm

/-- The end of a walk that fills the token that it answers. -/
theorem below_tok {w w1 : World} (h : Below w.heap.size w w1) (a b c d e f g : Value) : Below w.heap.size w (((((((w1.setCell ⟨w.heap.size, 0, none⟩ a).setCell ⟨w.heap.size, 1, none⟩ b).setCell ⟨w.heap.size, 2, none⟩ c).setCell ⟨w.heap.size, 3, none⟩ d).setCell ⟨w.heap.size, 4, none⟩ e).setCell ⟨w.heap.size, 5, none⟩ f).setCell ⟨w.heap.size, 6, none⟩ g) :=
  bset (bset (bset (bset (bset (bset (bset h))))))
end
end Go.Proofs.Ythdjkagodccdbaa
namespace Go.Proofs.Ythdjkagodccdbaa
section
open Go.RowKit

theorem isSg_one (a : UInt8) : isSg [a] = decide (a = 40 ∨ a = 41 ∨ a = 44 ∨ a = 95 ∨ a = 60 ∨ a = 62) :=
  in_all (p := fun a => isSg [a]) (q := fun a => decide (a = 40 ∨ a = 41 ∨ a = 44 ∨ a = 95 ∨ a = 60 ∨ a = 62)) (by decide +kernel) a
theorem isSg_two (a b : UInt8) : isSg [a, b] = decide (b = 61 ∧ (a = 61 ∨ a = 33 ∨ a = 60 ∨ a = 62)) := by
  unfold isSg opF
  simp only [List.cons.injEq, and_true, reduceCtorEq, and_false, if_false, or_self]
  by_cases hb : b = 61
  · subst hb
    by_cases h1 : a = 61
    · subst h1; simp
    · by_cases h2 : a = 33
      · subst h2; simp
      · by_cases h3 : a = 60
        · subst h3; simp
        · by_cases h4 : a = 62
          · subst h4; simp
          · simp [h1, h2, h3, h4]
  · simp [hb]
/-- The longest sign with which a text begins. -/
theorem sgnF_at (l : List UInt8) (k : Nat) (hk : 0 < k) (hk2 : k ≤ 2) (hkl : k ≤ l.length) (h : isSg (l.take k) = true) (hm : k = 2 ∨ l.length < 2 ∨ isSg (l.take 2) = false) : sgnF l = k := by
  match l with
  | [] => simp at hkl; omega
  | [a] =>
    have : k = 1 := by simp at hkl; omega
    subst this
    rw [show List.take 1 [a] = [a] from rfl, isSg_one, decide_eq_true_eq] at h
    show (if _ then 1 else 0) = 1
    rw [if_pos h]
  | a :: b :: r =>
    rcases (by omega : k = 1 ∨ k = 2) with rfl | rfl
    · rw [show List.take 1 (a :: b :: r) = [a] from rfl, isSg_one, decide_eq_true_eq] at h
      rcases hm with hm | hm | hm
      · omega
      · simp only [List.length_cons] at hm
        omega
      · rw [show List.take 2 (a :: b :: r) = [a, b] from rfl, isSg_two, decide_eq_false_iff_not] at hm
        show (if _ then 2 else if _ then 1 else 0) = 1
        rw [if_neg hm, if_pos h]
    · rw [show List.take 2 (a :: b :: r) = [a, b] from rfl, isSg_two, decide_eq_true_eq] at h
      show (if _ then 2 else if _ then 1 else 0) = 2
      rw [if_pos h]
theorem sgnF_no (l : List UInt8) (h1 : l.length < 1 ∨ isSg (l.take 1) = false) (h2 : l.length < 2 ∨ isSg (l.take 2) = false) : sgnF l = 0 := by
  match l with
  | [] => rfl
  | [a] =>
    rcases h1 with h1 | h1
    · simp at h1
    · rw [show List.take 1 [a] = [a] from rfl, isSg_one, decide_eq_false_iff_not] at h1
      show (if _ then 1 else 0) = 0
      rw [if_neg h1]
  | a :: b :: r =>
    rcases h1 with h1 | h1
    · simp at h1
    · rcases h2 with h2 | h2
      · simp only [List.length_cons] at h2
        omega
      · rw [show List.take 1 (a :: b :: r) = [a] from rfl, isSg_one, decide_eq_false_iff_not] at h1
        rw [show List.take 2 (a :: b :: r) = [a, b] from rfl, isSg_two, decide_eq_false_iff_not] at h2
        show (if _ then 2 else if _ then 1 else 0) = 0
        rw [if_neg h2, if_neg h1]

theorem oneT_cons (c : UInt8) (r : List UInt8) : oneT (c :: r) = if c = 34 then quoT (c :: r) else if (dgt c || decide (c = 45)) = true then numT (c :: r) else if ltr c = true then worT ((c :: r).take (wordF (c :: r))) else sgnT (c :: r) := rfl
theorem tok_eta (x : Tok) : ∃ k t vk vf vn vt a, x = ⟨k, t, ⟨vk, vf, vn, vt⟩, a⟩ := ⟨_, _, _, _, _, _, _, rfl⟩
theorem call_tok {f : FuncId} {args : Array Value} {w : World} {x : Tok} (h : Calls Try.prog f args w fun e w' => e = .returned x.val ∧ Below w.heap.size w w') {k : Int} {t : ByteArray} {vk : Int} {vf : Bool} {vn : Int} {vt : ByteArray} {a : Int} (hx : x = ⟨k, t, ⟨vk, vf, vn, vt⟩, a⟩) :
    Calls Try.prog f args w fun e w' => e = .returned (.agg #[.int .i64 k, .string t, .int .i64 vk, .bool vf, .int .i64 vn, .string vt, .int .i64 a]) ∧ Below w.heap.size w w' := by
  subst hx
  exact h
end
end Go.Proofs.Ythdjkagodccdbaa
