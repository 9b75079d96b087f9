/-
  What tokens a text has, as plain lists of bytes: blanks left out, one token behind another, each with its kind, its bytes, its value, and where it begins.
  No condition.
-/
import Derived.Test.YtmdkjhnafnblkaaDoorRrd
namespace Go.Proofs.YtmdkjhnafnblkaaDoor
open Go.RowKit

def ltr (c : UInt8) : Bool := decide (97 ≤ c.toNat) && decide (c.toNat ≤ 122)
def dgt (c : UInt8) : Bool := decide (48 ≤ c.toNat) && decide (c.toNat ≤ 57)
def wch (c : UInt8) : Bool := ltr c || dgt c || decide (c = 95)
def blk (c : UInt8) : Bool := decide (c = 32) || decide (c = 10)

theorem tw_le (p : UInt8 → Bool) (l : List UInt8) : (l.takeWhile p).length ≤ l.length := (List.takeWhile_sublist p).length_le

/-- Where the quote that ends a text stands, behind it; 0: none does. -/
def txtF : List UInt8 → Nat → Nat
  | [], _ => 0
  | c :: r, i => if c = 92 then (match r with | [] => 0 | _ :: r' => txtF r' (i + 2)) else if c = 34 then i + 1 else txtF r (i + 1)
/-- How many bytes a sign has. -/
def sgnF : List UInt8 → Nat
  | [] => 0
  | [a] => if a = 40 ∨ a = 41 ∨ a = 44 ∨ a = 95 ∨ a = 60 ∨ a = 62 then 1 else 0
  | a :: b :: _ => if b = 61 ∧ (a = 61 ∨ a = 33 ∨ a = 60 ∨ a = 62) then 2 else if a = 40 ∨ a = 41 ∨ a = 44 ∨ a = 95 ∨ a = 60 ∨ a = 62 then 1 else 0
/-- How many bytes a number has. -/
def numF (l : List UInt8) : Nat := if l.head? = some 45 then 1 + (l.drop 1 |>.takeWhile dgt).length else (l.takeWhile dgt).length
def wordF (l : List UInt8) : Nat := (l.takeWhile wch).length

/-- A token: its kind, its bytes, its value, where it begins. -/
structure Tok where
  k : Int
  t : ByteArray
  v : V
  a : Int
abbrev Tok.val (x : Tok) : Value := .agg #[.int .i64 x.k, .string x.t, .int .i64 x.v.k, .bool x.v.f, .int .i64 x.v.n, .string x.v.t, .int .i64 x.a]

abbrev Tok.set (x : Tok) (a : Int) : Tok := ⟨x.k, x.t, x.v, a⟩

def noT : Tok := ⟨0, ⟨#[]⟩, noV, 0⟩
/-- The token of a value's word. -/
def conT (l : List UInt8) : Tok := if (readR l).2 = 0 then ⟨2, ⟨l.toArray⟩, (readR l).1, 0⟩ else noT
/-- The token of a word. -/
def worT (l : List UInt8) : Tok := if (readR l).2 = 0 then ⟨2, ⟨l.toArray⟩, (readR l).1, 0⟩ else ⟨1, ⟨l.toArray⟩, noV, 0⟩
/-- Does a letter or an underscore stand first? -/
def ltu (l : List UInt8) : Bool := match l with | [] => false | c :: _ => ltr c || decide (c = 95)
def numT (l : List UInt8) : Tok := if ltu (l.drop (numF l)) = true then noT else conT (l.take (numF l))
def sgnT (l : List UInt8) : Tok := if sgnF l = 0 then noT else ⟨3, ⟨(l.take (sgnF l)).toArray⟩, noV, 0⟩
def quoT (l : List UInt8) : Tok := if txtF (l.drop 1) 1 = 0 then noT else conT (l.take (txtF (l.drop 1) 1))
/-- The token with which a text goes on. -/
def oneT : List UInt8 → Tok
  | [] => ⟨4, ⟨#[]⟩, noV, 0⟩
  | c :: r => if c = 34 then quoT (c :: r) else if (dgt c || decide (c = 45)) = true then numT (c :: r) else if ltr c = true then worT ((c :: r).take (wordF (c :: r))) else sgnT (c :: r)

/-- The tokens of a text of n bytes whose last ones are l, up to the end, or the first one that is wrong. -/
def lexF : Nat → Nat → List UInt8 → List Tok
  | 0, _, _ => []
  | f + 1, n, l => (oneT (l.dropWhile blk)).set ((n : Int) - ((l.dropWhile blk).length : Int)) :: (if (oneT (l.dropWhile blk)).t.size = 0 then [] else lexF f n ((l.dropWhile blk).drop (oneT (l.dropWhile blk)).t.size))

theorem txtF_le : ∀ (r : List UInt8) (i : Nat), txtF r i ≤ i + r.length
  | [], i => by simp [txtF]
  | c :: r, i => by
    unfold txtF
    split
    · match r with
      | [] => simp
      | d :: r' =>
        have := txtF_le r' (i + 2)
        simp only [List.length_cons]
        omega
    · split
      · simp only [List.length_cons]
        omega
      · have := txtF_le r (i + 1)
        simp only [List.length_cons]
        omega
theorem txtF_pos : ∀ (r : List UInt8) (i : Nat), txtF r i = 0 ∨ i < txtF r i
  | [], i => .inl rfl
  | c :: r, i => by
    unfold txtF
    split
    · match r with
      | [] => exact .inl rfl
      | d :: r' =>
        rcases txtF_pos r' (i + 2) with h | h
        · exact .inl h
        · exact .inr (by show i < txtF r' (i + 2); omega)
    · split
      · exact .inr (by omega)
      · rcases txtF_pos r (i + 1) with h | h
        · exact .inl h
        · exact .inr (by omega)
theorem numF_le (l : List UInt8) : numF l ≤ l.length := by
  unfold numF
  split
  · have h := tw_le dgt (l.drop 1)
    rename_i h1
    cases l with
    | nil => simp at h1
    | cons c r =>
      simp only [List.drop_succ_cons, List.drop_zero, List.length_cons] at h ⊢
      omega
  · exact tw_le _ _
theorem sgnF_le (l : List UInt8) : sgnF l ≤ l.length := by
  unfold sgnF
  split
  · simp
  · split <;> simp
  · split
    · simp
    · split <;> simp
theorem wordF_le (l : List UInt8) : wordF l ≤ l.length := tw_le _ _
theorem conT_t (l : List UInt8) : (conT l).t = ⟨l.toArray⟩ ∨ conT l = noT := by
  unfold conT
  split
  · exact .inl rfl
  · exact .inr rfl
/-- A token's bytes are those with which the text goes on. -/
theorem oneT_take (l : List UInt8) : (oneT l).t.data.toList = l.take (oneT l).t.size := by
  have hc : ∀ n, n ≤ l.length → (conT (l.take n)).t.data.toList = l.take (conT (l.take n)).t.size := by
    intro n hn
    rcases conT_t (l.take n) with h | h
    · rw [h]
      have : (⟨(l.take n).toArray⟩ : ByteArray).size = n := by show (l.take n).toArray.size = n; simp; omega
      rw [this]
    · rw [h]; rfl
  match l with
  | [] => rfl
  | c :: r =>
    unfold oneT
    simp only
    split
    · unfold quoT
      split
      · rfl
      · refine hc _ ?_
        have := txtF_le ((c :: r).drop 1) 1
        simp at this ⊢
        omega
    · split
      · unfold numT
        split
        · rfl
        · exact hc _ (numF_le _)
      · split
        · have hw : ∀ n, n ≤ (c :: r).length → (worT ((c :: r).take n)).t.data.toList = (c :: r).take (worT ((c :: r).take n)).t.size := by
            intro n hn
            have e : (worT ((c :: r).take n)).t = ⟨((c :: r).take n).toArray⟩ := by
              unfold worT
              split <;> rfl
            rw [e]
            have : (⟨((c :: r).take n).toArray⟩ : ByteArray).size = n := by show ((c :: r).take n).toArray.size = n; rw [List.size_toArray, List.length_take]; omega
            rw [this]
          exact hw _ (wordF_le _)
        · unfold sgnT
          split
          · rfl
          · have : (⟨((c :: r).take (sgnF (c :: r))).toArray⟩ : ByteArray).size = sgnF (c :: r) := by
              show ((c :: r).take (sgnF (c :: r))).toArray.size = _
              rw [List.size_toArray, List.length_take]
              have := sgnF_le (c :: r)
              omega
            simp only
            rw [this]
theorem oneT_size (l : List UInt8) : (oneT l).t.size ≤ l.length := by
  have h := congrArg List.length (oneT_take l)
  rw [List.length_take] at h
  have e : (oneT l).t.data.toList.length = (oneT l).t.size := rfl
  omega
theorem drop_blk_le (l : List UInt8) : (l.dropWhile blk).length ≤ l.length := (List.dropWhile_sublist blk).length_le
theorem lexF_fuel : ∀ (f g n : Nat) (l : List UInt8), l.length < f → l.length < g → lexF f n l = lexF g n l
  | 0, _, _, _, h, _ => by omega
  | _, 0, _, _, _, h => by omega
  | f + 1, g + 1, n, l, hf, hg => by
    unfold lexF
    by_cases h : (oneT (l.dropWhile blk)).t.size = 0
    · rw [if_pos h, if_pos h]
    · rw [if_neg h, if_neg h]
      have h1 := oneT_size (l.dropWhile blk)
      have h2 := drop_blk_le l
      rw [lexF_fuel f g n _ (by rw [List.length_drop]; omega) (by rw [List.length_drop]; omega)]
/-- All tokens of a text. -/
def lexA (n : Nat) (l : List UInt8) : List Tok := lexF (l.length + 1) n l
theorem lexA_step (n : Nat) (l : List UInt8) : lexA n l = (oneT (l.dropWhile blk)).set ((n : Int) - ((l.dropWhile blk).length : Int)) :: (if (oneT (l.dropWhile blk)).t.size = 0 then [] else lexA n ((l.dropWhile blk).drop (oneT (l.dropWhile blk)).t.size)) := by
  show lexF (l.length + 1) n l = _
  unfold lexF
  by_cases h : (oneT (l.dropWhile blk)).t.size = 0
  · rw [if_pos h, if_pos h]
  · rw [if_neg h, if_neg h]
    have h1 := oneT_size (l.dropWhile blk)
    have h2 := drop_blk_le l
    unfold lexA
    rw [lexF_fuel l.length (((l.dropWhile blk).drop (oneT (l.dropWhile blk)).t.size).length + 1) n _ (by rw [List.length_drop]; omega) (by omega)]
theorem lexF_len : ∀ (f n : Nat) (l : List UInt8), (lexF f n l).length ≤ l.length + 1
  | 0, _, _ => by simp [lexF]
  | f + 1, n, l => by
    unfold lexF
    have h2 := drop_blk_le l
    split
    · simp
    · have h1 := oneT_size (l.dropWhile blk)
      have h3 := lexF_len f n ((l.dropWhile blk).drop (oneT (l.dropWhile blk)).t.size)
      rw [List.length_drop] at h3
      simp only [List.length_cons]
      omega
theorem lexA_len (n : Nat) (l : List UInt8) : (lexA n l).length ≤ l.length + 1 := lexF_len _ _ _

/-- What Read answers: the tokens, where, and why not. -/
def lexR (l : List UInt8) : List Tok × Int × Int :=
  if 300 < l.length then ([], 0, 9)
  else match (lexA l.length l).find? (fun t => decide (t.k = 0)) with
    | none => (lexA l.length l, 0, 0)
    | some t => ([], t.a, 7)
end Go.Proofs.YtmdkjhnafnblkaaDoor
