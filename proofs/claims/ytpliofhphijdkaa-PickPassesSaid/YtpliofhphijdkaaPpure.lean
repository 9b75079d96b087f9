/-
  Values and rows as bytes, and bytes as values and rows: plain lists, no Go in it.
  No condition.
-/
import Derived.Test.YtpliofhphijdkaaRcmp
namespace Go.Proofs.Ytpliofhphijdkaa

/-- A number that fits in 64 bits. -/
def Wide (v : V) : Prop := -9223372036854775808 ≤ v.n ∧ v.n ≤ 9223372036854775807
/-- The eight bytes of a number, the highest first. -/
def be : Nat → Nat → List UInt8
  | 0, _ => []
  | k + 1, u => UInt8.ofNat (u / 256 ^ k % 256) :: be k u
/-- A text's bytes, of which each 0 has a 255 behind. -/
def esc (l : List UInt8) : List UInt8 := l.flatMap fun c => if c = 0 then [0, 255] else [c]
/-- The number that stands for a number of 64 bits. -/
def up (n : Int) : Nat := (n + 9223372036854775808).toNat
/-- A value's bytes. -/
def valB (v : V) : List UInt8 :=
  if rightV v = true then (if v.k = 1 then [2, if v.f = true then 1 else 0] else if v.k = 2 then 3 :: be 8 (up v.n) else if v.k = 3 then 4 :: (esc v.t.data.toList ++ [0, 1]) else [1]) else []
/-- A row's bytes. -/
def rowB (xs : List V) : List UInt8 := if xs.all rightV = true then xs.flatMap valB ++ [0] else []

def noV : V := ⟨0, false, 0, ⟨#[]⟩⟩

/-- The text that bytes go on with; out is what was read of it. -/
def textR (out : List UInt8) (n : Nat) : List UInt8 → V × Nat × Int
  | [] => (noV, 0, 8)
  | c :: r =>
    if c = 0 then
      match r with
      | [] => (noV, 0, 8)
      | d :: r' => if d = 1 then (⟨3, false, 0, ⟨out.toArray⟩⟩, n + 2, 0) else if d = 255 then (if 60 ≤ out.length then (noV, 0, 9) else textR (out ++ [c]) (n + 2) r') else (noV, 0, 7)
    else if 60 ≤ out.length then (noV, 0, 9) else textR (out ++ [c]) (n + 1) r

/-- The number that bytes are, the highest first. -/
def unbe (l : List UInt8) : Nat := l.foldl (fun u c => u * 256 + c.toNat) 0

/-- The value that bytes begin with. -/
def firstR (b : List UInt8) : V × Nat × Int :=
  match b with
  | [] => (noV, 0, 8)
  | c :: r => if c = 1 then (noV, 1, 0) else if c = 2 then (match r with | [] => (noV, 0, 8) | d :: _ => if 1 < d.toNat then (noV, 0, 7) else (⟨1, d == 1, 0, ⟨#[]⟩⟩, 2, 0))
    else if c = 3 then (if r.length < 8 then (noV, 0, 8) else (⟨2, false, (unbe (r.take 8) : Int) - 9223372036854775808, ⟨#[]⟩⟩, 9, 0)) else if c = 4 then textR [] 1 r else (noV, 0, 7)

/-- The row that bytes are. -/
def backR : Nat → List V → List UInt8 → List V × Int
  | 0, _, _ => ([], 8)
  | fuel + 1, out, l => match l with
    | [] => ([], 8)
    | c :: r => if c = 0 then (if r = [] then (out, 0) else ([], 7)) else if (firstR (c :: r)).2.2 = 0 then backR fuel (out ++ [(firstR (c :: r)).1]) ((c :: r).drop (firstR (c :: r)).2.1) else ([], (firstR (c :: r)).2.2)

theorem textR_cons (out : List UInt8) (n : Nat) (c : UInt8) (r : List UInt8) : textR out n (c :: r) =
    if c = 0 then
      match r with
      | [] => (noV, 0, 8)
      | d :: r' => if d = 1 then (⟨3, false, 0, ⟨out.toArray⟩⟩, n + 2, 0) else if d = 255 then (if 60 ≤ out.length then (noV, 0, 9) else textR (out ++ [c]) (n + 2) r') else (noV, 0, 7)
    else if 60 ≤ out.length then (noV, 0, 9) else textR (out ++ [c]) (n + 1) r := by
  rw [textR.eq_def]
theorem firstR_cons (c : UInt8) (r : List UInt8) : firstR (c :: r) = if c = 1 then ((noV, 1, 0) : V × Nat × Int) else if c = 2 then (match r with | [] => (noV, 0, 8) | d :: _ => if 1 < d.toNat then (noV, 0, 7) else (⟨1, d == 1, 0, ⟨#[]⟩⟩, 2, 0) : V × Nat × Int)
    else if c = 3 then (if r.length < 8 then (noV, 0, 8) else (⟨2, false, (unbe (r.take 8) : Int) - 9223372036854775808, ⟨#[]⟩⟩, 9, 0)) else if c = 4 then textR [] 1 r else (noV, 0, 7) := by
  rw [firstR.eq_def]
theorem backR_cons (fuel : Nat) (out : List V) (c : UInt8) (r : List UInt8) : backR (fuel + 1) out (c :: r) =
    if c = 0 then (if r = [] then (out, 0) else ([], 7)) else if (firstR (c :: r)).2.2 = 0 then backR fuel (out ++ [(firstR (c :: r)).1]) ((c :: r).drop (firstR (c :: r)).2.1) else ([], (firstR (c :: r)).2.2) := by
  rw [backR.eq_def]
theorem cmpL_cons (a b : UInt8) (x y : List UInt8) : cmpL (a :: x) (b :: y) = if a < b then -1 else if b < a then 1 else cmpL x y := rfl

theorem esc_cons (c : UInt8) (l : List UInt8) : esc (c :: l) = (if c = 0 then [0, 255] else [c]) ++ esc l := rfl
theorem esc_append (a b : List UInt8) : esc (a ++ b) = esc a ++ esc b := by simp [esc]

theorem right_text {v : V} (h : rightV v = true) : v.t.data.toList.length ≤ 60 := by
  unfold rightV at h
  simp only [Bool.and_eq_true, decide_eq_true_eq] at h
  exact h.2

/-- A text's bytes are read as the text. -/
theorem text_back (rest : List UInt8) : ∀ (t out : List UInt8) (n : Nat), out.length + t.length ≤ 60 → textR out n (esc t ++ 0 :: 1 :: rest) = (⟨3, false, 0, ⟨(out ++ t).toArray⟩⟩, n + (esc t).length + 2, 0)
  | [], out, n, _ => by
    simp [esc, textR]
  | c :: t, out, n, h => by
    have h' : out.length + (t.length + 1) ≤ 60 := h
    have ih := fun m => text_back rest t (out ++ [c]) m (by simp; omega)
    have hn : ¬ 60 ≤ out.length := by omega
    rw [esc_cons]
    by_cases hc : c = 0
    · subst hc
      simp only [if_true, List.cons_append, List.nil_append]
      rw [textR_cons]
      simp only [if_true, if_neg hn]
      rw [if_neg (by decide), ih (n + 2)]
      simp only [List.append_assoc, List.cons_append, List.nil_append, List.length_cons]
      congr 2
      omega
    · simp only [if_neg hc, List.cons_append, List.nil_append]
      rw [textR_cons]
      simp only [if_neg hc, if_neg hn]
      rw [ih (n + 1)]
      simp only [List.append_assoc, List.cons_append, List.nil_append, List.length_cons]
      congr 2
      omega

theorem be_len : ∀ k u, (be k u).length = k
  | 0, _ => rfl
  | k + 1, u => by simp [be, be_len k u]
theorem fold_be : ∀ (k u acc : Nat), (be k u).foldl (fun u c => u * 256 + c.toNat) acc = acc * 256 ^ k + u % 256 ^ k
  | 0, u, acc => by simp [be, Nat.mod_one]
  | k + 1, u, acc => by
    have e : (UInt8.ofNat (u / 256 ^ k % 256)).toNat = u / 256 ^ k % 256 := by
      rw [UInt8.toNat_ofNat_of_lt']
      show _ < 256
      omega
    rw [be, List.foldl_cons, fold_be k u, e, Nat.pow_succ, Nat.mod_mul, Nat.add_mul]
    rw [Nat.mul_comm (u / 256 ^ k % 256), Nat.mul_assoc, Nat.mul_comm 256 (256 ^ k)]
    omega
theorem unbe_be (u : Nat) (h : u < 18446744073709551616) : unbe (be 8 u) = u := by
  unfold unbe
  rw [fold_be]
  rw [Nat.mod_eq_of_lt (by omega)]
  omega

theorem empty_data {t : ByteArray} (h : t.size = 0) : t = ⟨#[]⟩ := by
  apply ByteArray.ext
  apply Array.eq_empty_of_size_eq_zero
  exact h

/-- A value's bytes are read as the value, whatever is behind them. -/
theorem first_back (v : V) (hr : rightV v = true) (hw : Wide v) (rest : List UInt8) : firstR (valB v ++ rest) = (v, (valB v).length, 0) := by
  have hl := right_text hr
  obtain ⟨k, f, n, t⟩ := v
  obtain ⟨w0, w1⟩ := hw
  unfold valB
  rw [if_pos hr]
  unfold rightV at hr
  simp only [Bool.and_eq_true, decide_eq_true_eq, Bool.or_eq_true, beq_iff_eq, Bool.not_eq_true'] at hr w0 w1 hl
  obtain ⟨⟨⟨⟨⟨k0, k3⟩, hf⟩, hn⟩, ht⟩, _⟩ := hr
  by_cases h1 : k = 1
  · subst h1
    have e1 : n = 0 := by omega
    have e2 : t = ⟨#[]⟩ := empty_data (by omega)
    subst e1 e2
    cases f <;> rfl
  · have hff : f = false := by
      rcases hf with hf | hf
      · exact absurd hf h1
      · exact hf
    subst hff
    by_cases h2 : k = 2
    · subst h2
      have e2 : t = ⟨#[]⟩ := empty_data (by omega)
      subst e2
      have hu : ((up n : Nat) : Int) = n + 9223372036854775808 := by unfold up; omega
      have hlt : up n < 18446744073709551616 := by omega
      have hb := be_len 8 (up n)
      simp only [Int.reduceEq, if_false, if_true, List.cons_append]
      rw [firstR_cons]
      have hk : (be 8 (up n) ++ rest).take 8 = be 8 (up n) := by rw [List.take_append_of_le_length (by omega), List.take_of_length_le (by omega)]
      rw [if_neg (by decide), if_neg (by decide), if_pos rfl, if_neg (by simp; omega), hk, unbe_be _ hlt, hu]
      simp only [List.length_cons, hb]
      congr 2
      omega
    · have e1 : n = 0 := by omega
      subst e1
      by_cases h3 : k = 3
      · subst h3
        simp only [Int.reduceEq, if_false, if_true, List.cons_append, List.append_assoc, List.nil_append]
        rw [firstR_cons]
        rw [if_neg (by decide), if_neg (by decide), if_neg (by decide), if_pos rfl, text_back rest _ _ _ (by simpa using hl)]
        simp only [List.nil_append, Array.toArray_toList, List.length_cons, List.length_append, List.length_nil]
        congr 2
        omega
      · have e2 : t = ⟨#[]⟩ := empty_data (by omega)
        have e3 : k = 0 := by omega
        subst e2 e3
        rfl

theorem valB_head (v : V) (hr : rightV v = true) : ∃ c r, valB v = c :: r ∧ c ≠ 0 := by
  unfold valB
  rw [if_pos hr]
  split
  · exact ⟨_, _, rfl, by decide⟩
  · split
    · exact ⟨_, _, rfl, by decide⟩
    · split
      · exact ⟨_, _, rfl, by decide⟩
      · exact ⟨_, _, rfl, by decide⟩

/-- A row's bytes are read as the row. -/
theorem back_row : ∀ (xs out : List V) (fuel : Nat), xs.length < fuel → xs.all rightV = true → (∀ v ∈ xs, Wide v) → backR fuel out (xs.flatMap valB ++ [0]) = (out ++ xs, 0)
  | [], out, fuel, hf, _, _ => by
    obtain ⟨f, rfl⟩ : ∃ f, fuel = f + 1 := ⟨fuel - 1, by simp at hf; omega⟩
    simp [backR]
  | v :: xs, out, fuel, hf, ha, hw => by
    obtain ⟨f, rfl⟩ : ∃ f, fuel = f + 1 := ⟨fuel - 1, by simp at hf; omega⟩
    rw [List.all_cons, Bool.and_eq_true] at ha
    have hv := ha.1
    have ih := back_row xs (out ++ [v]) f (by simpa using hf) ha.2 (fun u hu => hw u (by simp [hu]))
    obtain ⟨c, r, hc, h0⟩ := valB_head v hv
    have hfst := first_back v hv (hw v (by simp)) (xs.flatMap valB ++ [0])
    rw [List.flatMap_cons, List.append_assoc]
    have hdrop : (valB v ++ (xs.flatMap valB ++ [0])).drop (valB v).length = xs.flatMap valB ++ [0] := by simp
    generalize xs.flatMap valB ++ [0] = rest at *
    rw [hc] at hfst hdrop ⊢
    rw [List.cons_append] at hfst hdrop ⊢
    rw [backR_cons]
    simp only [if_neg h0, hfst, if_true, hdrop, ih]
    simp

theorem be_unbe : ∀ (l : List UInt8) (acc : Nat), be l.length (l.foldl (fun u c => u * 256 + c.toNat) acc) = l
  | [], _ => rfl
  | c :: l, acc => by
    have key : ∀ (k u v : Nat), u % 256 ^ k = v % 256 ^ k → be k u = be k v := by
      intro k
      induction k with
      | zero => intro u v _; rfl
      | succ k ih =>
        intro u v h
        have h1 : u % 256 ^ k = v % 256 ^ k := by
          have := congrArg (· % 256 ^ k) h
          simpa [Nat.pow_succ, Nat.mod_mul_right_mod] using this
        have h2 : u / 256 ^ k % 256 = v / 256 ^ k % 256 := by
          have := congrArg (· / 256 ^ k) h
          simpa [Nat.pow_succ, Nat.mod_mul_right_div_self] using this
        rw [be, be, h2, ih u v h1]
    have hf : ∀ (l : List UInt8) (acc : Nat), l.foldl (fun u c => u * 256 + c.toNat) acc = acc * 256 ^ l.length + l.foldl (fun u c => u * 256 + c.toNat) 0 ∧ l.foldl (fun u c => u * 256 + c.toNat) 0 < 256 ^ l.length := by
      intro l
      induction l with
      | nil => intro acc; simp
      | cons c l ih =>
        intro acc
        have i1 := (ih (acc * 256 + c.toNat)).1
        have i2 := (ih (0 * 256 + c.toNat)).1
        have i3 := (ih 0).2
        have hc := c.toNat_lt
        rw [List.foldl_cons, List.foldl_cons, i1, i2, List.length_cons, Nat.pow_succ]
        refine ⟨?_, ?_⟩
        · simp only [Nat.add_mul, Nat.zero_mul, Nat.zero_add, Nat.mul_assoc, Nat.mul_comm 256]
          omega
        · have := Nat.mul_le_mul_right (256 ^ l.length) (show 0 * 256 + c.toNat ≤ 255 by omega)
          omega
    rw [List.foldl_cons, List.length_cons, be, be_unbe l _]
    congr 1
    obtain ⟨h1, h2⟩ := hf l (acc * 256 + c.toNat)
    have hp : 0 < 256 ^ l.length := Nat.pow_pos (by omega)
    rw [h1, Nat.add_comm, Nat.add_mul_div_right _ _ hp, Nat.div_eq_of_lt h2, Nat.zero_add, Nat.mul_comm acc, Nat.mul_add_mod]
    have hc := c.toNat_lt
    rw [Nat.mod_eq_of_lt (by omega)]
    simp

/-- What is read of a text is its bytes. -/
theorem text_said : ∀ (l out : List UInt8) (n : Nat) (v : V) (m : Nat), out.length ≤ 60 → textR out n l = (v, m, 0) →
    ∃ t : List UInt8, v = ⟨3, false, 0, ⟨(out ++ t).toArray⟩⟩ ∧ (out ++ t).length ≤ 60 ∧ m = n + (esc t).length + 2 ∧ ∃ rest, l = esc t ++ 0 :: 1 :: rest
  | [], _, _, _, _, _, h => by simp [textR] at h
  | c :: r, out, n, v, m, hl, h => by
    rw [textR_cons] at h
    by_cases hc : c = 0
    · rw [if_pos hc] at h
      match r, h with
      | [], h => simp at h
      | d :: r', h =>
        simp only at h
        by_cases h1 : d = 1
        · subst h1
          rw [if_pos rfl] at h
          simp only [Prod.mk.injEq, and_true] at h
          obtain ⟨rfl, rfl⟩ := h
          exact ⟨[], by simp, by simpa using hl, by simp [esc], r', by rw [hc]; rfl⟩
        · rw [if_neg h1] at h
          by_cases h2 : d = 255
          · subst h2
            rw [if_pos rfl] at h
            by_cases h3 : 60 ≤ out.length
            · rw [if_pos h3] at h
              simp at h
            · rw [if_neg h3] at h
              obtain ⟨t, e1, e2, e3, rest, e4⟩ := text_said r' (out ++ [c]) (n + 2) v m (by simp; omega) h
              refine ⟨c :: t, by simpa using e1, by simpa using e2, ?_, rest, ?_⟩
              · rw [esc_cons, if_pos hc]
                simp only [List.length_append, List.length_cons, List.length_nil]
                omega
              · rw [esc_cons, if_pos hc, e4, hc]
                rfl
          · rw [if_neg h2] at h
            simp at h
    · rw [if_neg hc] at h
      by_cases h3 : 60 ≤ out.length
      · rw [if_pos h3] at h
        simp at h
      · rw [if_neg h3] at h
        obtain ⟨t, e1, e2, e3, rest, e4⟩ := text_said r (out ++ [c]) (n + 1) v m (by simp; omega) h
        refine ⟨c :: t, by simpa using e1, by simpa using e2, ?_, rest, ?_⟩
        · rw [esc_cons, if_neg hc]
          simp only [List.length_append, List.length_cons, List.length_nil]
          omega
        · rw [esc_cons, if_neg hc, e4]
          rfl

theorem first_said (b : List UInt8) (v : V) (m : Nat) (h : firstR b = (v, m, 0)) : rightV v = true ∧ Wide v ∧ 1 ≤ m ∧ m = (valB v).length ∧ ∃ rest, b = valB v ++ rest := by
  match b, h with
  | [], h => simp [firstR] at h
  | c :: r, h =>
    rw [firstR_cons] at h
    by_cases h1 : c = 1
    · rw [if_pos h1] at h
      simp only [Prod.mk.injEq, and_true] at h
      obtain ⟨rfl, rfl⟩ := h
      exact ⟨rfl, by constructor <;> decide, by decide, rfl, r, by rw [h1]; rfl⟩
    rw [if_neg h1] at h
    by_cases h2 : c = 2
    · rw [if_pos h2] at h
      match r, h with
      | [], h => simp at h
      | d :: r', h =>
        simp only at h
        by_cases hd : 1 < d.toNat
        · rw [if_pos hd] at h
          simp at h
        · rw [if_neg hd] at h
          simp only [Prod.mk.injEq, and_true] at h
          obtain ⟨rfl, rfl⟩ := h
          have hdd : d = 0 ∨ d = 1 := by
            rcases (show d.toNat = 0 ∨ d.toNat = 1 from by omega) with e | e
            · exact .inl (UInt8.toNat_inj.1 e)
            · exact .inr (UInt8.toNat_inj.1 e)
          rcases hdd with rfl | rfl
          · exact ⟨rfl, by constructor <;> decide, by decide, rfl, r', by rw [h2]; rfl⟩
          · exact ⟨rfl, by constructor <;> decide, by decide, rfl, r', by rw [h2]; rfl⟩
    rw [if_neg h2] at h
    by_cases h3 : c = 3
    · rw [if_pos h3] at h
      by_cases hl : r.length < 8
      · rw [if_pos hl] at h
        simp at h
      · rw [if_neg hl] at h
        simp only [Prod.mk.injEq, and_true] at h
        obtain ⟨rfl, rfl⟩ := h
        have hlen : (r.take 8).length = 8 := by rw [List.length_take]; omega
        have hb := be_unbe (r.take 8) 0
        rw [hlen] at hb
        have hlt : unbe (r.take 8) < 18446744073709551616 := by
          have : ∀ (l : List UInt8) (acc : Nat), l.foldl (fun u c => u * 256 + c.toNat) acc < (acc + 1) * 256 ^ l.length := by
            intro l
            induction l with
            | nil => intro acc; simp
            | cons c l ih =>
              intro acc
              have := ih (acc * 256 + c.toNat)
              have hc := c.toNat_lt
              rw [List.foldl_cons, List.length_cons, Nat.pow_succ]
              have h9 := Nat.mul_le_mul_right (256 ^ l.length) (show acc * 256 + c.toNat + 1 ≤ (acc + 1) * 256 by omega)
              rw [Nat.mul_comm (256 ^ l.length) 256, ← Nat.mul_assoc]
              omega
          have h9 := this (r.take 8) 0
          rw [hlen] at h9
          unfold unbe
          omega
        have hr : rightV ⟨2, false, (unbe (r.take 8) : Int) - 9223372036854775808, ⟨#[]⟩⟩ = true := by
          unfold rightV
          simp only [Bool.and_eq_true, decide_eq_true_eq, Bool.or_eq_true, beq_iff_eq]
          exact ⟨⟨⟨⟨⟨by omega, by omega⟩, .inr rfl⟩, .inl trivial⟩, .inr rfl⟩, Nat.zero_le _⟩
        have hv : valB ⟨2, false, (unbe (r.take 8) : Int) - 9223372036854775808, ⟨#[]⟩⟩ = 3 :: r.take 8 := by
          unfold valB
          rw [if_pos hr]
          simp only [Int.reduceEq, if_false, if_true]
          have : up ((unbe (r.take 8) : Int) - 9223372036854775808) = unbe (r.take 8) := by unfold up; omega
          rw [this]
          unfold unbe
          rw [hb]
        refine ⟨hr, ⟨by simp only; omega, by simp only; omega⟩, by decide, ?_, r.drop 8, ?_⟩
        · rw [hv, List.length_cons, hlen]
        · rw [hv, h3, List.cons_append, List.take_append_drop]
    rw [if_neg h3] at h
    by_cases h4 : c = 4
    · rw [if_pos h4] at h
      obtain ⟨t, e1, e2, e3, rest, e4⟩ := text_said r [] 1 v m (by simp) h
      subst e1
      have hr : rightV ⟨3, false, 0, ⟨([] ++ t).toArray⟩⟩ = true := by
        have : t.length ≤ 60 := by simpa using e2
        unfold rightV
        simp only [Bool.and_eq_true, decide_eq_true_eq, Bool.or_eq_true, beq_iff_eq]
        exact ⟨⟨⟨⟨⟨by omega, by omega⟩, .inr rfl⟩, .inr trivial⟩, .inl trivial⟩, this⟩
      have hv : valB ⟨3, false, 0, ⟨([] ++ t).toArray⟩⟩ = 4 :: (esc t ++ [0, 1]) := by
        unfold valB
        rw [if_pos hr]
        simp
      refine ⟨hr, ⟨by simp only; omega, by simp only; omega⟩, by omega, ?_, rest, ?_⟩
      · rw [hv]
        simp only [List.length_cons, List.length_append, List.length_nil]
        omega
      · rw [hv, h4, e4]
        simp
    · rw [if_neg h4] at h
      simp at h

/-- What is read as a row is the row's bytes. -/
theorem back_said : ∀ (fuel : Nat) (out z : List V) (l : List UInt8), backR fuel out l = (z, 0) → ∃ ys, z = out ++ ys ∧ ys.all rightV = true ∧ l = ys.flatMap valB ++ [0]
  | 0, _, _, _, h => by simp [backR] at h
  | fuel + 1, out, z, l, h => by
    match l, h with
    | [], h => simp [backR] at h
    | c :: r, h =>
      rw [backR_cons] at h
      by_cases h0 : c = 0
      · rw [if_pos h0] at h
        by_cases hr : r = []
        · rw [if_pos hr] at h
          simp only [Prod.mk.injEq, and_true] at h
          exact ⟨[], by simp [h], rfl, by rw [h0, hr]; rfl⟩
        · rw [if_neg hr] at h
          simp at h
      · rw [if_neg h0] at h
        by_cases h1 : (firstR (c :: r)).2.2 = 0
        · rw [if_pos h1] at h
          obtain ⟨ys, e1, e2, e3⟩ := back_said fuel _ z _ h
          obtain ⟨hr, _, _, hm, rest, hb⟩ := first_said (c :: r) (firstR (c :: r)).1 (firstR (c :: r)).2.1 (by rw [← h1])
          generalize (firstR (c :: r)).1 = v at *
          generalize (firstR (c :: r)).2.1 = m at *
          refine ⟨v :: ys, by simpa using e1, by simp [hr, e2], ?_⟩
          rw [hb, hm, List.drop_left] at e3
          rw [hb, e3]
          simp
        · rw [if_neg h1] at h
          simp only [Prod.mk.injEq] at h
          exact absurd h.2 h1

theorem cmpL_same (x : UInt8) (l r : List UInt8) : cmpL (x :: l) (x :: r) = cmpL l r := by
  have h : ¬ x < x := by rw [UInt8.lt_iff_toNat_lt]; omega
  rw [cmpL_cons, if_neg h, if_neg h]

theorem cmp_be (x y : List UInt8) : ∀ (k u v : Nat), cmpL (be k u ++ x) (be k v ++ y) = if u % 256 ^ k < v % 256 ^ k then -1 else if v % 256 ^ k < u % 256 ^ k then 1 else cmpL x y
  | 0, u, v => by simp [be, Nat.mod_one]
  | k + 1, u, v => by
    have ih := cmp_be x y k u v
    have hp : 0 < 256 ^ k := Nat.pow_pos (by omega)
    have m1 := Nat.mod_lt u hp
    have m2 := Nat.mod_lt v hp
    have e : ∀ u : Nat, (UInt8.ofNat (u / 256 ^ k % 256)).toNat = u / 256 ^ k % 256 := by
      intro u
      rw [UInt8.toNat_ofNat_of_lt']
      show _ < 256
      omega
    rw [be, be, List.cons_append, List.cons_append, cmpL_cons, ih]
    simp only [UInt8.lt_iff_toNat_lt, e]
    rw [Nat.pow_succ, Nat.mod_mul, Nat.mod_mul]
    generalize u / 256 ^ k % 256 = p
    generalize v / 256 ^ k % 256 = q
    generalize u % 256 ^ k = a at *
    generalize v % 256 ^ k = b at *
    generalize 256 ^ k = s at *
    rcases Nat.lt_trichotomy p q with h | h | h
    · have := Nat.mul_le_mul_left s h
      rw [Nat.mul_succ] at this
      rw [if_pos h, if_pos (by omega)]
    · subst h
      simp only [Nat.lt_irrefl, if_false, Nat.add_lt_add_iff_right]
    · have := Nat.mul_le_mul_left s h
      rw [Nat.mul_succ] at this
      rw [if_neg (by omega), if_pos h, if_neg (by omega), if_pos (by omega)]

theorem cmp_esc (x y : List UInt8) : ∀ (s t : List UInt8), cmpL (esc s ++ 0 :: 1 :: x) (esc t ++ 0 :: 1 :: y) = if cmpL s t = 0 then cmpL x y else cmpL s t
  | [], [] => by
    simp only [esc, List.flatMap_nil, List.nil_append]
    rw [cmpL_same, cmpL_same]
    rfl
  | [], c :: t => by
    rw [esc_cons]
    by_cases hc : c = 0
    · subst hc
      simp only [esc, List.flatMap_nil, List.nil_append, if_true, List.cons_append]
      rw [cmpL_same]
      rfl
    · simp only [esc, List.flatMap_nil, List.nil_append, if_neg hc, List.cons_append]
      have : (0 : UInt8) < c := by
        rw [UInt8.lt_iff_toNat_lt]
        have : c.toNat ≠ 0 := fun h => hc (UInt8.toNat_inj.1 h)
        show 0 < c.toNat
        omega
      rw [cmpL_cons, if_pos this]
      rfl
  | c :: s, [] => by
    rw [esc_cons]
    by_cases hc : c = 0
    · subst hc
      simp only [esc, List.flatMap_nil, List.nil_append, if_true, List.cons_append]
      rw [cmpL_same]
      rfl
    · simp only [esc, List.flatMap_nil, List.nil_append, if_neg hc, List.cons_append]
      have h1 : (0 : UInt8) < c := by
        rw [UInt8.lt_iff_toNat_lt]
        have : c.toNat ≠ 0 := fun h => hc (UInt8.toNat_inj.1 h)
        show 0 < c.toNat
        omega
      have h2 : ¬ c < 0 := by rw [UInt8.lt_iff_toNat_lt]; exact Nat.not_lt_zero _
      rw [cmpL_cons, if_neg h2, if_pos h1]
      rfl
  | c :: s, d :: t => by
    have ih := cmp_esc x y s t
    rw [esc_cons, esc_cons]
    by_cases hc : c = 0 <;> by_cases hd : d = 0
    · subst hc hd
      simp only [if_true, List.cons_append, List.nil_append]
      rw [cmpL_same, cmpL_same, ih, cmpL_same]
    · subst hc
      simp only [if_true, if_neg hd, List.cons_append, List.nil_append]
      have h1 : (0 : UInt8) < d := by
        rw [UInt8.lt_iff_toNat_lt]
        have : d.toNat ≠ 0 := fun h => hd (UInt8.toNat_inj.1 h)
        show 0 < d.toNat
        omega
      rw [cmpL_cons, if_pos h1, cmpL_cons, if_pos h1]
      rfl
    · subst hd
      simp only [if_true, if_neg hc, List.cons_append, List.nil_append]
      have h1 : (0 : UInt8) < c := by
        rw [UInt8.lt_iff_toNat_lt]
        have : c.toNat ≠ 0 := fun h => hc (UInt8.toNat_inj.1 h)
        show 0 < c.toNat
        omega
      have h2 : ¬ c < 0 := by rw [UInt8.lt_iff_toNat_lt]; exact Nat.not_lt_zero _
      rw [cmpL_cons, if_neg h2, if_pos h1, cmpL_cons, if_neg h2, if_pos h1]
      rfl
    · simp only [if_neg hc, if_neg hd, List.cons_append, List.nil_append]
      rw [cmpL_cons, cmpL_cons, ih]
      by_cases h1 : c < d
      · rw [if_pos h1, if_pos h1]
        rfl
      · rw [if_neg h1, if_neg h1]
        by_cases h2 : d < c
        · rw [if_pos h2, if_pos h2]
          rfl
        · rw [if_neg h2, if_neg h2]

/-- The bytes of two values stand in the values' order. -/
theorem cmp_valB (u v : V) (hu : rightV u = true) (hv : rightV v = true) (wu : Wide u) (wv : Wide v) (x y : List UInt8) : cmpL (valB u ++ x) (valB v ++ y) = if cmpV u v = 0 then cmpL x y else cmpV u v := by
  obtain ⟨k, f, n, t⟩ := u
  obtain ⟨k', f', n', t'⟩ := v
  obtain ⟨w0, w1⟩ := wu
  obtain ⟨x0, x1⟩ := wv
  unfold valB
  rw [if_pos hu, if_pos hv]
  unfold rightV at hu hv
  simp only [Bool.and_eq_true, decide_eq_true_eq, Bool.or_eq_true, beq_iff_eq, Bool.not_eq_true'] at hu hv w0 w1 x0 x1
  obtain ⟨⟨⟨⟨⟨k0, k3⟩, hf⟩, hn⟩, ht⟩, hl⟩ := hu
  obtain ⟨⟨⟨⟨⟨k0', k3'⟩, hf'⟩, hn'⟩, ht'⟩, hl'⟩ := hv
  unfold cmpV
  simp only [cmpS_list]
  have hk : k = 0 ∨ k = 1 ∨ k = 2 ∨ k = 3 := by omega
  have hk' : k' = 0 ∨ k' = 1 ∨ k' = 2 ∨ k' = 3 := by omega
  rcases hk with rfl | rfl | rfl | rfl <;> rcases hk' with rfl | rfl | rfl | rfl
  all_goals simp only [Int.reduceEq, Int.reduceLT, if_true, if_false, List.cons_append, List.nil_append, List.append_assoc]
  all_goals (first
    | (rw [cmpL_cons, if_pos (by decide)]; done)
    | (rw [cmpL_cons, if_neg (by decide), if_pos (by decide)]; done)
    | skip)
  · rw [cmpL_same]
  · rw [cmpL_same]
    cases f <;> cases f' <;> simp [cmpL, cmpB]
  · rw [cmpL_same, cmp_be]
    have e : ((up n : Nat) : Int) = n + 9223372036854775808 := by unfold up; omega
    have e' : ((up n' : Nat) : Int) = n' + 9223372036854775808 := by unfold up; omega
    rw [Nat.mod_eq_of_lt (by omega), Nat.mod_eq_of_lt (by omega)]
    unfold cmpI
    by_cases h1 : n < n'
    · rw [if_pos (by omega), if_pos h1]
      rfl
    · rw [if_neg (by omega), if_neg h1]
      by_cases h2 : n' < n
      · rw [if_pos (by omega), if_pos h2]
        rfl
      · rw [if_neg (by omega), if_neg h2]
        rfl
  · rw [cmpL_same, cmp_esc]

/-- Rows whose values can be are in the order of their bytes. -/
theorem cmp_rowB : ∀ (xs ys : List V), xs.all rightV = true → ys.all rightV = true → (∀ v ∈ xs, Wide v) → (∀ v ∈ ys, Wide v) → cmpL (xs.flatMap valB ++ [0]) (ys.flatMap valB ++ [0]) = cmpR xs ys
  | [], [], _, _, _, _ => by decide
  | [], y :: ys, _, hy, _, _ => by
    rw [List.all_cons, Bool.and_eq_true] at hy
    obtain ⟨c, r, hc, h0⟩ := valB_head y hy.1
    rw [List.flatMap_cons, hc]
    simp only [List.flatMap_nil, List.nil_append, List.cons_append]
    have : (0 : UInt8) < c := by
      rw [UInt8.lt_iff_toNat_lt]
      have : c.toNat ≠ 0 := fun h => h0 (UInt8.toNat_inj.1 h)
      show 0 < c.toNat
      omega
    rw [cmpL_cons, if_pos this]
    rfl
  | x :: xs, [], hx, _, _, _ => by
    rw [List.all_cons, Bool.and_eq_true] at hx
    obtain ⟨c, r, hc, h0⟩ := valB_head x hx.1
    rw [List.flatMap_cons, hc]
    simp only [List.flatMap_nil, List.nil_append, List.cons_append]
    have h1 : (0 : UInt8) < c := by
      rw [UInt8.lt_iff_toNat_lt]
      have : c.toNat ≠ 0 := fun h => h0 (UInt8.toNat_inj.1 h)
      show 0 < c.toNat
      omega
    have h2 : ¬ c < 0 := by rw [UInt8.lt_iff_toNat_lt]; exact Nat.not_lt_zero _
    rw [cmpL_cons, if_neg h2, if_pos h1]
    rfl
  | x :: xs, y :: ys, hx, hy, wx, wy => by
    rw [List.all_cons, Bool.and_eq_true] at hx hy
    have ih := cmp_rowB xs ys hx.2 hy.2 (fun v hv => wx v (by simp [hv])) (fun v hv => wy v (by simp [hv]))
    rw [List.flatMap_cons, List.flatMap_cons, List.append_assoc, List.append_assoc, cmp_valB x y hx.1 hy.1 (wx x (by simp)) (wy y (by simp)), ih]
    rfl
end Go.Proofs.Ytpliofhphijdkaa
