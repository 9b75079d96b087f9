/-
  Numbers in digits of base 2^16: plain lists, no Go in it.
  No condition.
-/
import Derived.Test.YtdlimephkjihbaaProg
namespace Go.Proofs.Ytdlimephkjihbaa
/-- The number that digits of base 2^16 are, the lowest first. -/
def val : List Nat → Nat
  | [] => 0
  | d :: ds => d + 65536 * val ds

/-- A digit; 0 beyond. -/
def dg (ds : List Nat) (i : Nat) : Nat := ds.getD i 0
/-- All digits are digits, and there are no more than twenty. -/
def Dig (ds : List Nat) : Prop := ds.length ≤ 20 ∧ ∀ d ∈ ds, d < 65536

theorem val_drop (ds : List Nat) (i : Nat) : val (ds.drop i) = dg ds i + 65536 * val (ds.drop (i + 1)) := by
  unfold dg
  by_cases h : i < ds.length
  · rw [List.drop_eq_getElem_cons h, List.getD_eq_getElem?_getD, List.getElem?_eq_getElem h]
    rfl
  · rw [List.drop_of_length_le (by omega), List.drop_of_length_le (by omega), List.getD_eq_getElem?_getD, List.getElem?_eq_none (by omega)]
    rfl
theorem dg_lt (ds : List Nat) (h : Dig ds) (i : Nat) : dg ds i < 65536 := by
  unfold dg
  rw [List.getD_eq_getElem?_getD]
  cases hi : ds[i]? with
  | none => simp
  | some d => exact h.2 d (List.mem_of_getElem? hi)
theorem val_end (ds : List Nat) (h : Dig ds) (i : Nat) (hi : 20 ≤ i) : val (ds.drop i) = 0 := by
  have := h.1
  rw [List.drop_of_length_le (by omega)]
  rfl
theorem val_lt : ∀ (ds : List Nat), (∀ d ∈ ds, d < 65536) → val ds < 65536 ^ ds.length
  | [], _ => by simp [val]
  | d :: ds, h => by
    have h1 := h d (by simp)
    have h2 := val_lt ds (fun x hx => h x (by simp [hx]))
    rw [List.length_cons, Nat.pow_succ]
    unfold val
    omega
theorem val_append : ∀ (xs ys : List Nat), val (xs ++ ys) = val xs + 65536 ^ xs.length * val ys
  | [], ys => by simp [val]
  | x :: xs, ys => by
    rw [List.cons_append, val, val, val_append xs ys, List.length_cons, Nat.pow_succ]
    rw [Nat.mul_comm (65536 ^ xs.length) 65536, Nat.mul_add, Nat.mul_assoc]
    omega
theorem val_snoc (xs : List Nat) (d : Nat) : val (xs ++ [d]) = val xs + 65536 ^ xs.length * d := by
  rw [val_append]
  simp [val]
theorem dig_snoc {xs : List Nat} {d : Nat} (h : ∀ x ∈ xs, x < 65536) (hd : d < 65536) : ∀ x ∈ xs ++ [d], x < 65536 := by
  intro x hx
  rcases List.mem_append.1 hx with hx | hx
  · exact h x hx
  · have : x = d := by simpa using hx
    omega

/-- Which of two is nearer to 0 is told by the first digits, from above, that are not the same. -/
theorem val_less (a b : List Nat) (ha : Dig a) (hb : Dig b) : ∀ i : Nat, val (a.drop i) < val (b.drop i) → val a < val b
  | 0, h => by simpa using h
  | i + 1, h => by
    refine val_less a b ha hb i ?_
    rw [val_drop a i, val_drop b i]
    have := dg_lt a ha i
    have := dg_lt b hb i
    omega
theorem val_same (a b : List Nat) (i : Nat) (h : val (a.drop (i + 1)) = val (b.drop (i + 1))) (hd : dg a i = dg b i) : val (a.drop i) = val (b.drop i) := by
  rw [val_drop a i, val_drop b i, h, hd]
theorem val_at (a b : List Nat) (i : Nat) (h : val (a.drop (i + 1)) = val (b.drop (i + 1))) (hd : dg a i < dg b i) : val (a.drop i) < val (b.drop i) := by
  rw [val_drop a i, val_drop b i, h]
  omega

/-- A sum, digit by digit. -/
theorem add_step (a b out : List Nat) (i carry : Nat) (hl : out.length = i) (h : val out + 65536 ^ i * (carry + val (a.drop i) + val (b.drop i)) = val a + val b) :
    val (out ++ [(dg a i + dg b i + carry) % 65536]) + 65536 ^ (i + 1) * ((dg a i + dg b i + carry) / 65536 + val (a.drop (i + 1)) + val (b.drop (i + 1))) = val a + val b := by
  rw [← h, val_snoc, hl, val_drop a i, val_drop b i, Nat.pow_succ, Nat.mul_assoc (65536 ^ i) 65536, Nat.add_assoc, ← Nat.mul_add]
  congr 2
  omega
theorem add_end (a b out : List Nat) (carry : Nat) (hlt : val a + val b < 65536 ^ 20) (h : val out + 65536 ^ 20 * (carry + val (a.drop 20) + val (b.drop 20)) = val a + val b) : val out = val a + val b := by
  have : carry + val (a.drop 20) + val (b.drop 20) = 0 := by
    rcases Nat.eq_zero_or_pos (carry + val (a.drop 20) + val (b.drop 20)) with h0 | h0
    · exact h0
    · have := Nat.mul_le_mul_left (65536 ^ 20) h0
      omega
  rw [this] at h
  omega

/-- A difference, digit by digit. -/
theorem sub_step (a b out : List Nat) (i borrow : Nat) (hl : out.length = i) (hb : borrow ≤ 1) (hbd : Dig b) (had : Dig a) (h : val out + val b + 65536 ^ i * val (a.drop i) = val a + 65536 ^ i * (val (b.drop i) + borrow)) :
    val (out ++ [(dg a i + 65536 - dg b i - borrow) % 65536]) + val b + 65536 ^ (i + 1) * val (a.drop (i + 1)) = val a + 65536 ^ (i + 1) * (val (b.drop (i + 1)) + (1 - (dg a i + 65536 - dg b i - borrow) / 65536)) ∧ 1 - (dg a i + 65536 - dg b i - borrow) / 65536 ≤ 1 := by
  refine ⟨?_, by omega⟩
  have h1 := dg_lt a had i
  have h2 := dg_lt b hbd i
  rw [val_drop a i, val_drop b i] at h
  rw [val_snoc, hl, Nat.pow_succ, Nat.mul_assoc (65536 ^ i) 65536, Nat.mul_assoc (65536 ^ i) 65536]
  generalize 65536 ^ i = p at *
  generalize val (a.drop (i + 1)) = x at *
  generalize val (b.drop (i + 1)) = y at *
  generalize dg a i = u at *
  generalize dg b i = v at *
  have e : (u + 65536 - v - borrow) % 65536 + 65536 * x + (v + 65536 * y + borrow) = u + 65536 * x + 65536 * (y + (1 - (u + 65536 - v - borrow) / 65536)) := by omega
  have e2 := congrArg (p * ·) e
  simp only [Nat.mul_add] at e2 h ⊢
  omega
theorem sub_end (a b out : List Nat) (borrow : Nat) (hl : out.length = 20) (hd : ∀ d ∈ out, d < 65536) (ha : Dig a) (hb : Dig b) (hle : val b ≤ val a) (hbw : borrow ≤ 1)
    (h : val out + val b + 65536 ^ 20 * val (a.drop 20) = val a + 65536 ^ 20 * (val (b.drop 20) + borrow)) : val out = val a - val b := by
  have h1 := val_lt out hd
  rw [hl] at h1
  rw [val_end a ha 20 (by omega), val_end b hb 20 (by omega)] at h
  have : borrow = 0 := by
    rcases (show borrow = 0 ∨ borrow = 1 from by omega) with rfl | rfl
    · rfl
    · omega
  subst this
  omega

theorem val_set (ds : List Nat) (i d : Nat) (h : i < ds.length) : val (ds.set i d) + 65536 ^ i * dg ds i = val ds + 65536 ^ i * d := by
  induction ds generalizing i with
  | nil => simp at h
  | cons x xs ih =>
    cases i with
    | zero =>
      simp [val, dg]
      omega
    | succ i =>
      have := ih i (by simpa using h)
      rw [List.set_cons_succ, val, val, Nat.pow_succ]
      have e : dg (x :: xs) (i + 1) = dg xs i := by simp [dg]
      rw [e, Nat.mul_comm (65536 ^ i) 65536, Nat.mul_assoc, Nat.mul_assoc]
      omega
theorem dig_set {ds : List Nat} {i d : Nat} (h : ∀ x ∈ ds, x < 65536) (hd : d < 65536) : ∀ x ∈ ds.set i d, x < 65536 := by
  intro x hx
  rcases List.mem_or_eq_of_mem_set hx with hx | hx
  · exact h x hx
  · omega

/-- The low j digits. -/
def low (b : List Nat) (j : Nat) : Nat := val (b.take j)
theorem low_succ (b : List Nat) (j : Nat) : low b (j + 1) = low b j + 65536 ^ j * dg b j := by
  unfold low dg
  by_cases h : j < b.length
  · rw [List.take_succ_eq_append_getElem h, val_snoc, List.length_take, Nat.min_eq_left (by omega), List.getD_eq_getElem?_getD, List.getElem?_eq_getElem h]
    rfl
  · rw [List.take_of_length_le (by omega), List.take_of_length_le (by omega), List.getD_eq_getElem?_getD, List.getElem?_eq_none (by omega)]
    simp

/-- One step of a product's row. -/
theorem mul_step (out b : List Nat) (x i j carry T : Nat) (hl : i + j < out.length) (h : val out + 65536 ^ (i + j) * carry = T + 65536 ^ i * (x * low b j)) :
    val (out.set (i + j) ((dg out (i + j) + x * dg b j + carry) % 65536)) + 65536 ^ (i + (j + 1)) * ((dg out (i + j) + x * dg b j + carry) / 65536) = T + 65536 ^ i * (x * low b (j + 1)) := by
  have hs := val_set out (i + j) ((dg out (i + j) + x * dg b j + carry) % 65536) hl
  have e1 : 65536 ^ (i + (j + 1)) = 65536 ^ (i + j) * 65536 := by rw [← Nat.add_assoc, Nat.pow_succ]
  have e2 : 65536 ^ i * (x * low b (j + 1)) = 65536 ^ i * (x * low b j) + 65536 ^ (i + j) * (x * dg b j) := by
    rw [low_succ, Nat.mul_add, Nat.mul_add, Nat.pow_add]
    congr 1
    simp only [Nat.mul_assoc, Nat.mul_left_comm]
  rw [e1, e2, ← Nat.add_assoc, ← h, Nat.mul_assoc]
  generalize 65536 ^ (i + j) = p at *
  generalize x * dg b j = y at *
  generalize dg out (i + j) = u at *
  have e : (u + y + carry) % 65536 + 65536 * ((u + y + carry) / 65536) = u + y + carry := by omega
  have e3 := congrArg (p * ·) e
  simp only [Nat.mul_add] at e3
  omega

/-- The end of a product's row: nothing is carried out of it. -/
theorem mul_end (out b : List Nat) (A' A x i carry : Nat) (hb4 : val b < 65536 ^ 4) (hlow : low b 12 = val b) (hA : A = A' + 65536 ^ i * x) (hA4 : A < 65536 ^ (i + 1)) (h : val out + 65536 ^ (i + 12) * carry = A' * val b + 65536 ^ i * (x * low b 12)) :
    val out = A * val b := by
  rw [hlow] at h
  have e : A' * val b + 65536 ^ i * (x * val b) = A * val b := by
    rw [hA, Nat.add_mul, Nat.mul_assoc]
  rw [e] at h
  have h1 : A * val b < 65536 ^ (i + 1) * 65536 ^ 4 := Nat.mul_lt_mul_of_lt_of_le hA4 (by omega) (by omega)
  have h2 : 65536 ^ (i + 1) * 65536 ^ 4 ≤ 65536 ^ (i + 12) := by
    rw [← Nat.pow_add]
    exact Nat.pow_le_pow_right (by omega) (by omega)
  have : carry = 0 := by
    rcases Nat.eq_zero_or_pos carry with h0 | h0
    · exact h0
    · have := Nat.mul_le_mul_left (65536 ^ (i + 12)) h0
      omega
  subst this
  omega

theorem low_all (b : List Nat) (j : Nat) (h : b.length ≤ j) : low b j = val b := by
  unfold low
  rw [List.take_of_length_le h]
theorem low_lt (b : List Nat) (hb : ∀ d ∈ b, d < 65536) (j : Nat) : low b j < 65536 ^ j := by
  unfold low
  have h := val_lt (b.take j) (fun d hd => hb d (List.mem_of_mem_take hd))
  have : (b.take j).length ≤ j := List.length_take_le _ _
  exact Nat.lt_of_lt_of_le h (Nat.pow_le_pow_right (by omega) this)

theorem val_split (ds : List Nat) (j : Nat) : val ds = low ds j + 65536 ^ j * val (ds.drop j) := by
  induction j with
  | zero => simp [low, val]
  | succ j ih =>
    rw [ih, low_succ, val_drop, Nat.pow_succ, Nat.mul_add]
    simp only [Nat.mul_assoc]
    omega

/-- A number above 0 has a digit above 0. -/
theorem val_pos (ds : List Nat) (i : Nat) (h : 0 < dg ds i) : 65536 ^ i ≤ val ds := by
  have h1 := val_split ds (i + 1)
  rw [low_succ] at h1
  have := Nat.mul_le_mul_left (65536 ^ i) h
  omega

/-- The four digits of a number of 64 bits. -/
def four (u : Nat) : List Nat := [u % 65536, u / 65536 % 65536, u / 65536 / 65536 % 65536, u / 65536 / 65536 / 65536 % 65536]
theorem val_four (u : Nat) (h : u < 18446744073709551616) : val (four u) = u := by
  simp only [four, val]
  omega
theorem dig_four (u : Nat) : Dig (four u) := by
  refine ⟨by simp [four], ?_⟩
  intro d hd
  simp only [four, List.mem_cons, List.not_mem_nil, or_false] at hd
  omega
end Go.Proofs.Ytdlimephkjihbaa
