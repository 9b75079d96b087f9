/-
  The three words of 64 bits that a whole number is held in: plain numbers, no Go in it.
  No condition.
-/
import Derived.Test.YtdlimephkjihbaaProg
namespace Go.Proofs.Ytdlimephkjihbaa
/-- The three words of a whole number, the lowest first. -/
def w0 (z : Int) : Int := z % 18446744073709551616
def w1 (z : Int) : Int := z / 18446744073709551616 % 18446744073709551616
def w2 (z : Int) : Int := z / 18446744073709551616 / 18446744073709551616 % 18446744073709551616

theorem w0_rng (z : Int) : 0 ≤ w0 z ∧ w0 z < 18446744073709551616 := by unfold w0; omega
theorem w1_rng (z : Int) : 0 ≤ w1 z ∧ w1 z < 18446744073709551616 := by unfold w1; omega
theorem w2_rng (z : Int) : 0 ≤ w2 z ∧ w2 z < 18446744073709551616 := by unfold w2; omega

theorem plus0 (a b : Int) : (w0 a + w0 b) % 18446744073709551616 = w0 (a + b) := by unfold w0; omega
theorem plus1 (a b : Int) : (w1 a + w1 b + (w0 a + w0 b) / 18446744073709551616) % 18446744073709551616 = w1 (a + b) := by unfold w0 w1; omega
theorem plus2 (a b : Int) : (w2 a + w2 b + (w1 a + w1 b + (w0 a + w0 b) / 18446744073709551616) / 18446744073709551616) % 18446744073709551616 = w2 (a + b) := by
  unfold w0 w1 w2
  have h1 : (a + b) / 18446744073709551616 = a / 18446744073709551616 + b / 18446744073709551616 + (a % 18446744073709551616 + b % 18446744073709551616) / 18446744073709551616 := by omega
  rw [h1]
  generalize (a % 18446744073709551616 + b % 18446744073709551616) / 18446744073709551616 = c
  generalize a / 18446744073709551616 = x
  generalize b / 18446744073709551616 = y
  omega

/-- The number of 64 bits that a word is. -/
def sgn (x : Int) : Int := if x < 9223372036854775808 then x else x - 18446744073709551616

/-- The word that a sign is. -/
theorem wide0 (n : Int) (h0 : -9223372036854775808 ≤ n) (h1 : n ≤ 9223372036854775807) (z : Int) (hz : z = n) : w0 z = n % 18446744073709551616 ∧ w1 z = (if n < 0 then 18446744073709551615 else 0) ∧ w2 z = (if n < 0 then 18446744073709551615 else 0) := by
  subst hz
  unfold w0 w1 w2
  refine ⟨rfl, ?_, ?_⟩ <;> split <;> omega

theorem mul_bound (a b : Int) (h0 : -9223372036854775808 ≤ a) (h1 : a ≤ 9223372036854775807) (k0 : -9223372036854775808 ≤ b) (k1 : b ≤ 9223372036854775807) : -85070591730234615865843651857942052864 ≤ a * b ∧ a * b ≤ 85070591730234615865843651857942052864 := by
  have h : (a * b).natAbs ≤ 9223372036854775808 * 9223372036854775808 := by
    rw [Int.natAbs_mul]
    exact Nat.mul_le_mul (by omega) (by omega)
  omega

/-- What the high and the low word of the product without signs make of the product. -/
theorem prod_words (a b : Int) (h0 : -9223372036854775808 ≤ a) (h1 : a ≤ 9223372036854775807) (k0 : -9223372036854775808 ≤ b) (k1 : b ≤ 9223372036854775807) (ua ub P : Int)
    (hua : ua = a % 18446744073709551616) (hub : ub = b % 18446744073709551616) (hP : P = ua * ub) :
    P % 18446744073709551616 = w0 (a * b) ∧ (P / 18446744073709551616 - (if a < 0 then ub else 0) - (if b < 0 then ua else 0)) % 18446744073709551616 = w1 (a * b) ∧
    (if w1 (a * b) < 9223372036854775808 then (0 : Int) else 18446744073709551615) = w2 (a * b) := by
  obtain ⟨m0, m1⟩ := mul_bound a b h0 h1 k0 k1
  have hP' : P = a * b + 18446744073709551616 * ((if a < 0 then b else 0) + (if b < 0 then a else 0)) + (if a < 0 ∧ b < 0 then 340282366920938463463374607431768211456 else 0) := by
    subst hP
    by_cases ha : a < 0 <;> by_cases hb : b < 0
    · have e1 : ua = a + 18446744073709551616 := by omega
      have e2 : ub = b + 18446744073709551616 := by omega
      rw [e1, e2, if_pos ha, if_pos hb, if_pos ⟨ha, hb⟩, Int.add_mul, Int.mul_add, Int.mul_add]
      omega
    · have e1 : ua = a + 18446744073709551616 := by omega
      have e2 : ub = b := by omega
      rw [e1, e2, if_pos ha, if_neg hb, if_neg (fun h => hb h.2), Int.add_mul]
      omega
    · have e1 : ua = a := by omega
      have e2 : ub = b + 18446744073709551616 := by omega
      rw [e1, e2, if_neg ha, if_pos hb, if_neg (fun h => ha h.1), Int.mul_add]
      omega
    · have e1 : ua = a := by omega
      have e2 : ub = b := by omega
      rw [e1, e2, if_neg ha, if_neg hb, if_neg (fun h => ha h.1)]
      omega
  rw [hP']
  clear hP hP'
  generalize a * b = p at *
  unfold w0 w1 w2
  by_cases ha : a < 0 <;> by_cases hb : b < 0 <;> simp only [ha, hb, if_true, if_false, and_self, and_true, and_false]
  all_goals refine ⟨by omega, by omega, ?_⟩
  all_goals split <;> omega

/-- Which number of 64 bits a whole number is, if it is one. -/
def fits (z : Int) : Bool := decide (-9223372036854775808 ≤ z) && decide (z ≤ 9223372036854775807)

def Near (z : Int) : Prop := -1569275433846670190958947355801916604025588861116008628224 ≤ z ∧ z < 1569275433846670190958947355801916604025588861116008628224

theorem fit_same (z : Int) (hz : Near z) : (w0 z = w0 (sgn (w0 z)) ∧ w1 z = w1 (sgn (w0 z)) ∧ w2 z = w2 (sgn (w0 z))) ↔ fits z = true := by
  obtain ⟨z0, z1⟩ := hz
  have e : z = w0 z + 18446744073709551616 * (w1 z) + 340282366920938463463374607431768211456 * (z / 18446744073709551616 / 18446744073709551616) := by
    unfold w0 w1
    omega
  have hq : -4611686018427387904 ≤ z / 18446744073709551616 / 18446744073709551616 ∧ z / 18446744073709551616 / 18446744073709551616 < 4611686018427387904 := by omega
  have r0 := w0_rng z
  have r1 := w1_rng z
  obtain ⟨v0, v1, v2⟩ := wide0 (sgn (w0 z)) (by unfold sgn; split <;> omega) (by unfold sgn; split <;> omega) _ rfl
  rw [v0, v1, v2]
  unfold fits
  simp only [Bool.and_eq_true, decide_eq_true_eq]
  unfold sgn w2
  generalize z / 18446744073709551616 / 18446744073709551616 = q at *
  generalize w0 z = x at *
  generalize w1 z = y at *
  subst e
  constructor
  · rintro ⟨_, h1, h2⟩
    split at h1 <;> split at h1 <;> split at h2 <;> (try split at h2) <;> omega
  · rintro ⟨h1, h2⟩
    refine ⟨by split <;> omega, ?_, ?_⟩
    · split <;> split <;> omega
    · split <;> split <;> omega

theorem fit_val (z : Int) (h : fits z = true) : sgn (w0 z) = z := by
  unfold fits at h
  simp only [Bool.and_eq_true, decide_eq_true_eq] at h
  unfold sgn w0
  split <;> omega

theorem zero_same (z : Int) (hz : Near z) : (w0 z = 0 ∧ w1 z = 0 ∧ w2 z = 0) ↔ z = 0 := by
  obtain ⟨z0, z1⟩ := hz
  unfold w0 w1 w2
  constructor
  · rintro ⟨h0, h1, h2⟩
    omega
  · rintro rfl
    decide

theorem neg_same (z : Int) (hz : Near z) : sgn (w2 z) < 0 ↔ z < 0 := by
  obtain ⟨z0, z1⟩ := hz
  unfold sgn w2
  split <;> omega
end Go.Proofs.Ytdlimephkjihbaa
