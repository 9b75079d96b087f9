/-
  product and fit of package safe: the product of two numbers of 64 bits as three words; the number that three words are, or that it does not fit. Two wholes are one just if all three words are.
  At every two numbers of 64 bits, at every whole number of less than 192 bits, in every world; nothing that was there is changed.
-/
import Derived.Test.YtdlimephkjihbaaSafe
import Derived.Test.YtdlimephkjihbaaBits
import Derived.Laws.StructEq
import Derived.Deep.QuietTactic
import Derived.BigQuiet
namespace Go.Proofs.Ytdlimephkjihbaa
open Go.RowKit

/-- A number that fits in 64 bits. -/
def N64 (n : Int) : Prop := -9223372036854775808 ≤ n ∧ n ≤ 9223372036854775807

theorem mul64_call (x y : Int) (hx : 0 ≤ x ∧ x < 18446744073709551616) (hy : 0 ≤ y ∧ y < 18446744073709551616) (w : World) :
    Calls Try.prog 79 #[.int .u64 x, .int .u64 y] w fun e w' => e = .returned (.tuple #[.int .u64 (x * y / 18446744073709551616), .int .u64 (x * y % 18446744073709551616)]) ∧ w = w' := by
  obtain ⟨a, rfl⟩ := Int.eq_ofNat_of_zero_le hx.1
  obtain ⟨b, rfl⟩ := Int.eq_ofNat_of_zero_le hy.1
  refine (Try.bits_Mul64 a b (by omega) (by omega) w).mono ?_
  rintro e w' ⟨rfl, rfl⟩
  refine ⟨?_, rfl⟩
  rfl

theorem equal_whole' (d : Nat) (x y z x' y' z' : Int) (w : World) : (Op.equalIn (d + 1 + 1) 36 (.agg #[.int .u64 x, .int .u64 y, .int .u64 z]) (.agg #[.int .u64 x', .int .u64 y', .int .u64 z'])).run Try.prog w = .ok (x == x' && y == y' && z == z') w := by
  have hi : ∀ a b : Int, (Op.equalIn (d + 1) 34 (.int .u64 a) (.int .u64 b)).run Try.prog w = .ok (a == b) w := fun a b => run_equalIn_int w d 34 .u64 .u64 a b Try.underlying34
  generalize d + 1 = e at *
  rw [Op.equalIn]
  simp only [Sem.run_bind, run_underlying Try.underlying36, Result.andThen_ok, Try.sizeOf34]
  simp only [Std.Legacy.Range.forIn_eq_forIn_range', Std.Legacy.Range.size, List.range', List.forIn_cons, List.forIn_nil, Sem.run_bind]
  have hp : ∀ (a b c : Int) (i : Nat) (v : Value), (#[Value.int .u64 a, Value.int .u64 b, Value.int .u64 c] : Array Value)[i]? = some v → (part 34 #[Value.int .u64 a, Value.int .u64 b, Value.int .u64 c] i).run Try.prog w = .ok v w := by
    intro a b c i v h
    unfold part
    simp only [Sem.run_bind, Try.isAgg34, Result.andThen_ok, Bool.false_eq_true, if_false, h, Sem.run_pure]
  have h0 : ∀ a b c : Int, (part 34 #[Value.int .u64 a, Value.int .u64 b, Value.int .u64 c] 0).run Try.prog w = .ok (.int .u64 a) w := fun a b c => hp a b c 0 _ rfl
  have h1 : ∀ a b c : Int, (part 34 #[Value.int .u64 a, Value.int .u64 b, Value.int .u64 c] 1).run Try.prog w = .ok (.int .u64 b) w := fun a b c => hp a b c 1 _ rfl
  have h2 : ∀ a b c : Int, (part 34 #[Value.int .u64 a, Value.int .u64 b, Value.int .u64 c] 2).run Try.prog w = .ok (.int .u64 c) w := fun a b c => hp a b c 2 _ rfl
  clear hp
  simp only [Nat.mul_one, Nat.zero_add, Nat.reduceAdd]
  by_cases e0 : x = x' <;> by_cases e1 : y = y' <;> by_cases e2 : z = z' <;> simp [h0, h1, h2, hi, e0, e1, e2]

theorem equal_whole (x y z x' y' z' : Int) (w : World) : (Op.equalIn 10000 36 (.agg #[.int .u64 x, .int .u64 y, .int .u64 z]) (.agg #[.int .u64 x', .int .u64 y', .int .u64 z'])).run Try.prog w = .ok (x == x' && y == y' && z == z') w := equal_whole' 9998 x y z x' y' z' w

theorem wrap_sgn (x : Int) (h0 : 0 ≤ x) (h1 : x < 18446744073709551616) : wrap64 x = sgn x := by
  unfold wrap64 sgn
  split <;> omega
theorem top_word (x : Int) (h0 : 0 ≤ x) (h1 : x < 18446744073709551616) : IntKind.u64.wrap (wrap64 x / 9223372036854775808) = if x < 9223372036854775808 then 0 else 18446744073709551615 := by
  rw [wrap_u64]
  unfold wrap64
  split <;> omega

set_option maxHeartbeats 1000000 in
theorem s_product (a b : Int) (ha : N64 a) (hb : N64 b) (w : World) : Calls Try.prog 59 #[.int .i64 a, .int .i64 b] w
    fun e w' => e = .returned (.agg #[.int .u64 (w0 (a * b)), .int .u64 (w1 (a * b)), .int .u64 (w2 (a * b))]) ∧ Below w.heap.size w w' := by
  obtain ⟨ua, hua⟩ : ∃ u, u = a % 18446744073709551616 := ⟨_, rfl⟩
  obtain ⟨ub, hub⟩ : ∃ u, u = b % 18446744073709551616 := ⟨_, rfl⟩
  obtain ⟨p0, p1, p2⟩ := prod_words a b ha.1 ha.2 hb.1 hb.2 ua ub (ua * ub) hua hub rfl
  have ea : Hid (IntKind.u64.wrap a = ua) := Lib.hid (by rw [wrap_u64, hua])
  have eb : Hid (IntKind.u64.wrap b = ub) := Lib.hid (by rw [wrap_u64, hub])
  have ra : Hid (0 ≤ ua ∧ ua < 18446744073709551616) := Lib.hid (by omega)
  have rb : Hid (0 ≤ ub ∧ ub < 18446744073709551616) := Lib.hid (by omega)
  have e1 : (if b < 0 then IntKind.u64.wrap ((if a < 0 then IntKind.u64.wrap (ua * ub / 18446744073709551616 - IntKind.u64.wrap b) else ua * ub / 18446744073709551616) - IntKind.u64.wrap a) else (if a < 0 then IntKind.u64.wrap (ua * ub / 18446744073709551616 - IntKind.u64.wrap b) else ua * ub / 18446744073709551616)) = w1 (a * b) := by
    rw [← p1, ea.out, eb.out]
    have hP : 0 ≤ ua * ub / 18446744073709551616 ∧ ua * ub / 18446744073709551616 < 18446744073709551616 := by
      obtain ⟨a0, a1⟩ := ra.out
      obtain ⟨b0, b1⟩ := rb.out
      have h2 : 0 ≤ ua * ub := Int.mul_nonneg a0 b0
      have h3 : ua * ub ≤ 18446744073709551616 * 18446744073709551615 := Int.mul_le_mul (by omega) (by omega) b0 (by omega)
      omega
    simp only [wrap_u64]
    generalize ua * ub / 18446744073709551616 = h at *
    clear hua hub p0 p1 p2 ea eb ra rb
    split <;> split <;> omega
  have E1 := Lib.hid e1
  have E2 := Lib.hid (top_word (w1 (a * b)) (w1_rng _).1 (w1_rng _).2)
  clear e1
  have P0 := Lib.hid p0
  have P1 := Lib.hid p1
  have P2 := Lib.hid p2
  clear p0 p1 p2 hua hub ha hb
  by_cases h1 : a < 0
  · by_cases h2 : b < 0
    · have e1 := E1.out
      rw [if_pos h2, if_pos h1] at e1
      have E3 := Lib.hid e1
      clear e1 E1
      go_enter Try.func59, Try.ntmps59
      go_wp2_with fail
      rw [ea.out, eb.out]
      refine (mul64_call ua ub ra.out rb.out _).mono ?_
      rintro e w1 ⟨rfl, rfl⟩
      go_wp2
      refine bodyPost_ret (v := .agg #[.int .u64 (w0 (a * b)), .int .u64 (w1 (a * b)), .int .u64 (w2 (a * b))]) ?_ rfl ⟨rfl, one_new _ _⟩
      have e2 := E2.out
      rw [P2.out] at e2
      simp [results, Try.results59, go_sem, P0.out, E3.out, e2]
    · have e1 := E1.out
      rw [if_neg h2, if_pos h1] at e1
      have E3 := Lib.hid e1
      clear e1 E1
      go_enter Try.func59, Try.ntmps59
      go_wp2_with fail
      rw [ea.out, eb.out]
      refine (mul64_call ua ub ra.out rb.out _).mono ?_
      rintro e w1 ⟨rfl, rfl⟩
      go_wp2
      refine bodyPost_ret (v := .agg #[.int .u64 (w0 (a * b)), .int .u64 (w1 (a * b)), .int .u64 (w2 (a * b))]) ?_ rfl ⟨rfl, one_new _ _⟩
      have e2 := E2.out
      rw [P2.out] at e2
      simp [results, Try.results59, go_sem, P0.out, E3.out, e2]
  · by_cases h2 : b < 0
    · have e1 := E1.out
      rw [if_pos h2, if_neg h1] at e1
      have E3 := Lib.hid e1
      clear e1 E1
      go_enter Try.func59, Try.ntmps59
      go_wp2_with fail
      rw [ea.out, eb.out]
      refine (mul64_call ua ub ra.out rb.out _).mono ?_
      rintro e w1 ⟨rfl, rfl⟩
      go_wp2
      refine bodyPost_ret (v := .agg #[.int .u64 (w0 (a * b)), .int .u64 (w1 (a * b)), .int .u64 (w2 (a * b))]) ?_ rfl ⟨rfl, one_new _ _⟩
      have e2 := E2.out
      rw [P2.out] at e2
      simp [results, Try.results59, go_sem, P0.out, E3.out, e2]
    · have e1 := E1.out
      rw [if_neg h2, if_neg h1] at e1
      have E3 := Lib.hid e1
      clear e1 E1
      go_enter Try.func59, Try.ntmps59
      go_wp2_with fail
      rw [ea.out, eb.out]
      refine (mul64_call ua ub ra.out rb.out _).mono ?_
      rintro e w1 ⟨rfl, rfl⟩
      go_wp2
      refine bodyPost_ret (v := .agg #[.int .u64 (w0 (a * b)), .int .u64 (w1 (a * b)), .int .u64 (w2 (a * b))]) ?_ rfl ⟨rfl, one_new _ _⟩
      have e2 := E2.out
      rw [P2.out] at e2
      simp [results, Try.results59, go_sem, P0.out, E3.out, e2]

section
attribute [local go_sem high] equal_whole

theorem Blk.below {w w' : World} {g B : Nat} {x y z : Int} (h : Blk w g x y z) (hb : Below B w w') (hg : g < B) : Blk w' g x y z := (hb.block g hg).trans h

/-- The number that a whole number is, if it is one of 64 bits. -/
def fitV (z : Int) : Int := if fits z = true then z else 0
/-- Whether it is one. -/
def fitE (z : Int) : Int := if fits z = true then 0 else 10

set_option maxHeartbeats 1000000 in
theorem s_fit (z : Int) (hz : Near z) (w : World) : Calls Try.prog 55 #[.agg #[.int .u64 (w0 z), .int .u64 (w1 z), .int .u64 (w2 z)]] w
    fun e w' => e = .returned (.tuple #[.int .i64 (fitV z), .int .i64 (fitE z)]) ∧ Below w.heap.size w w' := by
  have hs := fit_same z hz
  have hw := wrap_sgn (w0 z) (w0_rng z).1 (w0_rng z).2
  obtain ⟨n, hn⟩ : ∃ n, wrap64 (w0 z) = n := ⟨_, rfl⟩
  rw [← hw, hn] at hs
  have h64 : -9223372036854775808 ≤ n ∧ n ≤ 9223372036854775807 := by
    rw [← hn]
    unfold wrap64
    omega
  have H64 := Lib.hid h64
  have HN := Lib.hid hn
  rcases Bool.eq_false_or_eq_true (fits z) with hf | hf
  · have hz2 := fit_val z hf
    rw [← hw, hn] at hz2
    subst hz2
    obtain ⟨q0, q1, q2⟩ := hs.2 hf
    unfold fitV fitE
    rw [hf]
    clear hs hw hf h64 hz hn q0 q1 q2
    go_enter Try.func55, Try.ntmps55
    go_wp2
    rw [HN.out]
    go_region_held3 (fun w' => w'.cell? ⟨w.heap.size, 0, none⟩ = some (.int .u64 (w0 n)) ∧ w'.cell? ⟨w.heap.size, 1, none⟩ = some (.int .u64 (w1 n)) ∧ w'.cell? ⟨w.heap.size, 2, none⟩ = some (.int .u64 (w2 n))) (go_keep)
      (first | (go_at_call 57; refine (s_wide n _ H64.out.1 H64.out.2).mono ?_; rintro e w1 ⟨rfl, hb1⟩; have hcl : ∀ p : Addr, p.block < w.heap.size + 1 → w1.cell? p = (w.alloc (.cells #[.int .u64 (w0 n), .int .u64 (Ytdlimephkjihbaa.w1 n), .int .u64 (w2 n)] 36)).cell? p := fun p hp => hb1.cell (show p.block < (w.alloc _).heap.size from by rw [World.size_alloc]; exact hp)))
    go_wp2
    go_ret2
    exact ⟨rfl, ((one_new w _).drew).trans (hb1.mono (show w.heap.size ≤ (w.alloc _).heap.size from by rw [World.size_alloc]; omega))⟩
  · have hne : ¬ (w0 z = w0 n ∧ w1 z = w1 n ∧ w2 z = w2 n) := fun h => by
      have h2 := hs.1 h
      rw [hf] at h2
      cases h2
    have hb : (w0 z == w0 n && w1 z == w1 n && w2 z == w2 n) = false := by
      rw [Bool.eq_false_iff]
      intro h
      simp only [Bool.and_eq_true, beq_iff_eq] at h
      exact hne ⟨h.1.1, h.1.2, h.2⟩
    unfold fitV fitE
    rw [hf]
    clear hs hw hf h64 hz hn hne
    go_enter Try.func55, Try.ntmps55
    go_wp2
    rw [HN.out]
    go_region_held3 (fun w' => w'.cell? ⟨w.heap.size, 0, none⟩ = some (.int .u64 (w0 z)) ∧ w'.cell? ⟨w.heap.size, 1, none⟩ = some (.int .u64 (w1 z)) ∧ w'.cell? ⟨w.heap.size, 2, none⟩ = some (.int .u64 (w2 z))) (go_keep)
      (first | (go_at_call 57; refine (s_wide n _ H64.out.1 H64.out.2).mono ?_; rintro e w1 ⟨rfl, hb1⟩; have hcl : ∀ p : Addr, p.block < w.heap.size + 1 → w1.cell? p = (w.alloc (.cells #[.int .u64 (w0 z), .int .u64 (Ytdlimephkjihbaa.w1 z), .int .u64 (w2 z)] 36)).cell? p := fun p hp => hb1.cell (show p.block < (w.alloc _).heap.size from by rw [World.size_alloc]; exact hp)))
    go_wp2
    go_ret2
    exact ⟨rfl, ((one_new w _).drew).trans (hb1.mono (show w.heap.size ≤ (w.alloc _).heap.size from by rw [World.size_alloc]; omega))⟩
end
end Go.Proofs.Ytdlimephkjihbaa
