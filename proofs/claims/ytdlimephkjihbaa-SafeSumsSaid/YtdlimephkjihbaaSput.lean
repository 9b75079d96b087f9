/-
  Put of a Sum, however many times; the list of Puts of a statement in memory; the sums of such a list, forwards and backwards.
  No condition but that each number has 64 bits.
-/
import Derived.Test.YtdlimephkjihbaaSknown
namespace Go.Proofs.Ytdlimephkjihbaa
open Go.RowKit

/-- What a Put adds. -/
def cn (p : Int × Int) : Int := if many p.2 = true then 0 else p.1 * p.2
/-- What a Put answers. -/
def errP (t : Int) : Int := if many t = true then 2 else 0
/-- What a list of Puts adds. -/
def tot (l : List (Int × Int)) : Int := (l.map cn).sum

theorem tot_append (a b : List (Int × Int)) : tot (a ++ b) = tot a + tot b := by simp [tot]
theorem tot_take (l : List (Int × Int)) (k : Nat) (p : Int × Int) (h : l[k]? = some p) : tot (l.take (k + 1)) = tot (l.take k) + cn p := by
  obtain ⟨h1, h2⟩ := List.getElem?_eq_some_iff.1 h
  rw [List.take_succ_eq_append_getElem h1, tot_append, h2]
  simp [tot]
theorem tot_reverse (l : List (Int × Int)) : tot l.reverse = tot l := by
  induction l with
  | nil => rfl
  | cons p l ih =>
    rw [List.reverse_cons, tot_append, ih]
    simp [tot]
    omega

theorem cn_bound (p : Int × Int) (h : N64 p.1) : -9903520314283042199192993792 ≤ cn p ∧ cn p ≤ 9903520314283042199192993792 := by
  obtain ⟨n, t⟩ := p
  unfold cn
  by_cases hm : many t = true
  · rw [if_pos hm]
    omega
  · rw [if_neg hm]
    unfold many at hm
    simp only [Bool.or_eq_true, decide_eq_true_eq] at hm
    have h1 : (n * t).natAbs ≤ 9223372036854775808 * 1073741824 := by
      rw [Int.natAbs_mul]
      obtain ⟨h0, h1⟩ := h
      simp only at h0 h1
      exact Nat.mul_le_mul (by omega) (by omega)
    simp only
    omega
theorem tot_bound (l : List (Int × Int)) (h : ∀ p ∈ l, N64 p.1) : -9903520314283042199192993792 * (l.length : Int) ≤ tot l ∧ tot l ≤ 9903520314283042199192993792 * (l.length : Int) := by
  induction l with
  | nil => simp [tot]
  | cons p l ih =>
    have h1 := cn_bound p (h p (by simp))
    have h2 := ih (fun q hq => h q (by simp [hq]))
    have e : tot (p :: l) = cn p + tot l := by simp [tot]
    rw [e, List.length_cons]
    omega
theorem tot_near (l : List (Int × Int)) (h : ∀ p ∈ l, N64 p.1) (hl : l.length ≤ 200) : Near (tot l) := by
  have := tot_bound l h
  unfold Near
  omega

/-- A call of Put, whatever it is asked: what it answers, where the Sum stands behind it; nothing else that was there has changed. -/
def PutsAny (w : World) (g : Nat) (z n t : Int) (e : Ending) (w' : World) : Prop :=
  e = .returned (.int .i64 (errP t)) ∧ SumAt w' g (z + cn (n, t)) ∧ (∀ B, B ≤ g → Below B w w') ∧ (∀ k, k < w.heap.size → k ≠ g → w'.heap[k]? = w.heap[k]?)

theorem s_put_any (g : Nat) (z n t : Int) (hn : N64 n) (w : World) (hs : SumAt w g z) : Calls Try.prog 24 #[.pointer (some ⟨g, 0, none⟩), .int .i64 n, .int .i64 t] w (PutsAny w g z n t) := by
  unfold PutsAny errP cn
  rcases Bool.eq_false_or_eq_true (many t) with h | h
  · refine (s_put_arg g n t h w).mono ?_
    rintro e w' ⟨rfl, hb⟩
    simp only [h, if_true, Int.add_zero]
    exact ⟨trivial, hs.below hb hs.lt, fun B hB => hb.mono (by have := hs.lt; omega), fun k hk _ => hb.block k hk⟩
  · refine (s_put g z n t hn h w hs).mono ?_
    rintro e w' ⟨rfl, h1, h2, h3⟩
    simp only [h, Bool.false_eq_true, if_false]
    exact ⟨trivial, h1, h2, h3⟩

/-- The list of Puts ps lies at L, below block B. -/
def PutsAt (w : World) (B : Nat) (L : Option Addr) (ps : List (Int × Int)) : Prop := ∀ (i : Nat) (p : Int × Int), ps[i]? = some p → ∃ a : Addr, L = some a ∧ (a.add (i * 2)).block < B ∧ w.cell? (a.add (i * 2)) = some (.int .i64 p.1) ∧ w.cell? { block := (a.add (i * 2)).block, off := (a.add (i * 2)).off + 1 } = some (.int .i64 p.2)
theorem PutsAt.below {w w' : World} {B : Nat} {L : Option Addr} {ps : List (Int × Int)} (h : PutsAt w B L ps) (hb : Below B w w') : PutsAt w' B L ps := by
  intro i p hi
  obtain ⟨a, ha, hlt, h0, h1⟩ := h i p hi
  exact ⟨a, ha, hlt, (hb.cell hlt).trans h0, (hb.cell (p := { block := (a.add (i * 2)).block, off := (a.add (i * 2)).off + 1 }) hlt).trans h1⟩
end Go.Proofs.Ytdlimephkjihbaa
