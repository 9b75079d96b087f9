/-
  Rows of values that a call makes itself: what append leaves behind it, cell by cell, whatever room there was.
  No condition but that a row is no longer than it can be.
-/
import Derived.Maps.AppendAt
import Derived.Deep.AppendLies
import Derived.OwnWalk
import Derived.Test.YtkobfngnnblpeaaGreatDoorM2
namespace Go.Proofs.YtkobfngnnblpeaaGreatDoor
open Go.RowKit

/-- The four cells of a value. -/
def V.cells (v : V) : List Value := [.int .i64 v.k, .bool v.f, .int .i64 v.n, .string v.t]
/-- The cells of a row. -/
def flat (xs : List V) : List Value := xs.flatMap V.cells

theorem flat_length (xs : List V) : (flat xs).length = xs.length * 4 := by
  induction xs with
  | nil => rfl
  | cons x xs ih =>
    have h : (flat (x :: xs)).length = 4 + (flat xs).length := by simp [flat, V.cells]; omega
    rw [h, ih, List.length_cons]
    omega
theorem flat_append (xs ys : List V) : flat (xs ++ ys) = flat xs ++ flat ys := by simp [flat]
theorem flat_cons (x : V) (xs : List V) : flat (x :: xs) = .int .i64 x.k :: .bool x.f :: .int .i64 x.n :: .string x.t :: flat xs := rfl
theorem flat_at : ∀ (xs : List V) (i : Nat) (v : V), xs[i]? = some v → (flat xs)[i * 4]? = some (.int .i64 v.k) ∧ (flat xs)[i * 4 + 1]? = some (.bool v.f) ∧ (flat xs)[i * 4 + 2]? = some (.int .i64 v.n) ∧ (flat xs)[i * 4 + 3]? = some (.string v.t)
  | [], _, _, h => by simp at h
  | x :: xs, 0, v, h => by
    have h' : x = v := by simpa using h
    subst h'
    exact ⟨rfl, rfl, rfl, rfl⟩
  | x :: xs, i + 1, v, h => by
    have ih := flat_at xs i v (by simpa using h)
    rw [flat_cons, show (i + 1) * 4 = i * 4 + 4 from by omega]
    exact ih
theorem flat_one (xs : List V) : ∀ u ∈ flat xs, u.oneCell' = true := by
  intro u hu
  obtain ⟨x, _, hx⟩ := List.mem_flatMap.1 hu
  simp only [V.cells, List.mem_cons, List.not_mem_nil, or_false] at hx
  rcases hx with rfl | rfl | rfl | rfl <;> rfl

theorem add_off (a : Addr) (m r : Nat) (hr : 0 < r) : ({ block := (a.add m).block, off := (a.add m).off + r } : Addr) = a.add (m + r) := by
  unfold Addr.add
  by_cases hm : m = 0
  · subst hm
    simp [Nat.ne_of_gt hr]
  · simp [hm, Nat.add_assoc]

theorem RowAt.cells {w : World} {B : Nat} {a : Addr} {xs : List V} (h : RowAt w B (some a) xs) : ∀ j u, (flat xs)[j]? = some u → w.cell? (a.add j) = some u := by
  intro j u hu
  have hj : j < xs.length * 4 := by
    rw [← flat_length]
    exact (List.getElem?_eq_some_iff.1 hu).1
  have hi : j / 4 < xs.length := by omega
  obtain ⟨v, hv⟩ : ∃ v, xs[j / 4]? = some v := ⟨_, List.getElem?_eq_getElem hi⟩
  obtain ⟨a', ha, _, h0, h1, h2, h3⟩ := h _ _ hv
  injection ha with ha
  subst ha
  obtain ⟨f0, f1, f2, f3⟩ := flat_at xs _ _ hv
  rw [add_off _ _ _ (by omega)] at h1 h2 h3
  rcases (show j = j / 4 * 4 ∨ j = j / 4 * 4 + 1 ∨ j = j / 4 * 4 + 2 ∨ j = j / 4 * 4 + 3 from by omega) with hq | hq | hq | hq
  · rw [hq, f0] at hu
    injection hu with hu
    rw [hq, ← hu]
    rw [← hq]
    rw [← hq] at h0
    exact h0
  · rw [hq, f1] at hu
    injection hu with hu
    rw [hq, ← hu]
    exact h1
  · rw [hq, f2] at hu
    injection hu with hu
    rw [hq, ← hu]
    exact h2
  · rw [hq, f3] at hu
    injection hu with hu
    rw [hq, ← hu]
    exact h3

/-- v is a row of the call's own (from block base on), and holds xs. -/
def Own (w : World) (base : Nat) (v : Value) (xs : List V) : Prop := w.ownsRow base 29 4 v xs.length (flat xs)

theorem Own.row {w : World} {base : Nat} {v : Value} {xs : List V} (h : Own w base v xs) : ∃ A c, v = .slice A xs.length c ∧ (A = none → c = 0) ∧ RowAt w w.heap.size A xs := by
  rcases h.2 with ⟨rfl, hn⟩ | ⟨g, cap, cur, rfl, hb, hg, _⟩
  · refine ⟨none, 0, by rw [hn], fun _ => rfl, fun i v hi => ?_⟩
    have := (List.getElem?_eq_some_iff.1 hi).1
    omega
  · refine ⟨_, _, rfl, fun h => by simp at h, fun i v hi => ⟨_, rfl, ?_, ?_⟩⟩
    · rw [show ((⟨g, 0, none⟩ : Addr).add (i * 4)).block = g from by unfold Addr.add; split <;> rfl]
      exact (Array.getElem?_eq_some_iff.1 hg).1
    · obtain ⟨f0, f1, f2, f3⟩ := flat_at xs i v hi
      have hc := World.ownsRow.cells h (g := g) rfl
      refine ⟨hc _ _ f0, ?_, ?_, ?_⟩
      · rw [add_off _ _ _ (by omega)]
        exact hc _ _ f1
      · rw [add_off _ _ _ (by omega)]
        exact hc _ _ f2
      · rw [add_off _ _ _ (by omega)]
        exact hc _ _ f3

theorem Own.base_le {w : World} {base : Nat} {v : Value} {xs : List V} (h : Own w base v xs) : ∀ k, v.ownBlock = some k → base ≤ k := fun k hk => (World.ownsRow.lt h k hk).1
theorem Own.nil (w : World) (base : Nat) : Own w base (.slice none 0 0) [] := World.ownsRow_nil w base _ _
theorem Own.alloc {w : World} {base : Nat} {v : Value} {xs : List V} (h : Own w base v xs) (o : Obj) : Own (w.alloc o) base v xs := World.ownsRow.alloc h o
theorem Own.drewN {w : World} {base : Nat} {v : Value} {xs : List V} (h : Own w base v xs) (n : Nat) : Own (w.drewN n) base v xs := h
/-- A row stays one's own while only later blocks change. -/
theorem Own.below {w w' : World} {base : Nat} {v : Value} {xs : List V} (h : Own w base v xs) {B : Nat} (hb : Below B w w') (hB : w.heap.size ≤ B) : Own w' base v xs := by
  refine ⟨h.1, ?_⟩
  rcases h.2 with hn | ⟨g, cap, cur, hv, hg, hh, r⟩
  · exact Or.inl hn
  · have hlt : g < w.heap.size := (Array.getElem?_eq_some_iff.1 hh).1
    exact Or.inr ⟨g, cap, cur, hv, hg, (hb.block g (by omega)).trans hh, r⟩

theorem info_V : (Tryz.prog.info? 29).map (fun i => (i.zero, i.size, i.bytes)) = some (some (.agg #[.int .i64 0, .bool false, .int .i64 0, .string ⟨#[]⟩]), 4, 40) := by kernel_rfl

/-- A block of one value's four cells is a row of that value. -/
theorem row_lit1 (w : World) (v : V) : RowAt (w.alloc (.cells #[.int .i64 v.k, .bool v.f, .int .i64 v.n, .string v.t] 29)) (w.heap.size + 1) (some ⟨w.heap.size, 0, none⟩) [v] := by
  have h : Own (w.alloc (.cells #[.int .i64 v.k, .bool v.f, .int .i64 v.n, .string v.t] 29)) w.heap.size (.slice (some ⟨w.heap.size, 0, none⟩) 1 1) [v] :=
    World.ownsRow_lit w #[.int .i64 v.k, .bool v.f, .int .i64 v.n, .string v.t] 1 (Nat.le_refl _) (by unfold maxLen; omega) rfl
  obtain ⟨A, c, hv, _, hr⟩ := h.row
  injection hv with hA _ _
  subst hA
  simpa using hr
end Go.Proofs.YtkobfngnnblpeaaGreatDoor
