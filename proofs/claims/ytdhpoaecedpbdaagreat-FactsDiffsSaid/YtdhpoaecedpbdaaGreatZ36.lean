/-
  short of verdererlaw10: whether an act's texts are short.
  No condition.
-/
import Derived.Test.YtdhpoaecedpbdaaGreatZ24
namespace Go.Proofs.YtdhpoaecedpbdaaGreat
open Go.RowKit Go.Maps

def shO (a b c : ByteArray) (n : Nat) : Bool := decide (a.size ≤ 200) && decide (b.size ≤ 200) && decide (c.size ≤ 200) && decide (n ≤ 50)
theorem alloc6_new {w : World} {T : TypeId} {z0 z1 z2 z3 z4 z5 : Value} :
    (w.alloc (.cells #[z0, z1, z2, z3, z4, z5] T)).cell? ⟨w.heap.size, 0, none⟩ = some z0 ∧ (w.alloc (.cells #[z0, z1, z2, z3, z4, z5] T)).cell? ⟨w.heap.size, 1, none⟩ = some z1 ∧ (w.alloc (.cells #[z0, z1, z2, z3, z4, z5] T)).cell? ⟨w.heap.size, 2, none⟩ = some z2 ∧ (w.alloc (.cells #[z0, z1, z2, z3, z4, z5] T)).cell? ⟨w.heap.size, 3, none⟩ = some z3 ∧ (w.alloc (.cells #[z0, z1, z2, z3, z4, z5] T)).cell? ⟨w.heap.size, 5, none⟩ = some z5 := by
  have h := World.alloc_heap_new w (.cells #[z0, z1, z2, z3, z4, z5] T)
  exact ⟨cell_of_row _ w.heap.size 0 _ _ _ h, cell_of_row _ w.heap.size 1 _ _ _ h, cell_of_row _ w.heap.size 2 _ _ _ h, cell_of_row _ w.heap.size 3 _ _ _ h, cell_of_row _ w.heap.size 5 _ _ _ h⟩
set_option maxRecDepth 100000 in
set_option maxHeartbeats 2000000 in
theorem l_short (k v : Int) (a b c : ByteArray) (A : Option Addr) (n cap : Nat) (w : World) :
    Calls Tryz.prog 6 #[.agg #[.int .i64 k, .string a, .string b, .string c, .int .i64 v, .slice A n cap]] w fun e w' => e = .returned (.bool (shO a b c n)) ∧ Below w.heap.size w w' := by
  obtain ⟨c0, c1, c2, c3, c5⟩ := alloc6_new (w := w) (T := 37) (z0 := .int .i64 k) (z1 := .string a) (z2 := .string b) (z3 := .string c) (z4 := .int .i64 v) (z5 := .slice A n cap)
  have HON := Lib.hid (one_new w (.cells #[.int .i64 k, .string a, .string b, .string c, .int .i64 v, .slice A n cap] 37))
  by_cases h1 : a.size ≤ 200
  · have g1 : decide ((a.size : Int) ≤ 200) = true := by simp; omega
    by_cases h2 : b.size ≤ 200
    · have g2 : decide ((b.size : Int) ≤ 200) = true := by simp; omega
      by_cases h3 : c.size ≤ 200
      · have g3 : decide ((c.size : Int) ≤ 200) = true := by simp; omega
        by_cases h4 : n ≤ 50
        · have g4 : decide ((n : Int) ≤ 50) = true := by simp; omega
          have HE := Lib.hid (show shO a b c n = true by unfold shO; simp [h1, h2, h3, h4])
          clear h1 h2 h3 h4
          go_enter Tryz.func6, Tryz.ntmps6
          go_wp2
          go_ret
          exact ⟨by rw [HE.out]; rfl, HON.out⟩
        · have g4 : decide ((n : Int) ≤ 50) = false := by simp; omega
          have HE := Lib.hid (show shO a b c n = false by unfold shO; simp [h4])
          clear h1 h2 h3 h4
          go_enter Tryz.func6, Tryz.ntmps6
          go_wp2
          go_ret
          exact ⟨by rw [HE.out]; rfl, HON.out⟩
      · have g3 : decide ((c.size : Int) ≤ 200) = false := by simp; omega
        have HE := Lib.hid (show shO a b c n = false by unfold shO; simp [h3])
        clear h1 h2 h3
        go_enter Tryz.func6, Tryz.ntmps6
        go_wp2
        go_ret
        exact ⟨by rw [HE.out]; rfl, HON.out⟩
    · have g2 : decide ((b.size : Int) ≤ 200) = false := by simp; omega
      have HE := Lib.hid (show shO a b c n = false by unfold shO; simp [h2])
      clear h1 h2
      go_enter Tryz.func6, Tryz.ntmps6
      go_wp2
      go_ret
      exact ⟨by rw [HE.out]; rfl, HON.out⟩
  · have g1 : decide ((a.size : Int) ≤ 200) = false := by simp; omega
    have HE := Lib.hid (show shO a b c n = false by unfold shO; simp [h1])
    clear h1
    go_enter Tryz.func6, Tryz.ntmps6
    go_wp2
    go_ret
    exact ⟨by rw [HE.out]; rfl, HON.out⟩
end Go.Proofs.YtdhpoaecedpbdaaGreat
