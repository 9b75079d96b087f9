/-
  slices.rotateCmpFunc at []int turns two neighbouring ranges of a row around, and writes nothing else.
  At every row of fewer than 2^40 places.
-/
import Derived.Test.YtmiagdmfgebfdaaSwp
namespace Go.Proofs.Ytmiagdmfgebfdaa
open Go.RowKit

theorem rot_big (f : Nat → Nat) (s m i j : Nat) (hs : s + i = m) (h : j < i) : rot (swp f s m j) (s + j) m (m + j) = rot f s m (m + j) := by
  funext p
  unfold rot swp
  repeat' split
  all_goals first | rfl | omega | (congr 1; omega)
theorem rot_small (f : Nat → Nat) (s m i j : Nat) (hs : s + i = m) (h : i < j) : rot (swp f s (m + j - i) i) s m (m + (j - i)) = rot f s m (m + j) := by
  funext p
  unfold rot swp
  repeat' split
  all_goals first | rfl | omega | (congr 1; omega)
theorem rot_same (f : Nat → Nat) (s m i : Nat) (hs : s + i = m) : swp f s m i = rot f s m (m + i) := by
  funext p
  unfold rot swp
  repeat' split
  all_goals first | rfl | omega | (congr 1; omega)

theorem OnlyAt.trans {w w1 w2 : World} {g : Nat} (h : OnlyAt w w1 g) (h' : OnlyAt w1 w2 g) : OnlyAt w w2 g :=
  ⟨fun B hB => (h.1 B hB).trans (h'.1 B hB), fun k hk => (h'.2.1 k hk).trans (h.2.1 k hk), h'.2.2.trans h.2.2⟩

set_option maxRecDepth 100000 in
set_option maxHeartbeats 4000000 in
theorem p_rotate (g n c a m b : Nat) (f : Nat → Nat) (fn : Value) (w : World) (ham : a < m) (hmb : m < b) (hbn : b ≤ n) (hn : n < 1099511627776) (h : PAt w g n f) :
    Calls Try.prog 106 #[.slice (some ⟨g, 0, none⟩) n c, .int .i64 a, .int .i64 m, .int .i64 b, fn] w fun e w' => e = .returned (.tuple #[]) ∧ PAt w' g n (rot f a m b) ∧ OnlyAt w w' g := by
  have H := Lib.hid h
  obtain ⟨i0, hi0⟩ : ∃ i, a + i = m := ⟨m - a, by omega⟩
  obtain ⟨j0, hj0⟩ : ∃ j, m + j = b := ⟨b - m, by omega⟩
  have e1 : (m : Int) - (a : Int) = (i0 : Int) := by omega
  have e2 : (b : Int) - (m : Int) = (j0 : Int) := by omega
  have E1 := Lib.hid e1
  have E2 := Lib.hid e2
  have HI := Lib.hid hi0
  have HJ := Lib.hid hj0
  clear h e1 e2
  go_enter Try.func106, Try.ntmps106
  go_wp2
  rw [E1.out, E2.out]
  go_loopw [10, 11] (fun i j wr => ∃ (x y : Nat) (fx : Nat → Nat), i = .int .i64 x ∧ j = .int .i64 y ∧ 0 < x ∧ 0 < y ∧ a + x ≤ m ∧ m + y ≤ b ∧ PAt wr g n fx ∧ Hid (rot fx (m - x) m (m + y) = rot f a m b) ∧ OnlyAt w wr g) (fun i j _ => (intOf i).toNat + (intOf j).toNat)
  case atStart => exact ⟨i0, j0, f, rfl, rfl, by omega, by omega, by omega, by omega, H.out, Lib.hid (by rw [show m - i0 = a from by omega, hj0]), OnlyAt.refl _ _⟩
  case round =>
    obtain ⟨x, y, fx, rfl, rfl, hx, hy, hax, hmy, hp, hr, ho⟩ := hrel
    have HP := Lib.hid hp
    have HO := Lib.hid ho
    obtain ⟨s, hs⟩ : ∃ s, s + x = m := ⟨m - x, by omega⟩
    have e3 : (m : Int) - (x : Int) = (s : Int) := by omega
    have E3 := Lib.hid e3
    have hms : m - x = s := by omega
    rw [hms] at hr
    clear hp ho e3 hms
    rcases Nat.lt_trichotomy x y with hxy | hxy | hxy
    · have b1 : ((x : Int) != (y : Int)) = true := by
        simp only [bne_iff_ne, ne_eq]
        omega
      have b2 : decide ((y : Int) < (x : Int)) = false := by
        rw [decide_eq_false_iff_not]
        omega
      have b3 : ¬ x = y := by omega
      have b4 : ¬ y < x := by omega
      have e4 : (m : Int) + (y : Int) - (x : Int) = ((m + y - x : Nat) : Int) := by omega
      have E4 := Lib.hid e4
      clear e4
      go_wp2_with fail
      rw [E3.out, E4.out]
      refine (p_swap g n c s (m + y - x) x fx fn _ (by omega) (by omega) hn (by exact HP.out)).mono ?_
      rintro e w1 ⟨rfl, hp1, ho1⟩
      have HP1 := Lib.hid hp1
      have HO1 := Lib.hid (HO.out.trans ho1)
      clear hp1 ho1
      go_wp2
      go_roundw
      case rel => exact ⟨x, y - x, _, rfl, by rw [show ((y - x : Nat) : Int) = (y : Int) - (x : Int) from by omega], hx, by omega, hax, by omega, HP1.out, Lib.hid (by rw [show m - x = s from by omega, rot_small fx s m x y hs hxy]; exact hr.out), HO1.out⟩
      case measure => simp [intOf]; omega
    · subst hxy
      go_wp2_with fail
      rw [E3.out]
      refine (p_swap g n c s m x fx fn _ (by omega) (by omega) hn (by exact HP.out)).mono ?_
      rintro e w1 ⟨rfl, hp1, ho1⟩
      have HP1 := Lib.hid hp1
      have HO1 := Lib.hid (HO.out.trans ho1)
      clear hp1 ho1
      go_wp2
      go_end0
      exact ⟨rfl, HP1.out.same ((rot_same fx s m x hs).trans hr.out), HO1.out⟩
    · have b1 : ((x : Int) != (y : Int)) = true := by
        simp only [bne_iff_ne, ne_eq]
        omega
      have b2 : decide ((y : Int) < (x : Int)) = true := by
        rw [decide_eq_true_eq]
        omega
      have b3 : ¬ x = y := by omega
      go_wp2_with fail
      rw [E3.out]
      refine (p_swap g n c s m y fx fn _ (by omega) (by omega) hn (by exact HP.out)).mono ?_
      rintro e w1 ⟨rfl, hp1, ho1⟩
      have HP1 := Lib.hid hp1
      have HO1 := Lib.hid (HO.out.trans ho1)
      clear hp1 ho1
      go_wp2
      go_roundw
      case rel => exact ⟨x - y, y, _, by rw [show ((x - y : Nat) : Int) = (x : Int) - (y : Int) from by omega], rfl, by omega, hy, by omega, hmy, HP1.out, Lib.hid (by rw [show m - (x - y) = s + y from by omega, rot_big fx s m x y hs hxy]; exact hr.out), HO1.out⟩
      case measure => simp [intOf]; omega
end Go.Proofs.Ytmiagdmfgebfdaa
