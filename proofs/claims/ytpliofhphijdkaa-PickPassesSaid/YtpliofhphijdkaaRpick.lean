/-
  The document's own Pick and Join of rows: the cells of the rows that they make.
  No condition but that rows and lists are no longer than one million.
-/
import Derived.Test.YtpliofhphijdkaaOf
namespace Go.Proofs.Ytpliofhphijdkaa
open Go.RowKit

set_option maxHeartbeats 1000000 in
theorem ref_pick (A C : Option Addr) (xs : List V) (zs : List Int) (n m c c' : Nat) (w : World) (hn : n = xs.length) (hm : m = zs.length) (hl : m ≤ 1100000) (hx : RowAt w w.heap.size A xs) (hz : IntsAt w w.heap.size C zs) :
    Calls Try.prog 21 #[.slice A n c, .slice C m c'] w (Picked w (pickR xs zs)) := by
  have HX := Lib.hid hx
  have HC := Lib.hid hz
  have HN := Lib.hid hn
  have HM := Lib.hid hm
  clear hx hz hn hm
  go_enter Try.func21, Try.ntmps21
  go_wp2
  go_loopw [6, 7] (fun v i wr => ∃ k : Nat, k ≤ m ∧ i = .int .i64 k ∧ (zs.take k).all (inR xs.length) = true ∧ Own wr w.heap.size v ((zs.take k).map (getV xs)) ∧ Below w.heap.size w wr) (fun _ i _ => m - (intOf i).toNat)
  case atStart => exact ⟨0, Nat.zero_le _, rfl, rfl, Own.nil _ _, Below.refl _ _⟩
  case round =>
    obtain ⟨k, hk, rfl, hall, hown, hb⟩ := hrel
    have HA := Lib.hid hall
    have HO := Lib.hid hown
    have HB := Lib.hid hb
    have hsz : w.heap.size ≤ wr.heap.size := hb.size
    clear hall hown hb
    by_cases h1 : k < m
    · obtain ⟨z, hz⟩ : ∃ z, zs[k]? = some z := ⟨_, List.getElem?_eq_getElem (by rw [← HM.out]; exact h1)⟩
      obtain ⟨q, rfl, _, hq⟩ := (HC.out.below HB.out) k z hz
      have HZ := Lib.hid hz
      clear hz
      by_cases z0 : 0 ≤ z
      · by_cases z1 : z < (n : Int)
        · have HI : Hid (inR n z = true) := Lib.hid (by simp [inR, z0, z1])
          obtain ⟨a, rfl, ha, a0, a1, a2, a3⟩ := (HX.out.below HB.out) z.toNat (getV xs z) (getV_at xs z (by rw [← HN.out]; exact HI.out))
          have ha' : (a.add (z.toNat * 4)).block < wr.heap.size := by omega
          go_wp2_with (at_builtin; go_must (refine wp_append_V _ rfl (.tmp 28) (.tmp 36) rfl w.heap.size _ ((zs.take k).map (getV xs)) [getV xs z] rfl (HO.out.alloc _) _ _ _ _ rfl rfl (row_lit1 _ _) (by simp; omega) (by simp; omega) ?_; intro v' w1 hown1 hb1 _))
          have HO1 := Lib.hid hown1
          have HB1 := Lib.hid hb1
          clear hown1 hb1
          go_wp2
          go_roundw
          case rel =>
            refine ⟨k + 1, by omega, by go_num, ?_, ?_, (HB.out.trans (one_new_far _ _ hsz)).trans HB1.out⟩
            · rw [all_take_succ _ _ _ _ HZ.out, HA.out, ← HN.out, HI.out]
              rfl
            · rw [map_take_succ _ _ _ _ HZ.out]
              exact HO1.out
          case measure => simp [intOf]; omega
        · have HI : Hid (inR n z = false) := Lib.hid (by simp [inR]; omega)
          go_wp2
          go_ret2
          rw [pickR_no xs zs k z HZ.out (by rw [← HN.out]; exact HI.out)]
          exact ⟨_, rfl, Own.nil _ _, HB.out⟩
      · have HI : Hid (inR n z = false) := Lib.hid (by simp [inR]; omega)
        go_wp2
        go_ret2
        rw [pickR_no xs zs k z HZ.out (by rw [← HN.out]; exact HI.out)]
        exact ⟨_, rfl, Own.nil _ _, HB.out⟩
    · obtain rfl : k = m := by omega
      have hall : zs.all (inR xs.length) = true := by
        have h := HA.out
        rwa [List.take_of_length_le (by rw [← HM.out]; omega)] at h
      have hp : pickR xs zs = (zs.map (getV xs), 0) := by unfold pickR; rw [if_pos hall]
      have HP := Lib.hid hp
      clear hall hp
      go_wp2
      go_ret2
      rw [HP.out]
      refine ⟨_, rfl, ?_, HB.out⟩
      have h := HO.out
      rwa [List.take_of_length_le (by rw [← HM.out]; omega)] at h

end Go.Proofs.Ytpliofhphijdkaa
