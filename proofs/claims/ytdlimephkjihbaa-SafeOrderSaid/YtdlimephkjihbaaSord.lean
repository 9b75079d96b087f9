/-
  SafeOrder of verdererlaw03 answers true at every list of Puts in memory, and changes nothing that was there: in whatever order numbers are put, the Sum is the same; what is put, and put with the opposite times, is as if it was not.
  No condition but that each number has 64 bits.
-/
import Derived.Test.YtdlimephkjihbaaSput
import Derived.Deep.RegionHeld3
namespace Go.Proofs.Ytdlimephkjihbaa
open Go.RowKit

set_option maxRecDepth 100000 in
set_option maxHeartbeats 4000000 in
theorem safeOrder_all (L : Option Addr) (ps : List (Int × Int)) (n c : Nat) (w : World) (hn : n = ps.length) (hl : n ≤ maxLen) (h64 : ∀ p ∈ ps, N64 p.1) (hp : PutsAt w w.heap.size L ps) :
    Calls Try.prog 6 #[.slice L n c] w fun e w' => e = .returned (.bool true) ∧ Below w.heap.size w w' := by
  unfold maxLen at hl
  have HP := Lib.hid hp
  have HN := Lib.hid hn
  have H64 := Lib.hid h64
  clear hp hn h64
  obtain ⟨m, hm⟩ : ∃ m, m = min n 100 := ⟨_, rfl⟩
  have hm1 : m ≤ n := by omega
  have hm2 : m ≤ 100 := by omega
  have hm3 : m = n ∨ m = 100 := by omega
  have HM := Lib.hid hm
  clear hm
  go_enter Try.func6, Try.ntmps6
  go_wp2
  go_loopw [5] (fun i wr => ∃ k : Nat, k ≤ m ∧ i = .int .i64 k ∧ SumAt wr w.heap.size (tot ((ps.take m).take k)) ∧ SumAt wr (w.heap.size + 1) (tot ((ps.take m).reverse.take k)) ∧ Below w.heap.size w wr) (fun i _ => m - (intOf i).toNat)
  case atStart =>
    refine ⟨0, Nat.zero_le _, rfl, ?_, ?_, two_new _ _ _⟩
    · exact (SumAt.new w _ rfl).below (one_new _ _) (by simp)
    · exact SumAt.new (w.alloc _) _ (by simp)
  case round =>
    obtain ⟨k, hk, rfl, ha, hbb, hb⟩ := hrel
    have HA := Lib.hid ha
    have HBB := Lib.hid hbb
    have HB := Lib.hid hb
    clear ha hbb hb
    by_cases h1 : k < m
    · obtain ⟨p, hp⟩ : ∃ p, ps[k]? = some p := ⟨_, List.getElem?_eq_getElem (by rw [← HN.out]; omega)⟩
      obtain ⟨a, rfl, ha, a0, a1⟩ := (HP.out.below HB.out) k p hp
      have g1 : k < n := by omega
      have g2 : (k : Int) < 100 := by omega
      have HPk := Lib.hid hp
      clear hp
      have hp64 : Hid (N64 p.1) := Lib.hid (H64.out p (List.mem_of_getElem? HPk.out))
      go_wp2
      go_region_held3 (fun w' => w'.cell? (a.add (k * 2)) = some (.int .i64 p.1) ∧ w'.cell? { block := (a.add (k * 2)).block, off := (a.add (k * 2)).off + 1 } = some (.int .i64 p.2)) (go_keep)
        (first | (go_at_call 24; refine (s_put_any w.heap.size _ p.1 p.2 hp64.out _ (by exact HA.out)).mono ?_; rintro e wa ⟨rfl, ha1, hb1, hk1⟩; have hcl : ∀ q : Addr, q.block < w.heap.size → wa.cell? q = wr.cell? q := fun q hq => (hb1 w.heap.size (Nat.le_refl _)).cell hq))
      have HA1 := Lib.hid ha1
      have HBB1 : Hid (SumAt wa (w.heap.size + 1) (tot ((ps.take m).reverse.take k))) := Lib.hid ((hk1 (w.heap.size + 1) HBB.out.lt (by omega)).trans HBB.out)
      have HB1 := Lib.hid (HB.out.drew.trans (hb1 w.heap.size (Nat.le_refl _)))
      clear ha1 hk1 hb1 hcl a0 a1 ha
      obtain ⟨j, hj⟩ : ∃ j, j = m - 1 - k := ⟨_, rfl⟩
      have hjn : j < n := by omega
      obtain ⟨q, hq⟩ : ∃ q, ps[j]? = some q := ⟨_, List.getElem?_eq_getElem (by rw [← HN.out]; exact hjn)⟩
      obtain ⟨a', haa, ha, a0, a1⟩ := (HP.out.below HB1.out) j q hq
      obtain rfl : a = a' := by injection haa
      have HQ := Lib.hid hq
      have hq64 : Hid (N64 q.1) := Lib.hid (H64.out q (List.mem_of_getElem? hq))
      have HJ := Lib.hid hj
      clear hq haa
      have j0 : (0 : Int) ≤ (j : Int) := by omega
      have j1 : (j : Int) < (n : Int) := by omega
      have hfin : Hid (tot ((ps.take m).reverse.take (k + 1)) = tot ((ps.take m).reverse.take k) + cn q) := Lib.hid (by
        refine tot_take _ _ _ ?_
        have hlen : (ps.take m).length = m := by rw [List.length_take, ← HN.out]; omega
        rw [List.getElem?_reverse (by rw [hlen]; exact h1), hlen, List.getElem?_take_of_lt (by omega), ← HJ.out]
        exact HQ.out)
      have hfin1 : Hid (tot ((ps.take m).take (k + 1)) = tot ((ps.take m).take k) + cn p) := Lib.hid (by
        refine tot_take _ _ _ ?_
        rw [List.getElem?_take_of_lt h1]
        exact HPk.out)
      rcases (show (n ≤ 100 ∧ (n : Int) - 1 - k = j) ∨ (100 < n ∧ (99 : Int) - k = j) from by omega) with ⟨h100, he⟩ | ⟨h100, he⟩
      all_goals
        have HE := Lib.hid he
        clear he hj
        go_wp2
        rw [HE.out]
        go_region_held3 (fun w' => w'.cell? (a.add (j * 2)) = some (.int .i64 q.1) ∧ w'.cell? { block := (a.add (j * 2)).block, off := (a.add (j * 2)).off + 1 } = some (.int .i64 q.2)) (go_keep)
          (first | (go_at_call 24; refine (s_put_any (w.heap.size + 1) _ q.1 q.2 hq64.out _ (by exact HBB1.out)).mono ?_; rintro e wb ⟨rfl, hb2, hb3, hk3⟩; have hcl : ∀ q : Addr, q.block < w.heap.size → wb.cell? q = wa.cell? q := fun q hq => (hb3 w.heap.size (Nat.le_succ _)).cell hq))
        have HA2 : Hid (SumAt wb w.heap.size (tot ((ps.take m).take k) + cn p)) := Lib.hid ((hk3 w.heap.size HA1.out.lt (by omega)).trans HA1.out)
        have HB2 := Lib.hid hb2
        have HB3 := Lib.hid (HB1.out.drew.trans (hb3 w.heap.size (Nat.le_succ _)))
        clear hb2 hk3 hb3 hcl
        go_wp2
        go_roundw
        case rel => exact ⟨k + 1, by omega, by go_num, by rw [hfin1.out]; exact HA2.out, by rw [hfin.out]; exact HB2.out, HB3.out⟩
        case measure => simp [intOf]; omega
    · obtain rfl : k = m := by omega
      have hlen : (ps.take k).length ≤ k := List.length_take_le _ _
      obtain ⟨Z, hZ⟩ : ∃ Z, tot (ps.take k) = Z := ⟨_, rfl⟩
      have hA : SumAt wr w.heap.size Z := by
        have h := HA.out
        rwa [List.take_of_length_le hlen, hZ] at h
      have hB : SumAt wr (w.heap.size + 1) Z := by
        have h := HBB.out
        rwa [List.take_of_length_le (by rw [List.length_reverse]; exact hlen), tot_reverse, hZ] at h
      have hnear : Near Z := by
        rw [← hZ]
        exact tot_near _ (fun p hp => H64.out p (List.mem_of_mem_take hp)) (by omega)
      have HZ := Lib.hid hZ
      have hA0 := Lib.hid hA
      have hB0 := Lib.hid hB
      have HNear := Lib.hid hnear
      clear HA HBB hA hB hnear hZ h1 hk
      have v1 : fitV 0 = 0 := by decide
      have v2 : fitE 0 = 0 := by decide
      have v3 : sgnV 0 = 0 := by decide
      have V := Lib.hid (And.intro v1 (And.intro v2 v3))
      clear v1 v2 v3
      have hexit : (decide (k < n) = false) ∨ (decide (k < n) = true ∧ decide ((k : Int) < 100) = false) := by
        rcases hm3 with h | h
        · left
          simp only [decide_eq_false_iff_not]
          omega
        · by_cases h2 : k < n
          · right
            simp only [decide_eq_false_iff_not, decide_eq_true_eq]
            omega
          · left
            simpa using h2
      clear hm3
      rcases hexit with h100 | ⟨h100, h101⟩
      all_goals
        go_wp2_with fail
        refine (s_value w.heap.size Z HNear.out _ (by exact hA0.out)).mono ?_
        rintro e w1 ⟨rfl, hb1⟩
        have HA1 := Lib.hid (hA0.out.below hb1 hA0.out.lt)
        have HB1 := Lib.hid (hB0.out.below hb1 hB0.out.lt)
        have HL1 := Lib.hid (HB.out.trans (hb1.mono HB.out.size))
        clear hb1
        go_wp2_with fail
        refine (s_value (w.heap.size + 1) Z HNear.out _ (by exact HB1.out)).mono ?_
        rintro e w2 ⟨rfl, hb2⟩
        have HA2 := Lib.hid (HA1.out.below hb2 HA1.out.lt)
        have HB2 := Lib.hid (HB1.out.below hb2 HB1.out.lt)
        have HL2 := Lib.hid (HL1.out.trans (hb2.mono HL1.out.size))
        clear hb2
        go_wp2_with fail
        refine (s_sign w.heap.size Z HNear.out _ (by exact HA2.out)).mono ?_
        rintro e w3 ⟨rfl, hb3⟩
        have HA3 := Lib.hid (HA2.out.below hb3 HA2.out.lt)
        have HB3 := Lib.hid (HB2.out.below hb3 HB2.out.lt)
        have HL3 := Lib.hid (HL2.out.trans (hb3.mono HL2.out.size))
        clear hb3
        go_wp2_with fail
        refine (s_sign (w.heap.size + 1) Z HNear.out _ (by exact HB3.out)).mono ?_
        rintro e w4 ⟨rfl, hb4⟩
        have HA4 := Lib.hid (HA3.out.below hb4 HA3.out.lt)
        have HL4 := Lib.hid (HL3.out.trans (hb4.mono HL3.out.size))
        clear hb4
        go_wp2
        go_loopw [11] (fun i wq => ∃ j : Nat, j ≤ k ∧ i = .int .i64 j ∧ SumAt wq w.heap.size (Z - tot ((ps.take k).take j)) ∧ Below w.heap.size w wq) (fun i _ => k - (intOf i).toNat)
        case atStart =>
          refine ⟨0, Nat.zero_le _, rfl, ?_, HL4.out⟩
          have h := HA4.out
          simp only [List.take_zero]
          have e0 : Z - tot [] = Z := by simp [tot]
          rw [e0]
          exact h
        case round =>
          obtain ⟨j, hj, rfl, ha, hb⟩ := hrel
          have HAj := Lib.hid ha
          have HBj := Lib.hid hb
          clear ha hb
          by_cases h1 : j < k
          · obtain ⟨p, hp⟩ : ∃ p, ps[j]? = some p := ⟨_, List.getElem?_eq_getElem (by rw [← HN.out]; omega)⟩
            obtain ⟨a, rfl, ha, a0, a1⟩ := (HP.out.below HBj.out) j p hp
            have hp64 : Hid (N64 p.1) := Lib.hid (H64.out p (List.mem_of_getElem? hp))
            have hfin : Hid (tot ((ps.take k).take (j + 1)) = tot ((ps.take k).take j) + cn p) := Lib.hid (by
              refine tot_take _ _ _ ?_
              rw [List.getElem?_take_of_lt h1]
              exact hp)
            have j0 : decide (j < n) = true := by simp; omega
            have j1 : decide ((j : Int) < 100) = true := by simp; omega
            have j2 : j < n := by omega
            clear hp
            rcases Bool.eq_false_or_eq_true (many p.2) with hm | hm
            · have hc : Hid (cn p = 0) := Lib.hid (by unfold cn; rw [if_pos hm])
              unfold many at hm
              simp only [Bool.or_eq_true, decide_eq_true_eq] at hm
              by_cases hm0 : p.2 < -1073741824
              · have hm1 : ¬ -1073741824 ≤ p.2 := by omega
                clear hm
                go_wp2
                go_roundw
                case rel => exact ⟨j + 1, by omega, by go_num, by rw [hfin.out, hc.out, Int.add_zero]; exact HAj.out, HBj.out⟩
                case measure => simp [intOf]; omega
              · have hm1 : -1073741824 ≤ p.2 := by omega
                have hm2 : ¬ p.2 ≤ 1073741824 := by omega
                clear hm hm0
                go_wp2
                go_roundw
                case rel => exact ⟨j + 1, by omega, by go_num, by rw [hfin.out, hc.out, Int.add_zero]; exact HAj.out, HBj.out⟩
                case measure => simp [intOf]; omega
            · have hc : Hid (cn p = p.1 * p.2) := Lib.hid (by unfold cn; rw [hm]; rfl)
              unfold many at hm
              simp only [Bool.or_eq_false_iff, decide_eq_false_iff_not] at hm
              obtain ⟨hm0, hm1⟩ := hm
              have hm2 : -1073741824 ≤ p.2 := by omega
              have hm3 : p.2 ≤ 1073741824 := by omega
              have hneg : many (-p.2) = false := by
                unfold many
                simp only [Bool.or_eq_false_iff, decide_eq_false_iff_not]
                omega
              have HNeg := Lib.hid hneg
              have hsum : Hid (Z - tot ((ps.take k).take j) + p.1 * -p.2 = Z - tot ((ps.take k).take (j + 1))) := Lib.hid (by
                rw [hfin.out, hc.out, Int.mul_neg]
                omega)
              have hwrap : IntKind.i64.wrap (-p.2) = -p.2 := by
                rw [IntKind.wrap_i64]
                omega
              clear hm0 hm1 hneg
              go_wp2
              go_region_held3 (fun w' => w'.cell? (a.add (j * 2)) = some (.int .i64 p.1) ∧ w'.cell? { block := (a.add (j * 2)).block, off := (a.add (j * 2)).off + 1 } = some (.int .i64 p.2)) (go_keep)
                (first | (go_at_call 24; refine (s_put' w.heap.size _ p.1 (-p.2) _ hp64.out HNeg.out hsum.out _ (by exact HAj.out)).mono ?_; rintro e wa ⟨rfl, ha1, hb1, hk1⟩; have hcl : ∀ q : Addr, q.block < w.heap.size → wa.cell? q = wr.cell? q := fun q hq => (hb1 w.heap.size (Nat.le_refl _)).cell hq))
              have HA5 := Lib.hid ha1
              have HB5 := Lib.hid (HBj.out.drew.trans (hb1 w.heap.size (Nat.le_refl _)))
              clear ha1 hk1 hb1 hcl
              go_wp2
              go_roundw
              case rel => exact ⟨j + 1, by omega, by go_num, HA5.out, HB5.out⟩
              case measure => simp [intOf]; omega
          · obtain rfl : j = k := by omega
            have h5 : SumAt wr w.heap.size 0 := by
              have h := HAj.out
              rw [List.take_of_length_le hlen, HZ.out, Int.sub_self] at h
              exact h
            have H5 := Lib.hid h5
            clear h5
            go_wp2_with fail
            refine (s_value w.heap.size 0 (by unfold Near; omega) _ (by exact H5.out)).mono ?_
            rintro e w5 ⟨rfl, hb5⟩
            rw [V.out.1, V.out.2.1]
            have H6 := Lib.hid (H5.out.below hb5 H5.out.lt)
            have HL6 := Lib.hid (HBj.out.trans (hb5.mono HBj.out.size))
            clear hb5
            go_wp2_with fail
            refine (s_sign w.heap.size 0 (by unfold Near; omega) _ (by exact H6.out)).mono ?_
            rintro e w6 ⟨rfl, hb6⟩
            rw [V.out.2.2]
            have HL7 := Lib.hid (HL6.out.trans (hb6.mono HL6.out.size))
            clear hb6
            go_wp2_with fail
            refine (known _).mono ?_
            rintro e w7 ⟨rfl, hb7⟩
            have HL8 := Lib.hid (HL7.out.trans (hb7.mono HL7.out.size))
            clear hb7
            go_wp2
            go_ret
            exact ⟨rfl, HL8.out⟩
end Go.Proofs.Ytdlimephkjihbaa
