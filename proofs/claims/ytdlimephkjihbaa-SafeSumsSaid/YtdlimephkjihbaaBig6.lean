/-
  The document's own Value and Sign of a number in digits: the number that it is, or that it does not fit; below, at, or above 0; at every number in digits, in every world; nothing that was there is changed.
  No condition.
-/
import Derived.Test.YtdlimephkjihbaaBig4
namespace Go.Proofs.Ytdlimephkjihbaa
open Go.RowKit

theorem fit_yes (z : Int) (h0 : -9223372036854775808 ≤ z) (h1 : z ≤ 9223372036854775807) : fitV z = z ∧ fitE z = 0 := by
  have h : fits z = true := by
    unfold fits
    simp only [Bool.and_eq_true, decide_eq_true_eq]
    exact ⟨h0, h1⟩
  unfold fitV fitE
  rw [if_pos h, if_pos h]
  exact ⟨rfl, rfl⟩
theorem fit_no (z : Int) (h : z < -9223372036854775808 ∨ 9223372036854775807 < z) : fitV z = 0 ∧ fitE z = 10 := by
  have h : ¬ fits z = true := by
    unfold fits
    simp only [Bool.and_eq_true, decide_eq_true_eq]
    omega
  unfold fitV fitE
  rw [if_neg h, if_neg h]
  exact ⟨rfl, rfl⟩
theorem over_four (ng : Bool) (ds : List Nat) (j : Nat) (hj : 4 ≤ j) (h : 0 < dg ds j) : fitV (sg ng (val ds)) = 0 ∧ fitE (sg ng (val ds)) = 10 := by
  have h1 := val_pos ds j h
  have h2 : 65536 ^ 4 ≤ 65536 ^ j := Nat.pow_le_pow_right (by omega) hj
  have h3 : 18446744073709551616 ≤ val ds := by omega
  refine fit_no _ ?_
  cases ng
  · rw [sg_false]
    omega
  · rw [sg_true]
    omega
/-- What is left of a number of four digits. -/
theorem left_lt (ds : List Nat) (hd : Dig ds) (h : val (ds.drop 4) = 0) (j : Nat) (hj : j ≤ 3) : val (ds.drop (j + 1)) * 65536 + dg ds j < 18446744073709551616 ∧ val (ds.drop (j + 1)) < 281474976710656 := by
  have d0 := dg_lt ds hd 0
  have d1 := dg_lt ds hd 1
  have d2 := dg_lt ds hd 2
  have d3 := dg_lt ds hd 3
  have v3 := val_drop ds 3
  have v2 := val_drop ds 2
  have v1 := val_drop ds 1
  simp only [Nat.reduceAdd] at v3 v2 v1
  rw [h] at v3
  rcases (show j = 0 ∨ j = 1 ∨ j = 2 ∨ j = 3 from by omega) with rfl | rfl | rfl | rfl
  · simp only [Nat.reduceAdd]
    omega
  · simp only [Nat.reduceAdd]
    omega
  · simp only [Nat.reduceAdd]
    omega
  · simp only [Nat.reduceAdd]
    rw [h]
    omega

theorem dec_lt {a b : Nat} (h : a < b) : decide (a < b) = true := by simpa using h

set_option maxRecDepth 100000 in
set_option maxHeartbeats 4000000 in
theorem big_value (v : Value) (z : Int) (w : World) (h : BigIs w v z) : Calls Try.prog 28 #[v] w fun e w' => e = .returned (.tuple #[.int .i64 (fitV z), .int .i64 (fitE z)]) ∧ Below w.heap.size w w' := by
  obtain ⟨ng, A, n, c, ds, rfl, hn, hx, hd, rfl⟩ := h
  have HXA := Lib.hid (fun k W (h : Below w.heap.size w W) => big_at ng A ds n c k W hn (hx.later h))
  have HD := Lib.hid hd
  obtain ⟨fv, hfv⟩ : ∃ f, fitV (sg ng (val ds)) = f := ⟨_, rfl⟩
  obtain ⟨fe, hfe⟩ : ∃ f, fitE (sg ng (val ds)) = f := ⟨_, rfl⟩
  rw [hfv, hfe]
  have HFV := Lib.hid hfv
  have HFE := Lib.hid hfe
  clear hn hx hd hfv hfe
  go_enter Try.func28, Try.ntmps28
  go_wp2
  go_loopw [4, 5] (fun u i wr => ∃ (z : Int) (k : Nat), i = .int .i64 z ∧ z = (k : Int) - 1 ∧ k ≤ 20 ∧ u = .int .u64 ((val (ds.drop k) : Nat) : Int) ∧ Hid (4 ≤ k → val (ds.drop k) = 0) ∧ Hid (k ≤ 4 → val (ds.drop 4) = 0) ∧ BBlk wr w.heap.size ng (.slice A n c) ∧ Below w.heap.size w wr) (fun _ i _ => (intOf i + 1).toNat)
  case atStart => exact ⟨19, 20, rfl, by omega, by omega, by rw [val_end ds HD.out 20 (by omega)]; rfl, Lib.hid (fun _ => val_end ds HD.out 20 (by omega)), Lib.hid (fun h => by omega), BBlk.new w _ ng _ rfl, one_new _ _⟩
  case round =>
    obtain ⟨z, k, rfl, hz, hk, rfl, h4, h5, hb, hbw⟩ := hrel
    have HB := Lib.hid hb
    have HBW := Lib.hid hbw
    obtain ⟨p0, p1⟩ := hb.cells
    clear hb hbw
    by_cases hz0 : 0 ≤ z
    · obtain ⟨j, rfl⟩ : ∃ j, k = j + 1 := ⟨k - 1, by omega⟩
      obtain rfl : z = (j : Int) := by omega
      clear hz hz0
      have hx := HXA.out j
      have hxl := dg_lt ds HD.out j
      have hvd := val_drop ds j
      obtain ⟨x, ex⟩ : ∃ x, dg ds j = x := ⟨_, rfl⟩
      rw [ex] at hx hxl hvd
      have HXJ := Lib.hid hx
      have EX := Lib.hid ex
      have HVD := Lib.hid hvd
      clear hx ex hvd
      by_cases hj : 4 ≤ j
      · have b1 : decide ((3 : Int) < (j : Int)) = true := by
          rw [decide_eq_true_eq]
          omega
        have b2 : ¬ (j : Int) ≤ 3 := by omega
        have hv0 := h4.out (by omega)
        have HV0 := Lib.hid hv0
        rw [hv0]
        clear hv0
        by_cases hx0 : x = 0
        · subst hx0
          go_wp2_with (go_at_call 61; refine (HXJ.out _ (by exact HBW.out)).mono ?_; rintro e wa ⟨rfl, hba⟩; have HBa := Lib.hid (HBW.out.trans (hba.mono HBW.out.size)); have HK := Lib.hid (HB.out.below hba HB.out.lt); clear hba; obtain ⟨p0, p1⟩ := HK.out.cells)
          go_roundw
          case rel => exact ⟨(j : Int) - 1, j, rfl, rfl, by omega, by rw [HVD.out, HV0.out]; rfl, Lib.hid (fun _ => by rw [HVD.out, HV0.out]), Lib.hid (fun h => by obtain rfl : j = 4 := (by omega); rw [HVD.out, HV0.out]), HK.out, HBa.out⟩
          case measure =>
            simp [intOf]
        · have b3 : (0 : Int) < (x : Int) := by omega
          have hov := over_four ng ds j hj (by rw [EX.out]; omega)
          have HOV := Lib.hid hov
          clear hov hx0
          go_wp2_with (go_at_call 61; refine (HXJ.out _ (by exact HBW.out)).mono ?_; rintro e wa ⟨rfl, hba⟩; have HBa := Lib.hid (HBW.out.trans (hba.mono HBW.out.size)); clear hba)
          go_ret2
          exact ⟨by rw [← HFV.out, ← HFE.out, HOV.out.1, HOV.out.2]; exact rfl, HBa.out⟩
      · have b1 : decide ((3 : Int) < (j : Int)) = false := by
          rw [decide_eq_false_iff_not]
          omega
        have b2 : (j : Int) ≤ 3 := by omega
        have hl := left_lt ds HD.out (h5.out (by omega)) j (by omega)
        rw [EX.out] at hl
        obtain ⟨V, hV⟩ : ∃ V, val (ds.drop (j + 1)) = V := ⟨_, rfl⟩
        rw [hV] at hl ⊢
        have hw1 : IntKind.u64.wrap ((V : Int) * 65536) = (V : Int) * 65536 := by
          rw [wrap_u64]
          omega
        have hw2 : IntKind.u64.wrap ((V : Int) * 65536 + (x : Int)) = (V : Int) * 65536 + (x : Int) := by
          rw [wrap_u64]
          omega
        have HV := Lib.hid hV
        clear hl hV
        go_wp2_with (go_at_call 61; refine (HXJ.out _ (by exact HBW.out)).mono ?_; rintro e wa ⟨rfl, hba⟩; have HBa := Lib.hid (HBW.out.trans (hba.mono HBW.out.size)); have HK := Lib.hid (HB.out.below hba HB.out.lt); clear hba; obtain ⟨p0, p1⟩ := HK.out.cells)
        go_roundw
        case rel => exact ⟨(j : Int) - 1, j, rfl, rfl, by omega, by rw [HVD.out, HV.out]; first | rfl | (congr 1; omega), Lib.hid (fun h => by omega), Lib.hid (fun _ => h5.out (by omega)), HK.out, HBa.out⟩
        case measure => simp [intOf]
    · obtain rfl : k = 0 := by omega
      obtain rfl : z = -1 := by omega
      have hl := left_lt ds HD.out (h5.out (by omega)) 0 (by omega)
      have hvd := val_drop ds 0
      rw [List.drop_zero] at hvd ⊢
      obtain ⟨U, hU⟩ : ∃ U, val ds = U := ⟨_, rfl⟩
      rw [hU] at HFV HFE hvd ⊢
      have hUl : U < 18446744073709551616 := by omega
      clear hl hvd hz hz0 hU
      cases ng
      · rw [sg_false] at HFV HFE
        by_cases hs : U < 9223372036854775808
        · have hs' : decide ((U : Int) < 9223372036854775808) = true := by
            rw [decide_eq_true_eq]
            omega
          have hf := fit_yes (U : Int) (by omega) (by omega)
          have HC : Hid (wrap64 (U : Int) = (U : Int)) := Lib.hid (by unfold wrap64; omega)
          have HF := Lib.hid hf
          clear hf hUl hs
          go_wp2
          go_ret2
          exact ⟨by rw [← HFV.out, ← HFE.out, HF.out.1, HF.out.2]; exact (by rw [HC.out]; exact rfl), HBW.out⟩
        · have hs' : decide ((U : Int) < 9223372036854775808) = false := by
            rw [decide_eq_false_iff_not]
            omega
          have hf := fit_no (U : Int) (by omega)
          have HF := Lib.hid hf
          clear hf hUl hs
          go_wp2
          go_ret2
          exact ⟨by rw [← HFV.out, ← HFE.out, HF.out.1, HF.out.2]; exact rfl, HBW.out⟩
      · rw [sg_true] at HFV HFE
        by_cases hs : U ≤ 9223372036854775808
        · have hs' : decide ((U : Int) ≤ 9223372036854775808) = true := by
            rw [decide_eq_true_eq]
            omega
          have hf := fit_yes (-(U : Int)) (by omega) (by omega)
          have HC : Hid (wrap64 (IntKind.u64.wrap (-(U : Int))) = -(U : Int)) := Lib.hid (by rw [wrap_u64]; unfold wrap64; omega)
          have HC2 : Hid (wrap64 (IntKind.u64.wrap (0 - (U : Int))) = -(U : Int)) := Lib.hid (by rw [wrap_u64]; unfold wrap64; omega)
          have HF := Lib.hid hf
          clear hf hUl hs
          go_wp2
          go_ret2
          exact ⟨by rw [← HFV.out, ← HFE.out, HF.out.1, HF.out.2]; exact (by rw [HC.out]; exact rfl), HBW.out⟩
        · have hs' : decide ((U : Int) ≤ 9223372036854775808) = false := by
            rw [decide_eq_false_iff_not]
            omega
          have hf := fit_no (-(U : Int)) (by omega)
          have HF := Lib.hid hf
          clear hf hUl hs
          go_wp2
          go_ret2
          exact ⟨by rw [← HFV.out, ← HFE.out, HF.out.1, HF.out.2]; exact rfl, HBW.out⟩

/-- Is a number in digits 0? -/
theorem sgn_pos (ng : Bool) (ds : List Nat) (j : Nat) (h : 0 < dg ds j) : sgnV (sg ng (val ds)) = if ng = true then -1 else 1 := by
  have h1 := val_pos ds j h
  have h2 : 0 < 65536 ^ j := Nat.pow_pos (by omega)
  unfold sgnV
  cases ng
  · rw [sg_false, if_neg (by omega), if_neg (by omega)]
    rfl
  · rw [sg_true, if_neg (by omega), if_pos (by omega)]
    rfl
theorem sgn_zero (ng : Bool) (ds : List Nat) (h : val ds = 0) : sgnV (sg ng (val ds)) = 0 := by
  rw [h]
  cases ng <;> rfl

set_option maxRecDepth 100000 in
set_option maxHeartbeats 2000000 in
theorem big_sign (v : Value) (z : Int) (w : World) (h : BigIs w v z) : Calls Try.prog 30 #[v] w fun e w' => e = .returned (.int .i64 (sgnV z)) ∧ Below w.heap.size w w' := by
  obtain ⟨ng, A, n, c, ds, rfl, hn, hx, hd, rfl⟩ := h
  have HXA := Lib.hid (fun k W (h : Below w.heap.size w W) => big_at ng A ds n c k W hn (hx.later h))
  have HD := Lib.hid hd
  obtain ⟨sv, hsv⟩ : ∃ f, sgnV (sg ng (val ds)) = f := ⟨_, rfl⟩
  rw [hsv]
  have HSV := Lib.hid hsv
  clear hn hx hd hsv
  go_enter Try.func30, Try.ntmps30
  go_wp2
  go_loopw [3] (fun i wr => ∃ k : Nat, k ≤ 20 ∧ i = .int .i64 k ∧ Hid (val ds = 65536 ^ k * val (ds.drop k)) ∧ BBlk wr w.heap.size ng (.slice A n c) ∧ Below w.heap.size w wr) (fun i _ => 20 - (intOf i).toNat)
  case atStart => exact ⟨0, by omega, rfl, Lib.hid (by simp), BBlk.new w _ ng _ rfl, one_new _ _⟩
  case round =>
    obtain ⟨k, hk, rfl, hv, hb, hbw⟩ := hrel
    have HB := Lib.hid hb
    have HBW := Lib.hid hbw
    obtain ⟨p0, p1⟩ := hb.cells
    clear hb hbw
    by_cases h1 : k < 20
    · have hx := HXA.out k
      have hvd := val_drop ds k
      obtain ⟨x, ex⟩ : ∃ x, dg ds k = x := ⟨_, rfl⟩
      rw [ex] at hx hvd
      have HXJ := Lib.hid hx
      have EX := Lib.hid ex
      have HVD := Lib.hid hvd
      clear hx ex hvd
      by_cases hx0 : x = 0
      · subst hx0
        go_wp2_with (go_at_call 61; refine (HXJ.out _ (by exact HBW.out)).mono ?_; rintro e wa ⟨rfl, hba⟩; have HBa := Lib.hid (HBW.out.trans (hba.mono HBW.out.size)); have HK := Lib.hid (HB.out.below hba HB.out.lt); clear hba; obtain ⟨p0, p1⟩ := HK.out.cells)
        go_roundw
        case rel => exact ⟨k + 1, by omega, by go_num, Lib.hid (by rw [hv.out, HVD.out, Nat.pow_succ, Nat.zero_add, Nat.mul_assoc]), HK.out, HBa.out⟩
        case measure => simp [intOf]; omega
      · have b3 : (0 : Int) < (x : Int) := by omega
        have hs := sgn_pos ng ds k (by rw [EX.out]; omega)
        have HS := Lib.hid hs
        clear hs hx0
        cases ng
        · go_wp2_with (go_at_call 61; refine (HXJ.out _ (by exact HBW.out)).mono ?_; rintro e wa ⟨rfl, hba⟩; have HBa := Lib.hid (HBW.out.trans (hba.mono HBW.out.size)); have HK := Lib.hid (HB.out.below hba HB.out.lt); clear hba; obtain ⟨p0, p1⟩ := HK.out.cells)
          go_ret
          exact ⟨ret_int (by rw [← HSV.out, HS.out]; rfl), HBa.out⟩
        · go_wp2_with (go_at_call 61; refine (HXJ.out _ (by exact HBW.out)).mono ?_; rintro e wa ⟨rfl, hba⟩; have HBa := Lib.hid (HBW.out.trans (hba.mono HBW.out.size)); have HK := Lib.hid (HB.out.below hba HB.out.lt); clear hba; obtain ⟨p0, p1⟩ := HK.out.cells)
          go_ret
          exact ⟨ret_int (by rw [← HSV.out, HS.out]; rfl), HBa.out⟩
    · obtain rfl : k = 20 := by omega
      have hs := sgn_zero ng ds (by rw [hv.out, val_end ds HD.out 20 (by omega), Nat.mul_zero])
      have HS := Lib.hid hs
      clear hs
      go_wp2
      go_ret
      exact ⟨ret_int (by rw [← HSV.out, HS.out]), HBW.out⟩
end Go.Proofs.Ytdlimephkjihbaa
