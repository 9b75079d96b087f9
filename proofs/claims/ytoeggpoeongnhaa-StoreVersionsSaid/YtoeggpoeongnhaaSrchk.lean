/-
  Check of the document's schema: why kinds can not be beside each other; nothing that was there is changed.
  No condition but that a list has no more than a million.
-/
import Derived.Test.YtoeggpoeongnhaaSrcol
namespace Go.Proofs.Ytoeggpoeongnhaa
open Go.RowKit

theorem kindF_cols (ah : List Sc) (x : Sc) (h1 : nameR x.nm.data.toList = true) (h2 : sameNm x.nm tenantB = false) (h3 : ah.any (fun d => sameNm d.nm x.nm) = false) : kindF ah x = colsR x.cols := by
  unfold kindF colsR
  rw [if_neg (by rw [h1, h2]; simp), if_neg (by rw [h3]; simp)]

set_option maxRecDepth 100000 in
set_option maxHeartbeats 4000000 in
theorem ref_check (Q : Nat → Prop) (A : Option Addr) (ls : List RS) (l : List Sc) (n c : Nat) (w : World) (hn : n = l.length) (hl : n ≤ 1000000) (hr : ScR w Q ls l) (hx : CellsQ w Q A (flatS ls)) :
    Calls Try.prog 70 #[.slice A n c] w fun e w' => e = .returned (.int .i64 (faultR l)) ∧ Below w.heap.size w w' := by
  have HX := Lib.hid hx
  have HR := Lib.hid hr
  have HN := Lib.hid hn
  clear hx hr hn
  by_cases h8 : 8 < n
  · have e : faultR l = 9 := by unfold faultR; rw [if_pos (by rw [← HN.out]; exact h8)]
    rw [e]
    clear e
    go_enter Try.func70, Try.ntmps70
    go_wp2
    go_ret
    exact ⟨rfl, Below.refl _ _⟩
  obtain ⟨R, hR⟩ : ∃ R, faultR l = R := ⟨_, rfl⟩
  have hR2 : kindsF l n 0 = R := by rw [← hR]; unfold faultR; rw [if_neg (by rw [← HN.out]; exact h8), HN.out]
  rw [hR]
  have HRR := Lib.hid hR2
  clear hR hR2
  have h9 : n ≤ 8 := by omega
  clear h8
  go_enter Try.func70, Try.ntmps70
  go_wp2
  go_loopw [3] (fun i wr => ∃ k : Nat, k ≤ n ∧ i = .int .i64 k ∧ kindsF l (n - k) k = R ∧ Below w.heap.size w wr) (fun i _ => n - (intOf i).toNat)
  case atStart => exact ⟨0, Nat.zero_le _, rfl, HRR.out, Below.refl _ _⟩
  case round =>
    obtain ⟨wo, hwo⟩ : ∃ wo, wo = wr := ⟨_, rfl⟩
    subst hwo
    obtain ⟨k, hk, rfl, hq, hb⟩ := hrel
    have HQ := Lib.hid hq
    have HB := Lib.hid hb
    clear hq hb
    by_cases h1 : k < n
    · obtain ⟨x, hx⟩ : ∃ x, l[k]? = some x := ⟨_, List.getElem?_eq_getElem (by rw [← HN.out]; exact h1)⟩
      obtain ⟨a, v, rfl, hv, ha, d0, d1⟩ := kind_get (HR.out.keep (Below.keepQ HB.out Q)) (HX.out.below HB.out) k x hx
      have hst := kindsF_step l (n - (k + 1)) k x hx
      rw [show n - (k + 1) + 1 = n - k from by omega, HQ.out] at hst
      have HST := Lib.hid hst
      have HD := Lib.hid hx
      have HV := Lib.hid hv
      obtain ⟨nm9, cs9⟩ := x
      clear hx hst hv
      rcases Bool.eq_false_or_eq_true (nameR nm9.data.toList) with hn1 | hn1
      · have HNM := Lib.hid hn1
        rcases Bool.eq_false_or_eq_true (sameNm nm9 tenantB) with ht | ht
        · have bt : (nm9.toList == [116, 101, 110, 97, 110, 116]) = true := by rw [← same_ten]; exact ht
          have hz : R = 3 := by
            have hc : kindF (l.take k) ⟨nm9, cs9⟩ = 3 := by unfold kindF; rw [if_pos (Or.inr ht)]
            rw [HST.out, hc]
            rfl
          subst hz
          clear hn1 ht
          go_wp2_with fail
          refine (ref_name _ _).mono ?_
          rintro e w1 ⟨rfl, rfl⟩
          rw [HNM.out]
          go_wp2
          go_ret
          exact ⟨rfl, HB.out⟩
        · have bt : (nm9.toList == [116, 101, 110, 97, 110, 116]) = false := by rw [← same_ten]; exact ht
          have HTN := Lib.hid ht
          clear hn1 ht
          go_wp2_with fail
          refine (ref_name _ _).mono ?_
          rintro e w1 ⟨rfl, rfl⟩
          rw [HNM.out]
          go_wp2
          go_loopw [4] (fun i wq => ∃ m : Nat, m ≤ k ∧ i = .int .i64 m ∧ (l.take m).any (fun d => sameNm d.nm nm9) = false ∧ Below w.heap.size w wq) (fun i _ => k - (intOf i).toNat)
          case atStart => exact ⟨0, Nat.zero_le _, rfl, by simp, HB.out⟩
          case round =>
            obtain ⟨wi, hwi⟩ : ∃ wi, wi = wr := ⟨_, rfl⟩
            subst hwi
            obtain ⟨m, hm, rfl, hq2, hb2⟩ := hrel
            have HQ2 := Lib.hid hq2
            have HB2 := Lib.hid hb2
            clear hq2 hb2
            obtain ⟨a3, v3, ha3, hv3, hb3, f0, f1⟩ := kind_get (HR.out.keep (Below.keepQ HB2.out Q)) (HX.out.below HB2.out) k _ HD.out
            injection ha3 with ha3
            subst ha3
            by_cases h8 : m < k
            · obtain ⟨d2, hd2⟩ : ∃ d2, l[m]? = some d2 := ⟨_, List.getElem?_eq_getElem (by rw [← HN.out]; omega)⟩
              obtain ⟨a2, v2, ha2, _, hb2, e0, _⟩ := kind_get (HR.out.keep (Below.keepQ HB2.out Q)) (HX.out.below HB2.out) m d2 hd2
              injection ha2 with ha2
              subst ha2
              have HD2 := Lib.hid hd2
              have hkn : m < n := by omega
              obtain ⟨nm8, cs8⟩ := d2
              clear hd2 hv3
              rcases Bool.eq_false_or_eq_true (sameNm nm8 nm9) with hz | hz
              · have bz : (nm8.toList == nm9.toList) = true := hz
                have hR4 : R = 4 := by
                  have hc : kindF (l.take k) ⟨nm9, cs9⟩ = 4 := by
                    unfold kindF
                    rw [if_neg (by simp only; rw [HNM.out, HTN.out]; simp), if_pos (any_take_hit l _ m k _ HD2.out h8 hz)]
                  rw [HST.out, hc]
                  rfl
                subst hR4
                clear hz
                go_wp2
                go_quiet (fail)
                go_wp2
                go_ret
                exact ⟨rfl, below_dN HB2.out _⟩
              · have bz : (nm8.toList == nm9.toList) = false := hz
                have HZ := Lib.hid hz
                clear hz
                go_wp2
                go_quiet (fail)
                go_wp2
                go_roundw
                case rel => exact ⟨m + 1, by omega, by go_num, by rw [any_take _ _ _ _ HD2.out, HQ2.out, HZ.out]; rfl, below_dN HB2.out _⟩
                case measure => simp [intOf]; omega
            · obtain rfl : m = k := by omega
              have hkc := kindF_cols (l.take m) ⟨nm9, cs9⟩ HNM.out HTN.out HQ2.out
              rw [hkc] at HST
              have HV3 := Lib.hid hv3
              obtain ⟨hcl, A4, c4, rfl, _, _, hcs⟩ := hv3
              have HCR := Lib.hid (ref_columns _ _ cs9 _ c4 wi rfl hcl hcs)
              clear hkc hcs
              generalize colsR cs9 = S at *
              by_cases hS : S = 0
              · subst hS
                have hR5 : kindsF l (n - (m + 1)) (m + 1) = R := by rw [HST.out]; rfl
                have HR5 := Lib.hid hR5
                clear hR5
                go_wp2_with fail
                refine HCR.out.mono ?_
                rintro e w3 ⟨rfl, hb5⟩
                have HB5 := Lib.hid (HB2.out.trans (hb5.mono HB2.out.size))
                clear hb5
                go_wp2
                go_roundw
                case rel => exact ⟨m + 1, by omega, by go_num, HR5.out, HB5.out⟩
                case measure => simp [intOf]; omega
              · have b0 : (S == 0) = false := by simpa using hS
                have b1 : (S != 0) = true := by unfold bne; rw [b0]; rfl
                have hz : R = S := by rw [HST.out, if_neg hS]
                subst hz
                clear hS
                go_wp2_with fail
                refine HCR.out.mono ?_
                rintro e w3 ⟨rfl, hb5⟩
                have HB5 := Lib.hid (HB2.out.trans (hb5.mono HB2.out.size))
                clear hb5
                go_wp2
                go_ret
                exact ⟨rfl, HB5.out⟩
      · have HNM := Lib.hid hn1
        have hz : R = 3 := by
          have hc : kindF (l.take k) ⟨nm9, cs9⟩ = 3 := by unfold kindF; rw [if_pos (Or.inl HNM.out)]
          rw [HST.out, hc]
          rfl
        subst hz
        clear hn1
        go_wp2_with fail
        refine (ref_name _ _).mono ?_
        rintro e w1 ⟨rfl, rfl⟩
        rw [HNM.out]
        go_wp2
        go_ret
        exact ⟨rfl, HB.out⟩
    · have hz : R = 0 := by rw [← HQ.out, kindsF_end _ _ _ (by rw [← HN.out]; omega)]
      subst hz
      go_wp2
      go_ret
      exact ⟨rfl, HB.out⟩
end Go.Proofs.Ytoeggpoeongnhaa
