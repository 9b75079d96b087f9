/-
  faultOf and fault of package schema answer why a column, or kinds, can not be, at every list; nothing that was there is changed.
  No condition but that a list has no more than a million.
  columns and Check of the document's schema: why columns, and kinds, can not be; nothing that was there is changed.
  No condition but that a list has no more than a million.
  Check of the document's schema: why kinds can not be beside each other; nothing that was there is changed.
  No condition but that a list has no more than a million.
-/
import Derived.WalkMore
import Derived.BigQuiet
import Derived.Test.YthdjkagodccdbaaM20
namespace Go.Proofs.Ythdjkagodccdbaa
section
open Go.RowKit

theorem word_none (k : Int) (h : k < 1 ∨ 3 < k) : ((wordR k).toList == []) = true := by
  have e : wordR k = ⟨#[]⟩ := by unfold wordR; rw [if_neg (by omega), if_neg (by omega), if_neg (by omega)]
  rw [e, ByteArray.toList_eq]
  rfl
theorem word_some (k : Int) (h : ¬ (k < 1 ∨ 3 < k)) : ((wordR k).toList == []) = false := by
  rcases (show k = 1 ∨ k = 2 ∨ k = 3 by omega) with rfl | rfl | rfl <;> kernel_rfl

theorem ten_list : tenantB.toList = [116, 101, 110, 97, 110, 116] := by
  unfold tenantB
  rw [ByteArray.toList_eq]
theorem same_ten (a : ByteArray) : sameNm a tenantB = (a.toList == [116, 101, 110, 97, 110, 116]) := by
  unfold sameNm
  rw [ten_list]
theorem ScR.take {w : World} {Q : Nat → Prop} : ∀ {a : List RS} {b : List Sc} (n : Nat), ScR w Q a b → ScR w Q (a.take n) (b.take n)
  | [], [], n, _ => by simp [ScR]
  | _ :: _, _ :: _, 0, _ => trivial
  | _ :: _, _ :: _, n + 1, h => ⟨h.1, h.2.1, ScR.take n h.2.2⟩
theorem new_cell (w : World) (cs : Array Value) (t : TypeId) (i : Nat) (u : Value) (h : cs[i]? = some u) : (w.alloc (.cells cs t)).cell? ⟨w.heap.size, i, none⟩ = some u := (alloc_new_cells w cs t i).trans h

set_option maxRecDepth 100000 in
set_option maxHeartbeats 1000000 in
theorem s_faultOf (c : Co) (Q : Nat → Prop) (A : Option Addr) (cs : List Co) (n cap : Nat) (w : World) (hn : n = cs.length) (hl : n ≤ 1000000) (hx : CellsQ w Q A (flatC cs)) :
    Calls Try.prog 46 #[.agg #[.string c.nm, .int .i64 c.k, .bool c.nl], .slice A n cap] w fun e w' => e = .returned (.int .i64 (colF cs c)) ∧ Below w.heap.size w w' := by
  have HX := Lib.hid hx
  have HN := Lib.hid hn
  clear hx hn
  rcases Bool.eq_false_or_eq_true (nameR c.nm.data.toList) with h1 | h1
  · by_cases h2 : c.k < 1 ∨ 3 < c.k
    · have e : colF cs c = 11 := by unfold colF; rw [if_neg (by rw [h1]; simp), if_pos h2]
      rw [e]
      have H1 := Lib.hid h1
      have b2 := word_none c.k h2
      clear h1 h2 e
      generalize hwd : wordR c.k = wd at *
      have HWD := Lib.hid hwd
      clear hwd
      go_enter Try.func46, Try.ntmps46
      go_wp2_with (first
        | (go_at_call 43; refine (s_name _ _).mono ?_; rintro e w1 ⟨rfl, rfl⟩; rw [H1.out])
        | (go_at_call 65; refine (s_word _ _).mono ?_; rintro e w1 ⟨rfl, rfl⟩; rw [HWD.out]))
      go_ret
      exact ⟨rfl, one_new _ _⟩
    · have e : colF cs c = if cs.any (fun d => sameNm d.nm c.nm) = true then 4 else 0 := by unfold colF; rw [if_neg (by rw [h1]; simp), if_neg h2]
      rw [e]
      have H1 := Lib.hid h1
      have b2 := word_some c.k h2
      clear h1 h2 e
      generalize hwd : wordR c.k = wd at *
      have HWD := Lib.hid hwd
      clear hwd
      have HC := Lib.hid (fun (W : World) (hx : CellsQ W Q A (flatC cs)) => contains_c Q A cs n cap w.heap.size c.nm W HN.out hl hx)
      generalize (cs.any fun d => sameNm d.nm c.nm) = b at *
      cases b
      all_goals
        go_enter Try.func46, Try.ntmps46
        go_wp2_with (first
          | (go_at_call 43; refine (s_name _ _).mono ?_; rintro e w1 ⟨rfl, rfl⟩; rw [H1.out])
          | (go_at_call 65; refine (s_word _ _).mono ?_; rintro e w1 ⟨rfl, rfl⟩; rw [HWD.out])
          | (go_at_call 66; fail))
        refine (HC.out _ (HX.out.below (one_new _ _)) (by simp) (new_cell _ _ _ 0 _ rfl)).mono ?_
        rintro e w2 ⟨rfl, hb2⟩
        go_wp2
        go_ret
        exact ⟨rfl, (one_new _ _).trans (hb2.mono (by simp))⟩
  · have e : colF cs c = 3 := by unfold colF; rw [if_pos h1]
    rw [e]
    have H1 := Lib.hid h1
    clear h1 e
    go_enter Try.func46, Try.ntmps46
    go_wp2_with (first
      | (go_at_call 43; refine (s_name _ _).mono ?_; rintro e w1 ⟨rfl, rfl⟩; rw [H1.out]))
    go_ret
    exact ⟨rfl, one_new _ _⟩

theorem two_off (a : Addr) (k : Nat) (x : Nat) : ({ block := (a.add (k * x)).block, off := (a.add (k * x)).off + 1 } : Addr) = a.add (k * x + 1) := by rw [add_off _ _ _ (by omega)]

set_option maxRecDepth 100000 in
set_option maxHeartbeats 4000000 in
theorem s_fault (Q : Nat → Prop) (A : Option Addr) (ls : List RS) (l : List Sc) (n c : Nat) (w : World) (hn : n = l.length) (hl : n ≤ 1000000) (hcap : n ≤ c) (hr : ScR w Q ls l) (hx : CellsQ w Q A (flatS ls)) :
    Calls Try.prog 26 #[.slice A n c] w fun e w' => e = .returned (.int .i64 (faultR l)) ∧ Below w.heap.size w w' := by
  have HX := Lib.hid hx
  have HR := Lib.hid hr
  have HN := Lib.hid hn
  clear hx hr hn
  by_cases h8 : 8 < n
  · have e : faultR l = 9 := by unfold faultR; rw [if_pos (by rw [← HN.out]; exact h8)]
    rw [e]
    clear e
    go_enter Try.func26, Try.ntmps26
    go_wp2
    go_step3
    go_wp2
    rw [Exit.noGoto_ret]
    go_ret
    exact ⟨rfl, Below.refl _ _⟩
  obtain ⟨R, hR⟩ : ∃ R, faultR l = R := ⟨_, rfl⟩
  have hR2 : kindsF l n 0 = R := by rw [← hR]; unfold faultR; rw [if_neg (by rw [← HN.out]; exact h8), HN.out]
  rw [hR]
  have HRR := Lib.hid hR2
  clear hR hR2
  have h9 : n ≤ 8 := by omega
  clear h8
  go_enter Try.func26, Try.ntmps26
  go_wp2
  go_step3
  go_wp2
  go_step3
  go_wp2
  go_loopw [12] (fun i wr => ∃ k : Nat, k ≤ n ∧ i = .int .i64 k ∧ kindsF l (n - k) k = R ∧ Below w.heap.size w wr) (fun i _ => n - (intOf i).toNat)
  case atStart => exact ⟨0, Nat.zero_le _, rfl, HRR.out, Below.refl _ _⟩
  case round =>
    obtain ⟨wo, hwo⟩ : ∃ wo, wo = wr := ⟨_, rfl⟩
    subst hwo
    obtain ⟨k, hk, rfl, hq, hb⟩ := hrel
    have HQ := Lib.hid hq
    have HB := Lib.hid hb
    have hsz : w.heap.size ≤ wo.heap.size := hb.size
    clear hq hb
    by_cases h1 : k < n
    · obtain ⟨x, hxk⟩ : ∃ x, l[k]? = some x := ⟨_, List.getElem?_eq_getElem (by rw [← HN.out]; exact h1)⟩
      have HRr := Lib.hid (HR.out.keep (Below.keepQ HB.out Q))
      have HXr := Lib.hid (HX.out.below HB.out)
      obtain ⟨a, v, rfl, hv, ha, a0, a1⟩ := kind_get HRr.out HXr.out k x hxk
      have HV := Lib.hid hv
      obtain ⟨hvl, A2, c2, rfl, hA2, hc2, hcs⟩ := hv
      have HCS := Lib.hid hcs
      obtain ⟨f, hf⟩ : ∃ f, n - k = f + 1 := ⟨n - k - 1, by omega⟩
      have hstep := kindsF_step l f k x hxk
      rw [← hf, HQ.out] at hstep
      have hnext : n - (k + 1) = f := by omega
      have HNX := Lib.hid hnext
      have HST := Lib.hid hstep
      have HFB := Lib.hid (HB.out.trans (one_new_far wo (.cells #[.string x.nm, .slice A2 x.cols.length c2] 71) hsz))
      clear hxk hcs hA2 hstep hnext hf
      rcases Bool.eq_false_or_eq_true (nameR x.nm.data.toList) with n1 | n1
      · have N1 := Lib.hid n1
        rcases Bool.eq_false_or_eq_true (sameNm x.nm tenantB) with n2 | n2
        · have hk3 : R = 3 := by
            rw [HST.out, show kindF (l.take k) x = 3 by unfold kindF; rw [if_pos (.inr n2)]]
            rfl
          have b2 : (x.nm.toList == [116, 101, 110, 97, 110, 116]) = true := by rw [← same_ten]; exact n2
          subst hk3
          clear n1 n2
          go_wp2_with (go_at_call 43; refine (s_name _ _).mono ?_; rintro e w1 ⟨rfl, rfl⟩; rw [N1.out])
          rw [Exit.noGoto_ret]
          go_ret
          exact ⟨rfl, HFB.out⟩
        · have hkf : kindF (l.take k) x = if (l.take k).any (fun d => sameNm d.nm x.nm) = true then 4 else if 6 < x.cols.length then 9 else colsF x.cols x.cols.length 0 := by
            unfold kindF
            rw [if_neg (by rw [n1, n2]; simp)]
          have HKF := Lib.hid hkf
          have b2 : (x.nm.toList == [116, 101, 110, 97, 110, 116]) = false := by rw [← same_ten]; exact n2
          have HCO := Lib.hid (fun (W : World) (h1 : ScR W Q (ls.take k) (l.take k)) (h2 : CellsQ W Q (some a) (flatS (ls.take k))) => contains_s Q (some a) (ls.take k) (l.take k) k c wo.heap.size x.nm W (by rw [List.length_take, ← HN.out]; omega) (by omega) h1 h2)
          have hkc : (k : Int) ≤ c := by omega
          have hkc2 : k ≤ c := by omega
          clear n1 n2 hkf
          generalize hb9 : ((l.take k).any fun d => sameNm d.nm x.nm) = b at *
          go_wp2_with (first
            | (go_at_call 43; refine (s_name _ _).mono ?_; rintro e w1 ⟨rfl, rfl⟩; rw [N1.out])
            | (go_at_call 44; fail))
          refine (HCO.out _ ((HRr.out.keep (Below.keepQ (one_new _ _) Q)).take k) (by rw [flatS_take]; exact (HXr.out.below (one_new _ _)).take _) (by simp) (new_cell _ _ _ 0 _ rfl)).mono ?_
          rintro e w2 ⟨rfl, hb2⟩
          have HF2 := Lib.hid (HFB.out.trans (hb2.mono HFB.out.size))
          cases b with
          | true =>
            have hk4 : R = 4 := by
              rw [HST.out, show kindF (l.take k) x = 4 from HKF.out.trans (if_pos rfl)]
              rfl
            subst hk4
            go_wp2
            rw [Exit.noGoto_ret]
            go_ret
            exact ⟨rfl, HF2.out⟩
          | false =>
            have hkf2 : kindF (l.take k) x = if 6 < x.cols.length then 9 else colsF x.cols x.cols.length 0 := HKF.out.trans (if_neg Bool.false_ne_true)
            have HK2 := Lib.hid hkf2
            clear hkf2
            have b0 : w2.cell? ⟨wo.heap.size, 0, none⟩ = some (.string x.nm) := (hb2.cell (p := ⟨wo.heap.size, 0, none⟩) (by simp)).trans (new_cell _ _ _ 0 _ rfl)
            have b1 : w2.cell? ⟨wo.heap.size, 1, none⟩ = some (.slice A2 x.cols.length c2) := (hb2.cell (p := ⟨wo.heap.size, 1, none⟩) (by simp)).trans (new_cell _ _ _ 1 _ rfl)
            have hbx : wo.heap.size < w2.heap.size := Nat.lt_of_lt_of_le (by simp) hb2.size
            have HC2 := Lib.hid ((HCS.out.below (one_new wo _)).below hb2)
            clear hb2
            by_cases h6 : 6 < x.cols.length
            · have hk9 : R = 9 := by
                rw [HST.out, show kindF (l.take k) x = 9 from HK2.out.trans (if_pos h6)]
                rfl
              subst hk9
              go_wp2
              rw [Exit.noGoto_ret]
              go_ret
              exact ⟨rfl, HF2.out⟩
            · have h7 : x.cols.length ≤ 6 := by omega
              obtain ⟨K, hK⟩ : ∃ K, colsF x.cols x.cols.length 0 = K := ⟨_, rfl⟩
              have hRK : R = if K = 0 then kindsF l f (k + 1) else K := by
                rw [HST.out, show kindF (l.take k) x = K from (HK2.out.trans (if_neg h6)).trans hK]
              have HRK := Lib.hid hRK
              have HK := Lib.hid hK
              clear h6 hRK hK b0
              go_wp2
              go_loopw [5] (fun i wr => ∃ j : Nat, j ≤ x.cols.length ∧ i = .int .i64 j ∧ colsF x.cols (x.cols.length - j) j = K ∧ Below w2.heap.size w2 wr) (fun i _ => x.cols.length - (intOf i).toNat)
              case atStart => exact ⟨0, Nat.zero_le _, rfl, HK.out, Below.refl _ _⟩
              case round =>
                obtain ⟨j, hj, rfl, hcq, hbi⟩ := hrel
                have HCQ := Lib.hid hcq
                have HBI := Lib.hid hbi
                have b2' : wr.cell? ⟨wo.heap.size, 1, none⟩ = some (.slice A2 x.cols.length c2) := (hbi.cell (p := ⟨wo.heap.size, 1, none⟩) hbx).trans b1
                have hbx2 : wo.heap.size < wr.heap.size := Nat.lt_of_lt_of_le hbx hbi.size
                have HCI := Lib.hid (HC2.out.below hbi)
                have HFI := Lib.hid (HF2.out.trans (hbi.mono HF2.out.size))
                clear hcq hbi b1
                by_cases h8 : j < x.cols.length
                · obtain ⟨d, hd⟩ : ∃ d, x.cols[j]? = some d := ⟨_, List.getElem?_eq_getElem h8⟩
                  obtain ⟨g, hg⟩ : ∃ g, x.cols.length - j = g + 1 := ⟨x.cols.length - j - 1, by omega⟩
                  have hst := colsF_step x.cols g j d hd
                  rw [← hg, HCQ.out] at hst
                  have HCS2 := Lib.hid hst
                  have hgn : x.cols.length - (j + 1) = g := by omega
                  have HGN := Lib.hid hgn
                  obtain ⟨a2, rfl, ha2, d0, d1, d2⟩ := HCI.out.col j d hd
                  have hjc : (j : Int) ≤ c2 := by omega
                  have hjc2 : j ≤ c2 := by omega
                  have bj : ((j : Int) == (x.cols.length : Int)) = false := by rw [beq_eq_false_iff_ne]; omega
                  have HFO := Lib.hid (fun (W : World) (h2 : CellsQ W Q (some a2) (flatC (x.cols.take j))) => s_faultOf d Q (some a2) (x.cols.take j) j c2 W (by rw [List.length_take]; omega) (by omega) h2)
                  generalize colF (x.cols.take j) d = z at *
                  have B2 := Lib.hid b2'
                  have D0 := Lib.hid d0
                  have D1 := Lib.hid d1
                  have D2 := Lib.hid d2
                  clear hd hg hst hgn
                  have hji : (j : Int) < (x.cols.length : Int) := by omega
                  by_cases hz : z = 0
                  · have bz : (z == 0) = true := by simpa using hz
                    go_wp2
                    go_region_held3 (fun w' => w'.cell? ⟨wo.heap.size, 1, none⟩ = some (.slice (some a2) x.cols.length c2) ∧ w'.cell? (a2.add (j * 3)) = some (.string d.nm) ∧ w'.cell? { block := (a2.add (j * 3)).block, off := (a2.add (j * 3)).off + 1 } = some (.int .i64 d.k) ∧ w'.cell? { block := (a2.add (j * 3)).block, off := (a2.add (j * 3)).off + 2 } = some (.bool d.nl)) (go_keep)
                      ((go_at_call 46; refine (HFO.out _ (by rw [flatC_take]; exact HCI.out.take _)).mono ?_; rintro e w3 ⟨rfl, hb3⟩; have k0 := (hb3.cell (p := ⟨wo.heap.size, 1, none⟩) hbx2).trans B2.out; have k1 := (hb3.cell (p := a2.add (j * 3)) ha2).trans D0.out; have k2 := (hb3.cell (p := { block := (a2.add (j * 3)).block, off := (a2.add (j * 3)).off + 1 }) ha2).trans D1.out; have k3 := (hb3.cell (p := { block := (a2.add (j * 3)).block, off := (a2.add (j * 3)).off + 2 }) ha2).trans D2.out))
                    all_goals
                      go_wp2
                      go_roundw
                      case rel => exact ⟨j + 1, by omega, by go_num, by rw [HGN.out, HCS2.out, if_pos hz], HBI.out.trans ((below_drewN' (Below.refl _ _) _).trans (hb3.mono HBI.out.size))⟩
                      case measure => simp [intOf]; omega
                  · have bz : (z == 0) = false := by simpa using hz
                    have hKz : K = z := by rw [HCS2.out, if_neg hz]
                    have hRz : R = z := by rw [HRK.out, if_neg (by rw [hKz]; exact hz), hKz]
                    have HRZ := Lib.hid hRz
                    clear hKz hRz
                    go_wp2
                    go_region_held3 (fun w' => w'.cell? ⟨wo.heap.size, 1, none⟩ = some (.slice (some a2) x.cols.length c2) ∧ w'.cell? (a2.add (j * 3)) = some (.string d.nm) ∧ w'.cell? { block := (a2.add (j * 3)).block, off := (a2.add (j * 3)).off + 1 } = some (.int .i64 d.k) ∧ w'.cell? { block := (a2.add (j * 3)).block, off := (a2.add (j * 3)).off + 2 } = some (.bool d.nl)) (go_keep)
                      ((go_at_call 46; refine (HFO.out _ (by rw [flatC_take]; exact HCI.out.take _)).mono ?_; rintro e w3 ⟨rfl, hb3⟩; have k0 := (hb3.cell (p := ⟨wo.heap.size, 1, none⟩) hbx2).trans B2.out; have k1 := (hb3.cell (p := a2.add (j * 3)) ha2).trans D0.out; have k2 := (hb3.cell (p := { block := (a2.add (j * 3)).block, off := (a2.add (j * 3)).off + 1 }) ha2).trans D1.out; have k3 := (hb3.cell (p := { block := (a2.add (j * 3)).block, off := (a2.add (j * 3)).off + 2 }) ha2).trans D2.out))
                    all_goals
                      go_wp2
                      rw [Exit.noGoto_ret]
                      go_ret
                      rw [HRZ.out]
                      exact ⟨rfl, HFI.out.trans ((below_drewN' (Below.refl _ _) _).trans (hb3.mono HFI.out.size))⟩
                · obtain rfl : j = x.cols.length := by omega
                  have hK0 : K = 0 := by rw [← HCQ.out]; exact colsF_end _ _ _ (Nat.le_refl _)
                  have hRf : kindsF l f (k + 1) = R := by rw [HRK.out, if_pos hK0]
                  have HRF := Lib.hid hRf
                  clear hRf hK0
                  go_wp2
                  go_roundw
                  case rel => exact ⟨k + 1, by omega, by go_num, by rw [HNX.out]; exact HRF.out, HFI.out⟩
                  case measure => simp [intOf]; omega
      · have hk3 : R = 3 := by
          rw [HST.out, show kindF (l.take k) x = 3 by unfold kindF; rw [if_pos (.inl n1)]]
          rfl
        have N1 := Lib.hid n1
        subst hk3
        clear n1
        go_wp2_with (go_at_call 43; refine (s_name _ _).mono ?_; rintro e w1 ⟨rfl, rfl⟩; rw [N1.out])
        rw [Exit.noGoto_ret]
        go_ret
        exact ⟨rfl, HFB.out⟩
    · have hR0 : R = 0 := by rw [← HQ.out]; exact kindsF_end _ _ _ (by rw [← HN.out]; omega)
      subst hR0
      go_wp2
      rw [Exit.noGoto_ret]
      go_ret
      exact ⟨rfl, HB.out⟩
end
end Go.Proofs.Ythdjkagodccdbaa
namespace Go.Proofs.Ythdjkagodccdbaa
section
open Go.RowKit

theorem any_take {α : Type} (l : List α) (p : α → Bool) (m : Nat) (d : α) (h : l[m]? = some d) : (l.take (m + 1)).any p = ((l.take m).any p || p d) := by
  rw [List.take_add_one, List.any_append, h]
  simp
theorem any_take_hit {α : Type} (l : List α) (p : α → Bool) (m k : Nat) (d : α) (h : l[m]? = some d) (hmk : m < k) (hp : p d = true) : (l.take k).any p = true := by
  refine List.any_eq_true.2 ⟨d, List.mem_iff_getElem?.2 ⟨m, ?_⟩, hp⟩
  rw [List.getElem?_take, if_pos hmk]
  exact h
theorem below_dN {w w' : World} (h : Below w.heap.size w w') (n : Nat) : Below w.heap.size w (w'.drewN n) := below_drewN' h n
/-- Why columns can not be. -/
def colsR (cs : List Co) : Int := if 6 < cs.length then 9 else colsF cs cs.length 0

set_option maxRecDepth 100000 in
set_option maxHeartbeats 4000000 in
theorem ref_columns (Q : Nat → Prop) (A : Option Addr) (cs : List Co) (n c : Nat) (w : World) (hn : n = cs.length) (hl : n ≤ 1000000) (hx : CellsQ w Q A (flatC cs)) :
    Calls Try.prog 29 #[.slice A n c] w fun e w' => e = .returned (.int .i64 (colsR cs)) ∧ Below w.heap.size w w' := by
  have HX := Lib.hid hx
  have HN := Lib.hid hn
  clear hx hn
  by_cases h6 : 6 < n
  · have e : colsR cs = 9 := by unfold colsR; rw [if_pos (by rw [← HN.out]; exact h6)]
    rw [e]
    clear e
    go_enter Try.func29, Try.ntmps29
    go_wp2
    go_ret
    exact ⟨rfl, Below.refl _ _⟩
  obtain ⟨R, hR⟩ : ∃ R, colsR cs = R := ⟨_, rfl⟩
  have hR2 : colsF cs n 0 = R := by rw [← hR]; unfold colsR; rw [if_neg (by rw [← HN.out]; exact h6), HN.out]
  rw [hR]
  have HRR := Lib.hid hR2
  clear hR hR2
  have h7 : n ≤ 6 := by omega
  clear h6
  go_enter Try.func29, Try.ntmps29
  go_wp2
  go_loopw [3] (fun i wr => ∃ k : Nat, k ≤ n ∧ i = .int .i64 k ∧ colsF cs (n - k) k = R ∧ Below w.heap.size w wr) (fun i _ => n - (intOf i).toNat)
  case atStart => exact ⟨0, Nat.zero_le _, rfl, HRR.out, Below.refl _ _⟩
  case round =>
    obtain ⟨wo, hwo⟩ : ∃ wo, wo = wr := ⟨_, rfl⟩
    subst hwo
    obtain ⟨k, hk, rfl, hq, hb⟩ := hrel
    have HQ := Lib.hid hq
    have HB := Lib.hid hb
    clear hq hb
    by_cases h1 : k < n
    · obtain ⟨d, hd⟩ : ∃ d, cs[k]? = some d := ⟨_, List.getElem?_eq_getElem (by rw [← HN.out]; exact h1)⟩
      obtain ⟨a, rfl, ha, d0, d1, _⟩ := (HX.out.below HB.out).col k d hd
      have hst := colsF_step cs (n - (k + 1)) k d hd
      rw [show n - (k + 1) + 1 = n - k from by omega, HQ.out] at hst
      have HST := Lib.hid hst
      have HD := Lib.hid hd
      have D0 := Lib.hid d0
      obtain ⟨nm9, k9, nl9⟩ := d
      clear hd hst
      rcases Bool.eq_false_or_eq_true (nameR nm9.data.toList) with hn1 | hn1
      · have HNM := Lib.hid hn1
        by_cases h2 : k9 < 1 ∨ 3 < k9
        · have hz : R = 11 := by
            have hc : colF (cs.take k) ⟨nm9, k9, nl9⟩ = 11 := by unfold colF; simp only; rw [if_neg (by rw [HNM.out]; simp), if_pos h2]
            rw [HST.out, hc]
            rfl
          subst hz
          clear hn1
          rcases h2 with h3 | h3
          · have g3 : decide (k9 < 1) = true := by simpa using h3
            go_wp2_with fail
            refine (ref_name _ _).mono ?_
            rintro e w1 ⟨rfl, rfl⟩
            rw [HNM.out]
            go_wp2
            go_ret
            exact ⟨rfl, HB.out⟩
          · have g3 : decide (k9 < 1) = false := by simp; omega
            have g4 : decide (3 < k9) = true := by simpa using h3
            go_wp2_with fail
            refine (ref_name _ _).mono ?_
            rintro e w1 ⟨rfl, rfl⟩
            rw [HNM.out]
            go_wp2
            go_ret
            exact ⟨rfl, HB.out⟩
        · have g3 : decide (k9 < 1) = false := by simp; omega
          have g4 : decide (3 < k9) = false := by simp; omega
          have g5 : ¬ k9 < 1 := by omega
          have g6 : ¬ 3 < k9 := by omega
          have hcc : colF (cs.take k) ⟨nm9, k9, nl9⟩ = if (cs.take k).any (fun d => sameNm d.nm nm9) = true then 4 else 0 := by unfold colF; simp only; rw [if_neg (by rw [HNM.out]; simp), if_neg h2]
          have HCC := Lib.hid hcc
          clear hn1 h2 hcc
          go_wp2_with fail
          refine (ref_name _ _).mono ?_
          rintro e w1 ⟨rfl, rfl⟩
          rw [HNM.out]
          go_wp2
          go_loopw [4] (fun i wq => ∃ m : Nat, m ≤ k ∧ i = .int .i64 m ∧ (cs.take m).any (fun d => sameNm d.nm nm9) = false ∧ Below w.heap.size w wq) (fun i _ => k - (intOf i).toNat)
          case atStart => exact ⟨0, Nat.zero_le _, rfl, by simp, HB.out⟩
          case round =>
            obtain ⟨m, hm, rfl, hq2, hb2⟩ := hrel
            have HQ2 := Lib.hid hq2
            have HB2 := Lib.hid hb2
            clear hq2 hb2
            by_cases h8 : m < k
            · obtain ⟨d2, hd2⟩ : ∃ d2, cs[m]? = some d2 := ⟨_, List.getElem?_eq_getElem (by rw [← HN.out]; omega)⟩
              obtain ⟨a2, ha2, hb2, e0, _, _⟩ := (HX.out.below HB2.out).col m d2 hd2
              injection ha2 with ha2
              subst ha2
              obtain ⟨a3, ha3, hb3, f0, _, _⟩ := (HX.out.below HB2.out).col k _ HD.out
              injection ha3 with ha3
              subst ha3
              have HD2 := Lib.hid hd2
              have hkn : m < n := by omega
              obtain ⟨nm8, k8, nl8⟩ := d2
              clear hd2
              rcases Bool.eq_false_or_eq_true (sameNm nm8 nm9) with hz | hz
              · have bz : (nm8.toList == nm9.toList) = true := hz
                have hR4 : R = 4 := by
                  rw [HST.out, HCC.out, any_take_hit cs _ m k _ HD2.out h8 hz]
                  rfl
                subst hR4
                clear hz
                go_wp2
                go_quiet (fail)
                go_wp2
                go_ret
                exact ⟨rfl, below_dN HB2.out _⟩
              · have bz : (nm8.toList == nm9.toList) = false := hz
                have HZ := Lib.hid hz
                clear hz
                go_wp2
                go_quiet (fail)
                go_wp2
                go_roundw
                case rel => exact ⟨m + 1, by omega, by go_num, by rw [any_take _ _ _ _ HD2.out, HQ2.out, HZ.out]; rfl, below_dN HB2.out _⟩
                case measure => simp [intOf]; omega
            · obtain rfl : m = k := by omega
              have hR5 : colsF cs (n - (m + 1)) (m + 1) = R := by rw [HST.out, HCC.out, HQ2.out]; rfl
              have HR5 := Lib.hid hR5
              clear hR5
              go_wp2
              go_roundw
              case rel => exact ⟨m + 1, by omega, by go_num, HR5.out, HB2.out⟩
              case measure => simp [intOf]; omega
      · have HNM := Lib.hid hn1
        have hz : R = 3 := by
          have hc : colF (cs.take k) ⟨nm9, k9, nl9⟩ = 3 := by unfold colF; simp only; rw [if_pos HNM.out]
          rw [HST.out, hc]
          rfl
        subst hz
        clear hn1
        go_wp2_with fail
        refine (ref_name _ _).mono ?_
        rintro e w1 ⟨rfl, rfl⟩
        rw [HNM.out]
        go_wp2
        go_ret
        exact ⟨rfl, HB.out⟩
    · have hz : R = 0 := by rw [← HQ.out, colsF_end _ _ _ (by rw [← HN.out]; omega)]
      subst hz
      go_wp2
      go_ret
      exact ⟨rfl, HB.out⟩
end
end Go.Proofs.Ythdjkagodccdbaa
namespace Go.Proofs.Ythdjkagodccdbaa
section
open Go.RowKit

theorem kindF_cols (ah : List Sc) (x : Sc) (h1 : nameR x.nm.data.toList = true) (h2 : sameNm x.nm tenantB = false) (h3 : ah.any (fun d => sameNm d.nm x.nm) = false) : kindF ah x = colsR x.cols := by
  unfold kindF colsR
  rw [if_neg (by rw [h1, h2]; simp), if_neg (by rw [h3]; simp)]

set_option maxRecDepth 100000 in
set_option maxHeartbeats 4000000 in
theorem ref_check (Q : Nat → Prop) (A : Option Addr) (ls : List RS) (l : List Sc) (n c : Nat) (w : World) (hn : n = l.length) (hl : n ≤ 1000000) (hr : ScR w Q ls l) (hx : CellsQ w Q A (flatS ls)) :
    Calls Try.prog 9 #[.slice A n c] w fun e w' => e = .returned (.int .i64 (faultR l)) ∧ Below w.heap.size w w' := by
  have HX := Lib.hid hx
  have HR := Lib.hid hr
  have HN := Lib.hid hn
  clear hx hr hn
  by_cases h8 : 8 < n
  · have e : faultR l = 9 := by unfold faultR; rw [if_pos (by rw [← HN.out]; exact h8)]
    rw [e]
    clear e
    go_enter Try.func9, Try.ntmps9
    go_wp2
    go_ret
    exact ⟨rfl, Below.refl _ _⟩
  obtain ⟨R, hR⟩ : ∃ R, faultR l = R := ⟨_, rfl⟩
  have hR2 : kindsF l n 0 = R := by rw [← hR]; unfold faultR; rw [if_neg (by rw [← HN.out]; exact h8), HN.out]
  rw [hR]
  have HRR := Lib.hid hR2
  clear hR hR2
  have h9 : n ≤ 8 := by omega
  clear h8
  go_enter Try.func9, Try.ntmps9
  go_wp2
  go_loopw [3] (fun i wr => ∃ k : Nat, k ≤ n ∧ i = .int .i64 k ∧ kindsF l (n - k) k = R ∧ Below w.heap.size w wr) (fun i _ => n - (intOf i).toNat)
  case atStart => exact ⟨0, Nat.zero_le _, rfl, HRR.out, Below.refl _ _⟩
  case round =>
    obtain ⟨wo, hwo⟩ : ∃ wo, wo = wr := ⟨_, rfl⟩
    subst hwo
    obtain ⟨k, hk, rfl, hq, hb⟩ := hrel
    have HQ := Lib.hid hq
    have HB := Lib.hid hb
    clear hq hb
    by_cases h1 : k < n
    · obtain ⟨x, hx⟩ : ∃ x, l[k]? = some x := ⟨_, List.getElem?_eq_getElem (by rw [← HN.out]; exact h1)⟩
      obtain ⟨a, v, rfl, hv, ha, d0, d1⟩ := kind_get (HR.out.keep (Below.keepQ HB.out Q)) (HX.out.below HB.out) k x hx
      have hst := kindsF_step l (n - (k + 1)) k x hx
      rw [show n - (k + 1) + 1 = n - k from by omega, HQ.out] at hst
      have HST := Lib.hid hst
      have HD := Lib.hid hx
      have HV := Lib.hid hv
      obtain ⟨nm9, cs9⟩ := x
      clear hx hst hv
      rcases Bool.eq_false_or_eq_true (nameR nm9.data.toList) with hn1 | hn1
      · have HNM := Lib.hid hn1
        rcases Bool.eq_false_or_eq_true (sameNm nm9 tenantB) with ht | ht
        · have bt : (nm9.toList == [116, 101, 110, 97, 110, 116]) = true := by rw [← same_ten]; exact ht
          have hz : R = 3 := by
            have hc : kindF (l.take k) ⟨nm9, cs9⟩ = 3 := by unfold kindF; rw [if_pos (Or.inr ht)]
            rw [HST.out, hc]
            rfl
          subst hz
          clear hn1 ht
          go_wp2_with fail
          refine (ref_name _ _).mono ?_
          rintro e w1 ⟨rfl, rfl⟩
          rw [HNM.out]
          go_wp2
          go_ret
          exact ⟨rfl, HB.out⟩
        · have bt : (nm9.toList == [116, 101, 110, 97, 110, 116]) = false := by rw [← same_ten]; exact ht
          have HTN := Lib.hid ht
          clear hn1 ht
          go_wp2_with fail
          refine (ref_name _ _).mono ?_
          rintro e w1 ⟨rfl, rfl⟩
          rw [HNM.out]
          go_wp2
          go_loopw [4] (fun i wq => ∃ m : Nat, m ≤ k ∧ i = .int .i64 m ∧ (l.take m).any (fun d => sameNm d.nm nm9) = false ∧ Below w.heap.size w wq) (fun i _ => k - (intOf i).toNat)
          case atStart => exact ⟨0, Nat.zero_le _, rfl, by simp, HB.out⟩
          case round =>
            obtain ⟨wi, hwi⟩ : ∃ wi, wi = wr := ⟨_, rfl⟩
            subst hwi
            obtain ⟨m, hm, rfl, hq2, hb2⟩ := hrel
            have HQ2 := Lib.hid hq2
            have HB2 := Lib.hid hb2
            clear hq2 hb2
            obtain ⟨a3, v3, ha3, hv3, hb3, f0, f1⟩ := kind_get (HR.out.keep (Below.keepQ HB2.out Q)) (HX.out.below HB2.out) k _ HD.out
            injection ha3 with ha3
            subst ha3
            by_cases h8 : m < k
            · obtain ⟨d2, hd2⟩ : ∃ d2, l[m]? = some d2 := ⟨_, List.getElem?_eq_getElem (by rw [← HN.out]; omega)⟩
              obtain ⟨a2, v2, ha2, _, hb2, e0, _⟩ := kind_get (HR.out.keep (Below.keepQ HB2.out Q)) (HX.out.below HB2.out) m d2 hd2
              injection ha2 with ha2
              subst ha2
              have HD2 := Lib.hid hd2
              have hkn : m < n := by omega
              obtain ⟨nm8, cs8⟩ := d2
              clear hd2 hv3
              rcases Bool.eq_false_or_eq_true (sameNm nm8 nm9) with hz | hz
              · have bz : (nm8.toList == nm9.toList) = true := hz
                have hR4 : R = 4 := by
                  have hc : kindF (l.take k) ⟨nm9, cs9⟩ = 4 := by
                    unfold kindF
                    rw [if_neg (by simp only; rw [HNM.out, HTN.out]; simp), if_pos (any_take_hit l _ m k _ HD2.out h8 hz)]
                  rw [HST.out, hc]
                  rfl
                subst hR4
                clear hz
                go_wp2
                go_quiet (fail)
                go_wp2
                go_ret
                exact ⟨rfl, below_dN HB2.out _⟩
              · have bz : (nm8.toList == nm9.toList) = false := hz
                have HZ := Lib.hid hz
                clear hz
                go_wp2
                go_quiet (fail)
                go_wp2
                go_roundw
                case rel => exact ⟨m + 1, by omega, by go_num, by rw [any_take _ _ _ _ HD2.out, HQ2.out, HZ.out]; rfl, below_dN HB2.out _⟩
                case measure => simp [intOf]; omega
            · obtain rfl : m = k := by omega
              have hkc := kindF_cols (l.take m) ⟨nm9, cs9⟩ HNM.out HTN.out HQ2.out
              rw [hkc] at HST
              have HV3 := Lib.hid hv3
              obtain ⟨hcl, A4, c4, rfl, _, _, hcs⟩ := hv3
              have HCR := Lib.hid (ref_columns _ _ cs9 _ c4 wi rfl hcl hcs)
              clear hkc hcs
              generalize colsR cs9 = S at *
              by_cases hS : S = 0
              · subst hS
                have hR5 : kindsF l (n - (m + 1)) (m + 1) = R := by rw [HST.out]; rfl
                have HR5 := Lib.hid hR5
                clear hR5
                go_wp2_with fail
                refine HCR.out.mono ?_
                rintro e w3 ⟨rfl, hb5⟩
                have HB5 := Lib.hid (HB2.out.trans (hb5.mono HB2.out.size))
                clear hb5
                go_wp2
                go_roundw
                case rel => exact ⟨m + 1, by omega, by go_num, HR5.out, HB5.out⟩
                case measure => simp [intOf]; omega
              · have b0 : (S == 0) = false := by simpa using hS
                have b1 : (S != 0) = true := by unfold bne; rw [b0]; rfl
                have hz : R = S := by rw [HST.out, if_neg hS]
                subst hz
                clear hS
                go_wp2_with fail
                refine HCR.out.mono ?_
                rintro e w3 ⟨rfl, hb5⟩
                have HB5 := Lib.hid (HB2.out.trans (hb5.mono HB2.out.size))
                clear hb5
                go_wp2
                go_ret
                exact ⟨rfl, HB5.out⟩
      · have HNM := Lib.hid hn1
        have hz : R = 3 := by
          have hc : kindF (l.take k) ⟨nm9, cs9⟩ = 3 := by unfold kindF; rw [if_pos (Or.inl HNM.out)]
          rw [HST.out, hc]
          rfl
        subst hz
        clear hn1
        go_wp2_with fail
        refine (ref_name _ _).mono ?_
        rintro e w1 ⟨rfl, rfl⟩
        rw [HNM.out]
        go_wp2
        go_ret
        exact ⟨rfl, HB.out⟩
    · have hz : R = 0 := by rw [← HQ.out, kindsF_end _ _ _ (by rw [← HN.out]; omega)]
      subst hz
      go_wp2
      go_ret
      exact ⟨rfl, HB.out⟩
end
end Go.Proofs.Ythdjkagodccdbaa
