/-
  Kinds whose columns may be more than a million: why they can not be beside each other, by the program and by the document; New.
  No condition but that a list has no more than a million kinds.
-/
import Derived.Test.YthdjkagodccdbaaMTkm
namespace Go.Proofs.Ythdjkagodccdbaa
open Go.RowKit

/-- Columns in memory, of which nothing is known if they are too many. -/
def IsColsW (w : World) (Q : Nat → Prop) (v : Value) (cs : List Co) : Prop := cs.length ≤ maxLen ∧ ∃ A c, v = .slice A cs.length c ∧ (cs.length ≤ 6 → IsCols w Q (.slice A cs.length c) cs)
theorem IsColsW.keep {w w' : World} {Q : Nat → Prop} {v : Value} {cs : List Co} (h : IsColsW w Q v cs) (hk : KeepQ Q w w') : IsColsW w' Q v cs := by
  obtain ⟨h1, A, c, rfl, h2⟩ := h
  exact ⟨h1, A, c, rfl, fun h => (h2 h).keep hk⟩
theorem IsColsW.ok {w : World} {Q : Nat → Prop} {v : Value} {cs : List Co} (h : IsColsW w Q v cs) (h6 : cs.length ≤ 6) : IsCols w Q v cs := by
  obtain ⟨h1, A, c, rfl, h2⟩ := h
  exact h2 h6
def ScW (w : World) (Q : Nat → Prop) : List RS → List Sc → Prop
  | [], [] => True
  | a :: ls, b :: l => a.1 = b.nm ∧ IsColsW w Q a.2 b.cols ∧ ScW w Q ls l
  | _, _ => False
theorem ScW.keep {w w' : World} {Q : Nat → Prop} : ∀ {ls : List RS} {l : List Sc}, ScW w Q ls l → KeepQ Q w w' → ScW w' Q ls l
  | [], [], _, _ => trivial
  | _ :: _, _ :: _, h, hk => ⟨h.1, h.2.1.keep hk, h.2.2.keep hk⟩
theorem ScW.take_ok {w : World} {Q : Nat → Prop} : ∀ {ls : List RS} {l : List Sc}, ScW w Q ls l → ∀ k : Nat, (∀ x ∈ l.take k, x.cols.length ≤ 6) → ScR w Q (ls.take k) (l.take k)
  | [], [], _, k, _ => by simp [ScR]
  | _ :: _, _ :: _, _, 0, _ => trivial
  | _ :: _, b :: _, h, k + 1, hs => ⟨h.1, h.2.1.ok (hs b (by simp)), h.2.2.take_ok k (fun x hx => hs x (by simp [hx]))⟩
theorem ScW.len {w : World} {Q : Nat → Prop} : ∀ {ls : List RS} {l : List Sc}, ScW w Q ls l → ls.length = l.length
  | [], [], _ => rfl
  | _ :: _, _ :: _, h => by rw [List.length_cons, List.length_cons, ScW.len h.2.2]
theorem ScW.get {w : World} {Q : Nat → Prop} : ∀ {a : List RS} {b : List Sc} (i : Nat) (e : Sc), ScW w Q a b → b[i]? = some e → ∃ v, a[i]? = some (e.nm, v) ∧ IsColsW w Q v e.cols
  | [], [], i, e, _, h => by simp at h
  | a :: _, b :: _, 0, e, h, hb => by
    have e1 : b = e := by simpa using hb
    subst e1
    refine ⟨a.2, ?_, h.2.1⟩
    rw [← h.1]
    rfl
  | _ :: _, _ :: _, i + 1, e, h, hb => by simpa using ScW.get i e h.2.2 (by simpa using hb)
theorem kind_getW {w : World} {Q : Nat → Prop} {A : Option Addr} {ls : List RS} {l : List Sc} (h1 : ScW w Q ls l) (h2 : CellsQ w Q A (flatS ls)) (i : Nat) (x : Sc) (hx : l[i]? = some x) :
    ∃ a v, A = some a ∧ IsColsW w Q v x.cols ∧ (a.add (i * 2)).block < w.heap.size ∧ w.cell? (a.add (i * 2)) = some (.string x.nm) ∧ w.cell? { block := (a.add (i * 2)).block, off := (a.add (i * 2)).off + 1 } = some v := by
  obtain ⟨v, h3, h4⟩ := h1.get i x hx
  obtain ⟨f0, f1⟩ := flatS_at ls i _ h3
  obtain ⟨a, ha, _, hc⟩ := h2 _ _ f0
  exact ⟨a, v, ha, h4, World.block_lt_of_cell? w _ hc, hc, h2.at _ _ _ _ ha (by omega) f1⟩
theorem take_six {l : List Sc} {k : Nat} {x : Sc} (h : ∀ y ∈ l.take k, y.cols.length ≤ 6) (hx : l[k]? = some x) (h6 : x.cols.length ≤ 6) : ∀ y ∈ l.take (k + 1), y.cols.length ≤ 6 := fun y hy => by
  rw [List.take_add_one, hx] at hy
  rcases List.mem_append.1 hy with hy | hy
  · exact h y hy
  · simp at hy
    rw [hy]
    exact h6
theorem kindF_six {ah : List Sc} {x : Sc} (h : kindF ah x = 0) : x.cols.length ≤ 6 := by
  unfold kindF at h
  split at h
  · cases h
  · split at h
    · cases h
    · split at h
      · cases h
      · omega
theorem kindsF_six (l : List Sc) : ∀ (f k : Nat), kindsF l f k = 0 → ∀ j x, k ≤ j → j < k + f → l[j]? = some x → x.cols.length ≤ 6
  | 0, k, _, j, x, h1, h2, _ => by omega
  | f + 1, k, h, j, x, h1, h2, hx => by
    have hk : k < l.length := by have := (List.getElem?_eq_some_iff.1 hx).1; omega
    obtain ⟨y, hy⟩ : ∃ y, l[k]? = some y := ⟨_, List.getElem?_eq_getElem hk⟩
    rw [kindsF_step l f k y hy] at h
    by_cases h0 : kindF (l.take k) y = 0
    · rw [if_pos h0] at h
      by_cases hj : j = k
      · subst hj
        rw [hy] at hx
        injection hx with hx
        subst hx
        exact kindF_six h0
      · exact kindsF_six l f (k + 1) h j x (by omega) (by omega) hx
    · rw [if_neg h0] at h
      exact absurd h h0
theorem faultR_six {l : List Sc} (h : faultR l = 0) : ∀ x ∈ l, x.cols.length ≤ 6 := fun x hx => by
  unfold faultR at h
  split at h
  · cases h
  · obtain ⟨j, hj, e⟩ := List.getElem_of_mem hx
    exact kindsF_six l l.length 0 h j x (Nat.zero_le _) (by omega) (by rw [List.getElem?_eq_getElem hj, e])

set_option maxRecDepth 100000 in
set_option maxHeartbeats 4000000 in
theorem s_faultW (Q : Nat → Prop) (A : Option Addr) (ls : List RS) (l : List Sc) (n c : Nat) (w : World) (hn : n = l.length) (hl : n ≤ 1000000) (hcap : n ≤ c) (hr : ScW w Q ls l) (hx : CellsQ w Q A (flatS ls)) :
    Calls Try.prog 26 #[.slice A n c] w fun e w' => e = .returned (.int .i64 (faultR l)) ∧ Below w.heap.size w w' := by
  have HX := Lib.hid hx
  have HR := Lib.hid hr
  have HN := Lib.hid hn
  clear hx hr hn
  by_cases h8 : 8 < n
  · have e : faultR l = 9 := by unfold faultR; rw [if_pos (by rw [← HN.out]; exact h8)]
    rw [e]
    clear e
    go_enter Try.func26, Try.ntmps26
    go_wp2
    go_step3
    go_wp2
    rw [Exit.noGoto_ret]
    go_ret
    exact ⟨rfl, Below.refl _ _⟩
  obtain ⟨R, hR⟩ : ∃ R, faultR l = R := ⟨_, rfl⟩
  have hR2 : kindsF l n 0 = R := by rw [← hR]; unfold faultR; rw [if_neg (by rw [← HN.out]; exact h8), HN.out]
  rw [hR]
  have HRR := Lib.hid hR2
  clear hR hR2
  have h9 : n ≤ 8 := by omega
  clear h8
  go_enter Try.func26, Try.ntmps26
  go_wp2
  go_step3
  go_wp2
  go_step3
  go_wp2
  go_loopw [12] (fun i wr => ∃ k : Nat, k ≤ n ∧ i = .int .i64 k ∧ kindsF l (n - k) k = R ∧ Below w.heap.size w wr ∧ ∀ x ∈ l.take k, x.cols.length ≤ 6) (fun i _ => n - (intOf i).toNat)
  case atStart => exact ⟨0, Nat.zero_le _, rfl, HRR.out, Below.refl _ _, fun x hx => by simp at hx⟩
  case round =>
    obtain ⟨wo, hwo⟩ : ∃ wo, wo = wr := ⟨_, rfl⟩
    subst hwo
    obtain ⟨k, hk, rfl, hq, hb, hsx⟩ := hrel
    have HSX := Lib.hid hsx
    have HQ := Lib.hid hq
    have HB := Lib.hid hb
    have hsz : w.heap.size ≤ wo.heap.size := hb.size
    clear hq hb hsx
    by_cases h1 : k < n
    · obtain ⟨x, hxk⟩ : ∃ x, l[k]? = some x := ⟨_, List.getElem?_eq_getElem (by rw [← HN.out]; exact h1)⟩
      have HRr := Lib.hid (HR.out.keep (Below.keepQ HB.out Q))
      have HXr := Lib.hid (HX.out.below HB.out)
      obtain ⟨a, v, rfl, hv, ha, a0, a1⟩ := kind_getW HRr.out HXr.out k x hxk
      have HV := Lib.hid hv
      obtain ⟨hvl, A2, c2, rfl, hcs⟩ := hv
      have HXK := Lib.hid hxk
      have HCS := Lib.hid hcs
      obtain ⟨f, hf⟩ : ∃ f, n - k = f + 1 := ⟨n - k - 1, by omega⟩
      have hstep := kindsF_step l f k x hxk
      rw [← hf, HQ.out] at hstep
      have hnext : n - (k + 1) = f := by omega
      have HNX := Lib.hid hnext
      have HST := Lib.hid hstep
      have HFB := Lib.hid (HB.out.trans (one_new_far wo (.cells #[.string x.nm, .slice A2 x.cols.length c2] 71) hsz))
      clear hxk hcs hstep hnext hf
      rcases Bool.eq_false_or_eq_true (nameR x.nm.data.toList) with n1 | n1
      · have N1 := Lib.hid n1
        rcases Bool.eq_false_or_eq_true (sameNm x.nm tenantB) with n2 | n2
        · have hk3 : R = 3 := by
            rw [HST.out, show kindF (l.take k) x = 3 by unfold kindF; rw [if_pos (.inr n2)]]
            rfl
          have b2 : (x.nm.toList == [116, 101, 110, 97, 110, 116]) = true := by rw [← same_ten]; exact n2
          subst hk3
          clear n1 n2
          go_wp2_with (go_at_call 43; refine (s_name _ _).mono ?_; rintro e w1 ⟨rfl, rfl⟩; rw [N1.out])
          rw [Exit.noGoto_ret]
          go_ret
          exact ⟨rfl, HFB.out⟩
        · have hkf : kindF (l.take k) x = if (l.take k).any (fun d => sameNm d.nm x.nm) = true then 4 else if 6 < x.cols.length then 9 else colsF x.cols x.cols.length 0 := by
            unfold kindF
            rw [if_neg (by rw [n1, n2]; simp)]
          have HKF := Lib.hid hkf
          have b2 : (x.nm.toList == [116, 101, 110, 97, 110, 116]) = false := by rw [← same_ten]; exact n2
          have HCO := Lib.hid (fun (W : World) (h1 : ScR W Q (ls.take k) (l.take k)) (h2 : CellsQ W Q (some a) (flatS (ls.take k))) => contains_s Q (some a) (ls.take k) (l.take k) k c wo.heap.size x.nm W (by rw [List.length_take, ← HN.out]; omega) (by omega) h1 h2)
          have hkc : (k : Int) ≤ c := by omega
          have hkc2 : k ≤ c := by omega
          clear n1 n2 hkf
          generalize hb9 : ((l.take k).any fun d => sameNm d.nm x.nm) = b at *
          go_wp2_with (first
            | (go_at_call 43; refine (s_name _ _).mono ?_; rintro e w1 ⟨rfl, rfl⟩; rw [N1.out])
            | (go_at_call 44; fail))
          refine (HCO.out _ ((HRr.out.keep (Below.keepQ (one_new _ _) Q)).take_ok k HSX.out) (by rw [flatS_take]; exact (HXr.out.below (one_new _ _)).take _) (by simp) (new_cell _ _ _ 0 _ rfl)).mono ?_
          rintro e w2 ⟨rfl, hb2⟩
          have HF2 := Lib.hid (HFB.out.trans (hb2.mono HFB.out.size))
          cases b with
          | true =>
            have hk4 : R = 4 := by
              rw [HST.out, show kindF (l.take k) x = 4 from HKF.out.trans (if_pos rfl)]
              rfl
            subst hk4
            go_wp2
            rw [Exit.noGoto_ret]
            go_ret
            exact ⟨rfl, HF2.out⟩
          | false =>
            have hkf2 : kindF (l.take k) x = if 6 < x.cols.length then 9 else colsF x.cols x.cols.length 0 := HKF.out.trans (if_neg Bool.false_ne_true)
            have HK2 := Lib.hid hkf2
            clear hkf2
            have b0 : w2.cell? ⟨wo.heap.size, 0, none⟩ = some (.string x.nm) := (hb2.cell (p := ⟨wo.heap.size, 0, none⟩) (by simp)).trans (new_cell _ _ _ 0 _ rfl)
            have b1 : w2.cell? ⟨wo.heap.size, 1, none⟩ = some (.slice A2 x.cols.length c2) := (hb2.cell (p := ⟨wo.heap.size, 1, none⟩) (by simp)).trans (new_cell _ _ _ 1 _ rfl)
            have hbx : wo.heap.size < w2.heap.size := Nat.lt_of_lt_of_le (by simp) hb2.size
            have HC2W := Lib.hid hb2
            clear hb2
            by_cases h6 : 6 < x.cols.length
            · have hk9 : R = 9 := by
                rw [HST.out, show kindF (l.take k) x = 9 from HK2.out.trans (if_pos h6)]
                rfl
              subst hk9
              go_wp2
              rw [Exit.noGoto_ret]
              go_ret
              exact ⟨rfl, HF2.out⟩
            · have h7 : x.cols.length ≤ 6 := by omega
              have hc7 := HCS.out h7
              obtain ⟨hvl7, A7, c7, e7, hA7, hc2, hcs7⟩ := hc7
              injection e7 with e7 e8 e9
              subst e7 e9
              have HC2 := Lib.hid ((hcs7.below (one_new wo _)).below HC2W.out)
              clear hcs7 hA7 e8
              obtain ⟨K, hK⟩ : ∃ K, colsF x.cols x.cols.length 0 = K := ⟨_, rfl⟩
              have hRK : R = if K = 0 then kindsF l f (k + 1) else K := by
                rw [HST.out, show kindF (l.take k) x = K from (HK2.out.trans (if_neg h6)).trans hK]
              have HRK := Lib.hid hRK
              have HK := Lib.hid hK
              clear h6 hRK hK b0
              go_wp2
              go_loopw [5] (fun i wr => ∃ j : Nat, j ≤ x.cols.length ∧ i = .int .i64 j ∧ colsF x.cols (x.cols.length - j) j = K ∧ Below w2.heap.size w2 wr) (fun i _ => x.cols.length - (intOf i).toNat)
              case atStart => exact ⟨0, Nat.zero_le _, rfl, HK.out, Below.refl _ _⟩
              case round =>
                obtain ⟨j, hj, rfl, hcq, hbi⟩ := hrel
                have HCQ := Lib.hid hcq
                have HBI := Lib.hid hbi
                have b2' : wr.cell? ⟨wo.heap.size, 1, none⟩ = some (.slice A2 x.cols.length c2) := (hbi.cell (p := ⟨wo.heap.size, 1, none⟩) hbx).trans b1
                have hbx2 : wo.heap.size < wr.heap.size := Nat.lt_of_lt_of_le hbx hbi.size
                have HCI := Lib.hid (HC2.out.below hbi)
                have HFI := Lib.hid (HF2.out.trans (hbi.mono HF2.out.size))
                clear hcq hbi b1
                by_cases h8 : j < x.cols.length
                · obtain ⟨d, hd⟩ : ∃ d, x.cols[j]? = some d := ⟨_, List.getElem?_eq_getElem h8⟩
                  obtain ⟨g, hg⟩ : ∃ g, x.cols.length - j = g + 1 := ⟨x.cols.length - j - 1, by omega⟩
                  have hst := colsF_step x.cols g j d hd
                  rw [← hg, HCQ.out] at hst
                  have HCS2 := Lib.hid hst
                  have hgn : x.cols.length - (j + 1) = g := by omega
                  have HGN := Lib.hid hgn
                  obtain ⟨a2, rfl, ha2, d0, d1, d2⟩ := HCI.out.col j d hd
                  have hjc : (j : Int) ≤ c2 := by omega
                  have hjc2 : j ≤ c2 := by omega
                  have bj : ((j : Int) == (x.cols.length : Int)) = false := by rw [beq_eq_false_iff_ne]; omega
                  have HFO := Lib.hid (fun (W : World) (h2 : CellsQ W Q (some a2) (flatC (x.cols.take j))) => s_faultOf d Q (some a2) (x.cols.take j) j c2 W (by rw [List.length_take]; omega) (by omega) h2)
                  generalize colF (x.cols.take j) d = z at *
                  have B2 := Lib.hid b2'
                  have D0 := Lib.hid d0
                  have D1 := Lib.hid d1
                  have D2 := Lib.hid d2
                  clear hd hg hst hgn
                  have hji : (j : Int) < (x.cols.length : Int) := by omega
                  by_cases hz : z = 0
                  · have bz : (z == 0) = true := by simpa using hz
                    go_wp2
                    go_region_held3 (fun w' => w'.cell? ⟨wo.heap.size, 1, none⟩ = some (.slice (some a2) x.cols.length c2) ∧ w'.cell? (a2.add (j * 3)) = some (.string d.nm) ∧ w'.cell? { block := (a2.add (j * 3)).block, off := (a2.add (j * 3)).off + 1 } = some (.int .i64 d.k) ∧ w'.cell? { block := (a2.add (j * 3)).block, off := (a2.add (j * 3)).off + 2 } = some (.bool d.nl)) (go_keep)
                      ((go_at_call 46; refine (HFO.out _ (by rw [flatC_take]; exact HCI.out.take _)).mono ?_; rintro e w3 ⟨rfl, hb3⟩; have k0 := (hb3.cell (p := ⟨wo.heap.size, 1, none⟩) hbx2).trans B2.out; have k1 := (hb3.cell (p := a2.add (j * 3)) ha2).trans D0.out; have k2 := (hb3.cell (p := { block := (a2.add (j * 3)).block, off := (a2.add (j * 3)).off + 1 }) ha2).trans D1.out; have k3 := (hb3.cell (p := { block := (a2.add (j * 3)).block, off := (a2.add (j * 3)).off + 2 }) ha2).trans D2.out))
                    all_goals
                      go_wp2
                      go_roundw
                      case rel => exact ⟨j + 1, by omega, by go_num, by rw [HGN.out, HCS2.out, if_pos hz], HBI.out.trans ((below_drewN' (Below.refl _ _) _).trans (hb3.mono HBI.out.size))⟩
                      case measure => simp [intOf]; omega
                  · have bz : (z == 0) = false := by simpa using hz
                    have hKz : K = z := by rw [HCS2.out, if_neg hz]
                    have hRz : R = z := by rw [HRK.out, if_neg (by rw [hKz]; exact hz), hKz]
                    have HRZ := Lib.hid hRz
                    clear hKz hRz
                    go_wp2
                    go_region_held3 (fun w' => w'.cell? ⟨wo.heap.size, 1, none⟩ = some (.slice (some a2) x.cols.length c2) ∧ w'.cell? (a2.add (j * 3)) = some (.string d.nm) ∧ w'.cell? { block := (a2.add (j * 3)).block, off := (a2.add (j * 3)).off + 1 } = some (.int .i64 d.k) ∧ w'.cell? { block := (a2.add (j * 3)).block, off := (a2.add (j * 3)).off + 2 } = some (.bool d.nl)) (go_keep)
                      ((go_at_call 46; refine (HFO.out _ (by rw [flatC_take]; exact HCI.out.take _)).mono ?_; rintro e w3 ⟨rfl, hb3⟩; have k0 := (hb3.cell (p := ⟨wo.heap.size, 1, none⟩) hbx2).trans B2.out; have k1 := (hb3.cell (p := a2.add (j * 3)) ha2).trans D0.out; have k2 := (hb3.cell (p := { block := (a2.add (j * 3)).block, off := (a2.add (j * 3)).off + 1 }) ha2).trans D1.out; have k3 := (hb3.cell (p := { block := (a2.add (j * 3)).block, off := (a2.add (j * 3)).off + 2 }) ha2).trans D2.out))
                    all_goals
                      go_wp2
                      rw [Exit.noGoto_ret]
                      go_ret
                      rw [HRZ.out]
                      exact ⟨rfl, HFI.out.trans ((below_drewN' (Below.refl _ _) _).trans (hb3.mono HFI.out.size))⟩
                · obtain rfl : j = x.cols.length := by omega
                  have hK0 : K = 0 := by rw [← HCQ.out]; exact colsF_end _ _ _ (Nat.le_refl _)
                  have hRf : kindsF l f (k + 1) = R := by rw [HRK.out, if_pos hK0]
                  have HRF := Lib.hid hRf
                  clear hRf hK0
                  go_wp2
                  go_roundw
                  case rel => exact ⟨k + 1, by omega, by go_num, by rw [HNX.out]; exact HRF.out, HFI.out, take_six HSX.out HXK.out h7⟩
                  case measure => simp [intOf]; omega
      · have hk3 : R = 3 := by
          rw [HST.out, show kindF (l.take k) x = 3 by unfold kindF; rw [if_pos (.inl n1)]]
          rfl
        have N1 := Lib.hid n1
        subst hk3
        clear n1
        go_wp2_with (go_at_call 43; refine (s_name _ _).mono ?_; rintro e w1 ⟨rfl, rfl⟩; rw [N1.out])
        rw [Exit.noGoto_ret]
        go_ret
        exact ⟨rfl, HFB.out⟩
    · have hR0 : R = 0 := by rw [← HQ.out]; exact kindsF_end _ _ _ (by rw [← HN.out]; omega)
      subst hR0
      go_wp2
      rw [Exit.noGoto_ret]
      go_ret
      exact ⟨rfl, HB.out⟩

theorem colsR_long {cs : List Co} (h : 6 < cs.length) : colsR cs = 9 := by
  unfold colsR
  rw [if_pos h]
set_option maxRecDepth 100000 in
theorem ref_colsW (w : World) (A : Option Addr) (c : Nat) (cs : List Co) (Q : Nat → Prop) (h : cs.length ≤ 6 → IsCols w Q (.slice A cs.length c) cs) :
    Calls Try.prog 29 #[.slice A cs.length c] w fun e w' => e = .returned (.int .i64 (colsR cs)) ∧ Below w.heap.size w w' := by
  by_cases h6 : 6 < cs.length
  · rw [colsR_long h6]
    clear h
    go_enter Try.func29, Try.ntmps29
    go_wp2
    go_ret
    exact ⟨rfl, Below.refl _ _⟩
  · obtain ⟨hl, A7, c7, e7, -, -, hc⟩ := h (by omega)
    injection e7 with e7 e8 e9
    subst e7 e9
    exact ref_columns _ _ cs _ c w rfl hl hc
set_option maxRecDepth 100000 in
set_option maxHeartbeats 4000000 in
theorem ref_checkW (Q : Nat → Prop) (A : Option Addr) (ls : List RS) (l : List Sc) (n c : Nat) (w : World) (hn : n = l.length) (hl : n ≤ 1000000) (hr : ScW w Q ls l) (hx : CellsQ w Q A (flatS ls)) :
    Calls Try.prog 9 #[.slice A n c] w fun e w' => e = .returned (.int .i64 (faultR l)) ∧ Below w.heap.size w w' := by
  have HX := Lib.hid hx
  have HR := Lib.hid hr
  have HN := Lib.hid hn
  clear hx hr hn
  by_cases h8 : 8 < n
  · have e : faultR l = 9 := by unfold faultR; rw [if_pos (by rw [← HN.out]; exact h8)]
    rw [e]
    clear e
    go_enter Try.func9, Try.ntmps9
    go_wp2
    go_ret
    exact ⟨rfl, Below.refl _ _⟩
  obtain ⟨R, hR⟩ : ∃ R, faultR l = R := ⟨_, rfl⟩
  have hR2 : kindsF l n 0 = R := by rw [← hR]; unfold faultR; rw [if_neg (by rw [← HN.out]; exact h8), HN.out]
  rw [hR]
  have HRR := Lib.hid hR2
  clear hR hR2
  have h9 : n ≤ 8 := by omega
  clear h8
  go_enter Try.func9, Try.ntmps9
  go_wp2
  go_loopw [3] (fun i wr => ∃ k : Nat, k ≤ n ∧ i = .int .i64 k ∧ kindsF l (n - k) k = R ∧ Below w.heap.size w wr) (fun i _ => n - (intOf i).toNat)
  case atStart => exact ⟨0, Nat.zero_le _, rfl, HRR.out, Below.refl _ _⟩
  case round =>
    obtain ⟨wo, hwo⟩ : ∃ wo, wo = wr := ⟨_, rfl⟩
    subst hwo
    obtain ⟨k, hk, rfl, hq, hb⟩ := hrel
    have HQ := Lib.hid hq
    have HB := Lib.hid hb
    clear hq hb
    by_cases h1 : k < n
    · obtain ⟨x, hx⟩ : ∃ x, l[k]? = some x := ⟨_, List.getElem?_eq_getElem (by rw [← HN.out]; exact h1)⟩
      obtain ⟨a, v, rfl, hv, ha, d0, d1⟩ := kind_getW (HR.out.keep (Below.keepQ HB.out Q)) (HX.out.below HB.out) k x hx
      have hst := kindsF_step l (n - (k + 1)) k x hx
      rw [show n - (k + 1) + 1 = n - k from by omega, HQ.out] at hst
      have HST := Lib.hid hst
      have HD := Lib.hid hx
      have HV := Lib.hid hv
      obtain ⟨nm9, cs9⟩ := x
      clear hx hst hv
      rcases Bool.eq_false_or_eq_true (nameR nm9.data.toList) with hn1 | hn1
      · have HNM := Lib.hid hn1
        rcases Bool.eq_false_or_eq_true (sameNm nm9 tenantB) with ht | ht
        · have bt : (nm9.toList == [116, 101, 110, 97, 110, 116]) = true := by rw [← same_ten]; exact ht
          have hz : R = 3 := by
            have hc : kindF (l.take k) ⟨nm9, cs9⟩ = 3 := by unfold kindF; rw [if_pos (Or.inr ht)]
            rw [HST.out, hc]
            rfl
          subst hz
          clear hn1 ht
          go_wp2_with fail
          refine (ref_name _ _).mono ?_
          rintro e w1 ⟨rfl, rfl⟩
          rw [HNM.out]
          go_wp2
          go_ret
          exact ⟨rfl, HB.out⟩
        · have bt : (nm9.toList == [116, 101, 110, 97, 110, 116]) = false := by rw [← same_ten]; exact ht
          have HTN := Lib.hid ht
          clear hn1 ht
          go_wp2_with fail
          refine (ref_name _ _).mono ?_
          rintro e w1 ⟨rfl, rfl⟩
          rw [HNM.out]
          go_wp2
          go_loopw [4] (fun i wq => ∃ m : Nat, m ≤ k ∧ i = .int .i64 m ∧ (l.take m).any (fun d => sameNm d.nm nm9) = false ∧ Below w.heap.size w wq) (fun i _ => k - (intOf i).toNat)
          case atStart => exact ⟨0, Nat.zero_le _, rfl, by simp, HB.out⟩
          case round =>
            obtain ⟨wi, hwi⟩ : ∃ wi, wi = wr := ⟨_, rfl⟩
            subst hwi
            obtain ⟨m, hm, rfl, hq2, hb2⟩ := hrel
            have HQ2 := Lib.hid hq2
            have HB2 := Lib.hid hb2
            clear hq2 hb2
            obtain ⟨a3, v3, ha3, hv3, hb3, f0, f1⟩ := kind_getW (HR.out.keep (Below.keepQ HB2.out Q)) (HX.out.below HB2.out) k _ HD.out
            injection ha3 with ha3
            subst ha3
            by_cases h8 : m < k
            · obtain ⟨d2, hd2⟩ : ∃ d2, l[m]? = some d2 := ⟨_, List.getElem?_eq_getElem (by rw [← HN.out]; omega)⟩
              obtain ⟨a2, v2, ha2, _, hb2, e0, _⟩ := kind_getW (HR.out.keep (Below.keepQ HB2.out Q)) (HX.out.below HB2.out) m d2 hd2
              injection ha2 with ha2
              subst ha2
              have HD2 := Lib.hid hd2
              have hkn : m < n := by omega
              obtain ⟨nm8, cs8⟩ := d2
              clear hd2 hv3
              rcases Bool.eq_false_or_eq_true (sameNm nm8 nm9) with hz | hz
              · have bz : (nm8.toList == nm9.toList) = true := hz
                have hR4 : R = 4 := by
                  have hc : kindF (l.take k) ⟨nm9, cs9⟩ = 4 := by
                    unfold kindF
                    rw [if_neg (by simp only; rw [HNM.out, HTN.out]; simp), if_pos (any_take_hit l _ m k _ HD2.out h8 hz)]
                  rw [HST.out, hc]
                  rfl
                subst hR4
                clear hz
                go_wp2
                go_quiet (fail)
                go_wp2
                go_ret
                exact ⟨rfl, below_dN HB2.out _⟩
              · have bz : (nm8.toList == nm9.toList) = false := hz
                have HZ := Lib.hid hz
                clear hz
                go_wp2
                go_quiet (fail)
                go_wp2
                go_roundw
                case rel => exact ⟨m + 1, by omega, by go_num, by rw [any_take _ _ _ _ HD2.out, HQ2.out, HZ.out]; rfl, below_dN HB2.out _⟩
                case measure => simp [intOf]; omega
            · obtain rfl : m = k := by omega
              have hkc := kindF_cols (l.take m) ⟨nm9, cs9⟩ HNM.out HTN.out HQ2.out
              rw [hkc] at HST
              have HV3 := Lib.hid hv3
              obtain ⟨hcl, A4, c4, rfl, hcs⟩ := hv3
              have HCR := Lib.hid (ref_colsW wi A4 c4 cs9 Q hcs)
              clear hkc hcs
              generalize colsR cs9 = S at *
              by_cases hS : S = 0
              · subst hS
                have hR5 : kindsF l (n - (m + 1)) (m + 1) = R := by rw [HST.out]; rfl
                have HR5 := Lib.hid hR5
                clear hR5
                go_wp2_with fail
                refine HCR.out.mono ?_
                rintro e w3 ⟨rfl, hb5⟩
                have HB5 := Lib.hid (HB2.out.trans (hb5.mono HB2.out.size))
                clear hb5
                go_wp2
                go_roundw
                case rel => exact ⟨m + 1, by omega, by go_num, HR5.out, HB5.out⟩
                case measure => simp [intOf]; omega
              · have b0 : (S == 0) = false := by simpa using hS
                have b1 : (S != 0) = true := by unfold bne; rw [b0]; rfl
                have hz : R = S := by rw [HST.out, if_neg hS]
                subst hz
                clear hS
                go_wp2_with fail
                refine HCR.out.mono ?_
                rintro e w3 ⟨rfl, hb5⟩
                have HB5 := Lib.hid (HB2.out.trans (hb5.mono HB2.out.size))
                clear hb5
                go_wp2
                go_ret
                exact ⟨rfl, HB5.out⟩
      · have HNM := Lib.hid hn1
        have hz : R = 3 := by
          have hc : kindF (l.take k) ⟨nm9, cs9⟩ = 3 := by unfold kindF; rw [if_pos (Or.inl HNM.out)]
          rw [HST.out, hc]
          rfl
        subst hz
        clear hn1
        go_wp2_with fail
        refine (ref_name _ _).mono ?_
        rintro e w1 ⟨rfl, rfl⟩
        rw [HNM.out]
        go_wp2
        go_ret
        exact ⟨rfl, HB.out⟩
    · have hz : R = 0 := by rw [← HQ.out, kindsF_end _ _ _ (by rw [← HN.out]; omega)]
      subst hz
      go_wp2
      go_ret
      exact ⟨rfl, HB.out⟩

set_option maxRecDepth 100000 in
set_option maxHeartbeats 1000000 in
theorem s_newW (Q : Nat → Prop) (A : Option Addr) (c : Nat) (ls : List RS) (l : List Sc) (w : World) (hl : l.length ≤ 1000000) (hA : A = none → c = 0) (hcap : l.length ≤ c) (hr : ScW w Q ls l) (hx : CellsQ w Q A (flatS ls)) : Calls Try.prog 8 #[.slice A l.length c] w (NewIs w l) := by
  by_cases h0 : faultR l = 0
  · have hs := hr.take_ok l.length (fun x hx => faultR_six h0 x (List.mem_of_mem_take hx))
    rw [List.take_of_length_le (Nat.le_refl _), List.take_of_length_le (by rw [hr.len]; exact Nat.le_refl _)] at hs
    exact s_new Q _ l w ⟨hl, A, c, rfl, hA, hcap, ls, hs, hx⟩
  · have HF := Lib.hid (s_faultW Q A ls l _ c w rfl hl hcap hr hx)
    obtain ⟨n, hn⟩ : ∃ n, l.length = n := ⟨_, rfl⟩
    rw [hn] at HF ⊢
    clear hr hx hA hcap hl hn
    obtain ⟨R, hR⟩ : ∃ R, faultR l = R := ⟨_, rfl⟩
    rw [hR] at HF h0
    have HR := Lib.hid hR
    clear hR
    have b0 : (R == 0) = false := by simpa using h0
    go_enter Try.func8, Try.ntmps8
    go_wp2_with fail
    refine HF.out.mono ?_
    rintro e w1 ⟨rfl, hb1⟩
    go_wp2
    go_ret2
    exact ⟨hb1, .inr ⟨by rw [HR.out]; exact h0, by rw [HR.out]; exact rfl⟩⟩
end Go.Proofs.Ythdjkagodccdbaa
