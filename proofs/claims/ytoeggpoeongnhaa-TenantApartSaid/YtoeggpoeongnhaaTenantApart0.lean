/-
  TenantApart of verdererlaw09 answers true at every two lists of acts, in every world, and changes nothing that was there.
  No condition but that texts are no longer than texts can be.
-/
import Derived.Test.YtoeggpoeongnhaaTnaa
import Derived.Test.YtoeggpoeongnhaaTenantPlays0
namespace Go.Proofs.Ytoeggpoeongnhaa
open Go.RowKit Go.Maps

theorem TasAt.later {w w' : World} {A : Option Addr} {xs : List Ta} (h : TasAt w A xs) (i : Nat) (x : Ta) (hx : xs[i]? = some x) (hb : Below w.heap.size w w') : ∃ a : Addr, A = some a ∧ w'.cell? (a.add (i * 3)) = some (.int .i64 x.k) ∧ w'.cell? { block := (a.add (i * 3)).block, off := (a.add (i * 3)).off + 1 } = some (.string x.n) ∧ w'.cell? { block := (a.add (i * 3)).block, off := (a.add (i * 3)).off + 2 } = some (.string x.p) := by
  obtain ⟨a, rfl, hl, h0, h1, h2⟩ := h i x hx
  exact ⟨a, rfl, (hb.cell (p := a.add (i * 3)) hl).trans h0, (hb.cell (p := { block := (a.add (i * 3)).block, off := (a.add (i * 3)).off + 1 }) hl).trans h1, (hb.cell (p := { block := (a.add (i * 3)).block, off := (a.add (i * 3)).off + 2 }) hl).trans h2⟩

set_option maxRecDepth 100000 in
set_option maxHeartbeats 8000000 in
theorem tenantApart_all (A : Option Addr) (c : Nat) (xs : List Ta) (n : Nat) (A2 : Option Addr) (c2 : Nat) (ys : List Ta) (m : Nat) (w : World) (hn : xs.length = n) (hA : TasAt w A xs) (hs : ∀ x ∈ xs, x.n.size ≤ maxLen ∧ x.p.size ≤ maxLen) (hm : ys.length = m) (hA2 : TasAt w A2 ys) (hs2 : ∀ x ∈ ys, x.n.size ≤ maxLen ∧ x.p.size ≤ maxLen) :
    Calls Try.prog 9 #[.slice A n c, .slice A2 m c2] w fun e w' => e = .returned (.bool true) ∧ Below w.heap.size w w' := by
  have HA := Lib.hid hA
  have HS := Lib.hid hs
  have HA2 := Lib.hid hA2
  have HS2 := Lib.hid hs2
  clear hA hs hA2 hs2
  go_enter Try.func9, Try.ntmps9
  go_wp2_with fail
  refine (t_new w).mono ?_
  rintro e w1 ⟨rfl, hb1, hT1⟩
  have HB1 := Lib.hid (hb1.trans ((one_new w1 (.cells #[.slice none 0 0] 66)).mono hb1.size))
  have HS1 := Lib.hid (StT.empty hT1 hb1)
  clear hb1 hT1
  go_wp2
  go_loopw [7] (fun i wr => ∃ (k : Nat) (v : Value) (L : List Tn), k ≤ n ∧ k ≤ 60 ∧ i = .int .i64 k ∧ Hid (StT wr w.heap.size (w.heap.size + 1) w.heap.size w1.heap.size v L) ∧ Below w.heap.size w wr) (fun i _ => n - (intOf i).toNat)
  case atStart => exact ⟨0, _, [], Nat.zero_le _, by omega, rfl, HS1, HB1.out⟩
  case round =>
    obtain ⟨k, v, L, hk, hk1, rfl, HST, hb⟩ := hrel
    have HB := Lib.hid hb
    by_cases hlt : k < n ∧ k < 60
    · obtain ⟨hlt1, hlt2⟩ := hlt
      obtain ⟨⟨xk, xn, xp⟩, hx⟩ : ∃ x, xs[k]? = some x := ⟨_, List.getElem?_eq_getElem (by omega)⟩
      obtain ⟨a, rfl, c0, c1, c2⟩ := HA.out.later k _ hx hb
      obtain ⟨z1, z2⟩ := HS.out _ (List.mem_of_getElem? hx)
      simp only at c0 c1 c2 z1 z2
      clear hx hb
      go_wp2_with fail
      refine (l_do w.heap.size (w.heap.size + 1) w.heap.size w1.heap.size v L xk xn xp wr HST.out z1 z2).mono ?_
      rintro e w3 ⟨rfl, v', hS3, _, hb3⟩
      have HS3 := Lib.hid hS3
      have HB3 := Lib.hid (HB.out.trans hb3)
      clear hS3 hb3
      go_wp2
      go_roundw
      case rel => exact ⟨k + 1, v', _, by omega, by omega, by go_num, HS3, HB3.out⟩
      case measure => simp [intOf]; omega
    · have HBW := Lib.hid hb
      obtain ⟨⟨D, hT⟩, hR, hg, _⟩ := HST.out
      have hfew := hg.few
      have hwr := hb.size
      have HT := Lib.hid hT
      have HR := Lib.hid hR
      clear hb hT hR hg
      obtain ⟨H, hH⟩ : ∃ H, H = wr.heap.size := ⟨_, rfl⟩
      obtain ⟨wo, hwo⟩ : ∃ wo, wo = wr := ⟨_, rfl⟩
      rcases (show n ≤ k ∨ (k < n ∧ 60 ≤ k) by omega) with h1 | ⟨h1, h2⟩
      all_goals
        go_wp2_with fail
        refine (t_copy _ _ D L wr HT.out).mono ?_
        rintro e w4 ⟨t2, rfl, hT4, _, hb4⟩
        have HT4 := Lib.hid hT4
        have HB4 := Lib.hid hb4
        clear hT4 hb4
        go_wp2_with fail
        refine (r_copyT _ _ v L w4 (HR.out.below HB4.out) (by omega)).mono ?_
        rintro e w5 ⟨v5, rfl, hR5, hb5⟩
        have hST5 := HST.out.copied HT4.out HB4.out hR5 hb5
        have HB5 := Lib.hid (show Below H wo w5 by rw [hH, hwo]; exact HB4.out.trans (hb5.mono HB4.out.size))
        rw [← hH] at hST5
        have HST5 := Lib.hid hST5
        have HSTO : Hid (StT wo w.heap.size (w.heap.size + 1) w.heap.size w1.heap.size v L) := by rw [hwo]; exact HST
        have HBO : Hid (Below w.heap.size w wo) := by rw [hwo]; exact HBW
        have HHO : Hid (H = wo.heap.size) := Lib.hid (by rw [hH, hwo])
        have HHW : Hid (w.heap.size ≤ H) := Lib.hid (by rw [hH]; exact hwr)
        clear hR5 hb5 hST5 HT HR HT4 HB4 HB hH hwo
        go_wp2
        go_loopw [10] (fun i wr => ∃ (j : Nat) (v2 : Value) (L2 : List Tn), j ≤ m ∧ j ≤ 40 ∧ i = .int .i64 j ∧ Hid (StT wr H t2 H w4.heap.size v2 L2) ∧ Below H wo wr) (fun i _ => m - (intOf i).toNat)
        case atStart => exact ⟨0, _, L, Nat.zero_le _, by omega, rfl, HST5, HB5.out⟩
        case round =>
          obtain ⟨j, v2, L2, hj, hj1, rfl, HSU, hbj⟩ := hrel
          have HBJ := Lib.hid hbj
          have HBJW := Lib.hid (HBO.out.trans (hbj.mono HHW.out))
          clear hbj
          by_cases hltj : j < m ∧ j < 40
          · obtain ⟨hltj1, hltj2⟩ := hltj
            obtain ⟨⟨xk, xn, xp⟩, hx⟩ : ∃ x, ys[j]? = some x := ⟨_, List.getElem?_eq_getElem (by omega)⟩
            obtain ⟨a, rfl, c0, c1, c2⟩ := HA2.out.later j _ hx HBJW.out
            obtain ⟨z1, z2⟩ := HS2.out _ (List.mem_of_getElem? hx)
            simp only at c0 c1 c2 z1 z2
            clear hx
            go_wp2_with fail
            refine (l_do H t2 H w4.heap.size v2 L2 xk xn xp _ HSU.out z1 z2).mono ?_
            rintro e w6 ⟨rfl, v6, hS6, _, hb6⟩
            have HS6 := Lib.hid hS6
            have HB6 := Lib.hid (HBJ.out.trans hb6)
            clear hS6 hb6
            go_wp2
            go_roundw
            case rel => exact ⟨j + 1, v6, _, by omega, by omega, by go_num, HS6, HB6.out⟩
            case measure => simp [intOf]; omega
          · obtain ⟨⟨D1, hT1⟩, hR1, hg1, _⟩ := HSTO.out.keep HHO.out HBJ.out
            obtain ⟨⟨D2, hT2⟩, hR2, hg2, _⟩ := HSU.out
            have hf1 := hg1.few
            have hf2 := hg2.few
            obtain ⟨B1, cB1, rfl, _, _, hat1, hag1⟩ := hR1.2.slice
            obtain ⟨B2, cB2, rfl, _, _, hat2, hag2⟩ := hR2.2.slice
            have hrl1 := hR1.lt
            have hrl2 := hR2.lt
            have k0 := cell_rowT _ _ _ _ hR1.1
            have j0 := cell_rowT _ _ _ _ hR2.1
            have HRA1 := Lib.hid hat1
            have HRG1 := Lib.hid hag1
            have HRA2 := Lib.hid hat2
            have HRG2 := Lib.hid hag2
            have HTA1 := Lib.hid (fun W (h : Below wr.heap.size wr W) => t_all _ _ D1 L W (hT1.below h) hg1.srt (by omega))
            have HTA2 := Lib.hid (fun W (h : Below wr.heap.size wr W) => t_all _ _ D2 L2 W (hT2.below h) hg2.srt (by omega))
            clear hT1 hR1 hg1 hat1 hag1 hT2 hR2 hg2 hat2 hag2
            have hmk1 : True := trivial
            have hmk2 : True := trivial
            rcases (show m ≤ j ∨ (j < m ∧ 40 ≤ j) by omega) with h3 | ⟨h3, h4⟩
            all_goals
              go_wp2_with fail
              go_region_held3 (fun W : World => W.cell? ⟨w1.heap.size, 0, none⟩ = some (.slice B1 L.length cB1) ∧ W.cell? ⟨w4.heap.size, 0, none⟩ = some (.slice B2 L2.length cB2)) (go_keep)
                (first
                  | (go_at_call 45; clear hmk1; refine (HTA1.out _ (below_drew _ _)).mono ?_; rintro e w7 ⟨v7, rfl, hown, hb7⟩; obtain ⟨A7, c7, rfl, _, _, hat, hag⟩ := hown.slice; have HA7 := Lib.hid hat; have HG7 := Lib.hid hag; have HB7 := Lib.hid ((below_drew _ wr).trans hb7); have e7 := (HB7.out.cell (p := ⟨w1.heap.size, 0, none⟩) hrl1).trans k0; have f7 := (HB7.out.cell (p := ⟨w4.heap.size, 0, none⟩) hrl2).trans j0; have HRA17 := Lib.hid (HRA1.out.below HB7.out); clear hown hat hag hb7)
                  | (go_at_call 44; clear hmk2; refine (r_sameTn L A7 B1 c7 cB1 _ (by omega) HA7.out HG7.out HRA17.out HRG1.out).mono ?_; rintro e w8 ⟨rfl, hb8⟩; have HB8 := Lib.hid (HB7.out.trans (hb8.mono HB7.out.size)); have e8 := (HB8.out.cell (p := ⟨w1.heap.size, 0, none⟩) hrl1).trans k0; have f8 := (HB8.out.cell (p := ⟨w4.heap.size, 0, none⟩) hrl2).trans j0; clear hb8 HA7)
                  | (go_at_call 45; refine (HTA2.out _ HB8.out).mono ?_; rintro e w9 ⟨v9, rfl, hown, hb9⟩; obtain ⟨A9, c9, rfl, _, _, hat, hag⟩ := hown.slice; have HA9 := Lib.hid hat; have HG9 := Lib.hid hag; have HB9 := Lib.hid (HB8.out.trans (hb9.mono HB8.out.size)); have e9 := (HB9.out.cell (p := ⟨w1.heap.size, 0, none⟩) hrl1).trans k0; have f9 := (HB9.out.cell (p := ⟨w4.heap.size, 0, none⟩) hrl2).trans j0; have HRA29 := Lib.hid (HRA2.out.below HB9.out); clear hown hat hag hb9)
                  | (go_at_call 44; refine (r_sameTn L2 A9 B2 c9 cB2 _ (by omega) HA9.out HG9.out HRA29.out HRG2.out).mono ?_; rintro e w10 ⟨rfl, hb10⟩; have HB10 := Lib.hid (HB9.out.trans (hb10.mono HB9.out.size)); have e10 := (HB10.out.cell (p := ⟨w1.heap.size, 0, none⟩) hrl1).trans k0; have f10 := (HB10.out.cell (p := ⟨w4.heap.size, 0, none⟩) hrl2).trans j0; clear hb10)
                  | (go_at_call 46; refine (known9 _).mono ?_; rintro e w11 ⟨rfl, hb11⟩; have HB11 := Lib.hid (HB10.out.trans (hb11.mono HB10.out.size)); have e11 := (HB11.out.cell (p := ⟨w1.heap.size, 0, none⟩) hrl1).trans k0; have f11 := (HB11.out.cell (p := ⟨w4.heap.size, 0, none⟩) hrl2).trans j0; clear hb11))
              go_wp2
              go_ret
              exact ⟨rfl, HBJW.out.trans (HB11.out.mono HBJW.out.size)⟩
end Go.Proofs.Ytoeggpoeongnhaa
