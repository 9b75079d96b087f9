/-
  TenantPlays of verdererlaw09 answers true at every list of acts and every text, in every world, and changes nothing that was there.
  No condition but that texts are no longer than texts can be.
-/
import Derived.Test.YtoeggpoeongnhaaTnz
import Derived.Deep.RegionHeld3
namespace Go.Proofs.Ytoeggpoeongnhaa
open Go.RowKit Go.Maps

theorem orT_form (o : Option Tn) : ∃ a b, orT o = .agg #[.string a, .string b] := by
  cases o with
  | none => exact ⟨_, _, rfl⟩
  | some x => exact ⟨_, _, rfl⟩
/-- A tenant in a box that is new. -/
theorem box_T {w : World} (a b : ByteArray) :
    (((w.alloc (.cells #[.string ⟨#[]⟩, .string ⟨#[]⟩] 71)).setCell ⟨w.heap.size, 0, none⟩ (.string a)).setCell ⟨w.heap.size, 1, none⟩ (.string b)).heap[w.heap.size]? = some (.cells #[.string a, .string b] 71 (0, 0)) ∧
      Below w.heap.size w (((w.alloc (.cells #[.string ⟨#[]⟩, .string ⟨#[]⟩] 71)).setCell ⟨w.heap.size, 0, none⟩ (.string a)).setCell ⟨w.heap.size, 1, none⟩ (.string b)) ∧
      w.heap.size < (((w.alloc (.cells #[.string ⟨#[]⟩, .string ⟨#[]⟩] 71)).setCell ⟨w.heap.size, 0, none⟩ (.string a)).setCell ⟨w.heap.size, 1, none⟩ (.string b)).heap.size := by
  have h0 : (w.alloc (.cells #[.string ⟨#[]⟩, .string ⟨#[]⟩] 71)).heap[w.heap.size]? = some (.cells #[.string ⟨#[]⟩, .string ⟨#[]⟩] 71 (0, 0)) := World.alloc_heap_new w _
  have h1 := heap_setCell_same _ w.heap.size 0 _ _ (.string a) h0
  have h2 := heap_setCell_same _ w.heap.size 1 _ _ (.string b) h1
  exact ⟨h2, ((one_new w _).setCell (p := ⟨w.heap.size, 0, none⟩) (Nat.le_refl _) _).setCell (p := ⟨w.heap.size, 1, none⟩) (Nat.le_refl _) _, (Array.getElem?_eq_some_iff.1 h2).1⟩
theorem StT.empty {w w1 : World} (h : TreeB w1 (w.heap.size + 1) w.heap.size (.map []) []) (hb : Below w.heap.size w w1) : StT (w1.alloc (.cells #[.slice none 0 0] 66)) w.heap.size (w.heap.size + 1) w.heap.size w1.heap.size (.slice none 0 0) [] := by
  have h1 := h.2.2.2.2.1
  have h2 := h.2.2.2.2.2
  exact ⟨⟨_, h.below (one_new w1 _)⟩, ⟨World.alloc_heap_new w1 _, OwnN.nil _ _⟩, GoodT.empty, by omega, by omega, (fun k hk => by cases hk), Nat.le_refl _, hb.size⟩

section
attribute [local go_sem high] equal_tn
set_option maxRecDepth 100000 in
set_option maxHeartbeats 8000000 in
theorem tenantPlays_all (A : Option Addr) (c : Nat) (xs : List Ta) (n : Nat) (nm : ByteArray) (w : World) (hn : xs.length = n) (hA : TasAt w A xs) (hs : ∀ x ∈ xs, x.n.size ≤ maxLen ∧ x.p.size ≤ maxLen) (hnm : nm.size ≤ maxLen) :
    Calls Try.prog 7 #[.slice A n c, .string nm] w fun e w' => e = .returned (.bool true) ∧ Below w.heap.size w w' := by
  have HA := Lib.hid hA
  have HS := Lib.hid hs
  have HNM := Lib.hid hnm
  clear hA hs hnm
  go_enter Try.func7, Try.ntmps7
  go_wp2_with fail
  refine (t_new w).mono ?_
  rintro e w1 ⟨rfl, hb1, hT1⟩
  have HB1 := Lib.hid (hb1.trans ((one_new w1 (.cells #[.slice none 0 0] 66)).mono hb1.size))
  have HS1 := Lib.hid (StT.empty hT1 hb1)
  clear hb1 hT1
  go_wp2
  go_loopw [7] (fun i wr => ∃ (k : Nat) (v : Value) (L : List Tn), k ≤ n ∧ k ≤ 100 ∧ i = .int .i64 k ∧ Hid (StT wr w.heap.size (w.heap.size + 1) w.heap.size w1.heap.size v L) ∧ Below w.heap.size w wr) (fun i _ => n - (intOf i).toNat)
  case atStart => exact ⟨0, _, [], Nat.zero_le _, by omega, rfl, HS1, HB1.out⟩
  case round =>
    obtain ⟨k, v, L, hk, hk1, rfl, HST, hb⟩ := hrel
    have HB := Lib.hid hb
    by_cases hlt : k < n ∧ k < 100
    · obtain ⟨hlt1, hlt2⟩ := hlt
      obtain ⟨⟨xk, xn, xp⟩, hx⟩ : ∃ x, xs[k]? = some x := ⟨_, List.getElem?_eq_getElem (by omega)⟩
      obtain ⟨a, rfl, hal, q0, q1, q2⟩ := HA.out k _ hx
      have c0 := (hb.cell (p := a.add (k * 3)) hal).trans q0
      have c1 := (hb.cell (p := { block := (a.add (k * 3)).block, off := (a.add (k * 3)).off + 1 }) hal).trans q1
      have c2 := (hb.cell (p := { block := (a.add (k * 3)).block, off := (a.add (k * 3)).off + 2 }) hal).trans q2
      obtain ⟨z1, z2⟩ := HS.out _ (List.mem_of_getElem? hx)
      simp only at c0 c1 c2 z1 z2 q1 q2
      have Q1 := Lib.hid q1
      clear hx hb q0 q1 q2
      go_wp2_with fail
      refine (l_do w.heap.size (w.heap.size + 1) w.heap.size w1.heap.size v L xk xn xp wr HST.out z1 z2).mono ?_
      rintro e w3 ⟨rfl, v', hS3, hch3, hb3⟩
      have HS3 := Lib.hid hS3
      have HB3 := Lib.hid (HB.out.trans hb3)
      have k1 := (HB3.out.cell (p := { block := (a.add (k * 3)).block, off := (a.add (k * 3)).off + 1 }) hal).trans Q1.out
      generalize actL L ⟨xk, xn, xp⟩ = L' at *
      clear hS3 hb3 hch3 c0 c1 c2
      obtain ⟨ga, gb, hgf⟩ := orT_form (findN L' xn)
      have HG3 := HS3.out.2.2.1
      have hfew := HG3.few
      obtain ⟨⟨D3, hT3⟩, hR3, _⟩ := HS3.out
      have HT3 := Lib.hid hT3
      have HR3 := Lib.hid hR3
      have HLP := Lib.hid (fun y (hy : y ∈ L') => show y.2.size ≤ maxLen from by have := HG3.par y hy; unfold maxLen; omega)
      have HCH := Lib.hid (HG3.chain xn).1
      have hc5 := (HG3.chain xn).2
      have hul := underL_len L' xn
      have HGG := Lib.hid HG3
      have HGT := Lib.hid (fun W (h : Below w3.heap.size w3 W) => t_get (w.heap.size + 1) w.heap.size D3 L' xn W (HT3.out.below h) z1)
      have HGR := Lib.hid (fun W (h : Below w3.heap.size w3 W) => r_getT w.heap.size w1.heap.size v' L' xn W (HR3.out.below h) (by omega))
      have HHT := Lib.hid (fun W (h : Below w3.heap.size w3 W) => t_has (w.heap.size + 1) w.heap.size D3 L' xn W (HT3.out.below h) z1)
      have HHR := Lib.hid (fun W (h : Below w3.heap.size w3 W) => r_hasT w.heap.size w1.heap.size v' L' xn W (HR3.out.below h) (by omega))
      have HDT := Lib.hid (fun W (h : Below w3.heap.size w3 W) => t_depth (w.heap.size + 1) w.heap.size D3 L' W xn (chn L' xn) HCH.out (HT3.out.below h) HLP.out z1 (by omega))
      have HDR := Lib.hid (fun W (h : Below w3.heap.size w3 W) => r_depthT w.heap.size w1.heap.size v' L' xn W (HR3.out.below h) (by omega))
      have HAT := Lib.hid (fun W (h : Below w3.heap.size w3 W) => t_above (w.heap.size + 1) w.heap.size D3 L' W xn (chn L' xn) HCH.out (HT3.out.below h) HLP.out z1 (by omega))
      have HAR := Lib.hid (fun W (h : Below w3.heap.size w3 W) => r_aboveT w.heap.size w1.heap.size v' L' xn W (HR3.out.below h) (by omega))
      have HUT := Lib.hid (fun W (h : Below w3.heap.size w3 W) => t_under (w.heap.size + 1) w.heap.size D3 L' W xn (HT3.out.below h) HGG.out z1)
      have HUR := Lib.hid (fun W (h : Below w3.heap.size w3 W) => r_underT w.heap.size w1.heap.size v' L' xn W (HR3.out.below h) HGG.out)
      rw [hgf] at HGT HGR
      generalize (if (findN L' xn).isSome = true then (0 : Int) else 5) = ec at HGT HGR
      generalize (findN L' xn).isSome = hb5 at HHT HHR
      generalize chn L' xn = C at *
      generalize underL L' xn = U at *
      clear hT3 hR3 HG3 hgf HCH HLP HGG
      go_wp2_with fail
      refine (HGT.out _ (Below.refl _ _)).mono ?_
      rintro e w4 ⟨rfl, hb4⟩
      have HB4 := Lib.hid hb4
      clear hb4
      go_wp2_with fail
      refine (HGR.out _ (HB4.out.trans ((one_new w4 (.cells #[.string ga, .string gb] 71)).mono HB4.out.size))).mono ?_
      rintro e w5 ⟨rfl, hb5⟩
      have hx4 := (hb5.block w4.heap.size (by simp)).trans (World.alloc_heap_new w4 (.cells #[.string ga, .string gb] 71))
      have HB5 := Lib.hid (HB4.out.trans (((one_new w4 _).trans (hb5.mono (by simp))).mono HB4.out.size))
      have HB6 := Lib.hid (HB5.out.trans ((one_new w5 (.cells #[.string ga, .string gb] 71)).mono HB5.out.size))
      have hx6 := ((one_new w5 (.cells #[.string ga, .string gb] 71)).block w4.heap.size (Array.getElem?_eq_some_iff.1 hx4).1).trans hx4
      have m0 : _ = some (Value.string ga) := cell_of_row _ w4.heap.size 0 _ _ _ hx6
      have m1 : _ = some (Value.string gb) := cell_of_row _ w4.heap.size 1 _ _ _ hx6
      have m2 : _ = some (Value.string ga) := new_cellT w5 #[.string ga, .string gb] 71 0
      have m3 : _ = some (Value.string gb) := new_cellT w5 #[.string ga, .string gb] 71 1
      clear hb5 hx4 hx6 HGT HGR
      go_wp2_with fail
      refine (HHT.out _ HB6.out).mono ?_
      rintro e w7 ⟨rfl, hb7⟩
      have HB7 := Lib.hid (HB6.out.trans (hb7.mono HB6.out.size))
      clear hb7 m0 m1 m2 m3
      go_wp2_with fail
      refine (HHR.out _ HB7.out).mono ?_
      rintro e w8 ⟨rfl, hb8⟩
      have HB8 := Lib.hid (HB7.out.trans (hb8.mono HB7.out.size))
      clear hb8
      have hbb : (hb5 != hb5) = false := by simp
      go_wp2_with fail
      refine (HDT.out _ HB8.out).mono ?_
      rintro e w9 ⟨rfl, hb9⟩
      have HB9 := Lib.hid (HB8.out.trans (hb9.mono HB8.out.size))
      clear hb9
      go_wp2_with fail
      refine (HDR.out _ HB9.out).mono ?_
      rintro e w10 ⟨rfl, hb10⟩
      have HB10 := Lib.hid (HB9.out.trans (hb10.mono HB9.out.size))
      clear hb10
      go_wp2_with fail
      refine (HAT.out _ HB10.out).mono ?_
      rintro e w11 ⟨v11, rfl, hown11, hb11⟩
      obtain ⟨A11, c11, rfl, _, _, hat11, hag11⟩ := hown11.slice
      have HA11 := Lib.hid hat11
      have HG11 := Lib.hid hag11
      have HB11 := Lib.hid (HB10.out.trans (hb11.mono HB10.out.size))
      clear hown11 hat11 hag11 hb11
      go_wp2_with fail
      refine (HAR.out _ HB11.out).mono ?_
      rintro e w12 ⟨v12, rfl, hown12, hb12⟩
      obtain ⟨A12, c12, rfl, _, _, hat12, hag12⟩ := hown12.slice
      have HA12 := Lib.hid hat12
      have HG12 := Lib.hid hag12
      have HA112 := Lib.hid (HA11.out.below hb12)
      have HB12 := Lib.hid (HB11.out.trans (hb12.mono HB11.out.size))
      clear hown12 hat12 hag12 hb12
      go_wp2_with fail
      refine (r_texts C A11 A12 c11 c12 w12 (by omega) HA112.out HG11.out HA12.out HG12.out).mono ?_
      rintro e w13 ⟨rfl, hb13⟩
      have HB13 := Lib.hid (HB12.out.trans (hb13.mono HB12.out.size))
      clear hb13
      go_wp2_with fail
      refine (HUT.out _ HB13.out).mono ?_
      rintro e w14 ⟨v14, rfl, hown14, hb14⟩
      obtain ⟨A14, c14, rfl, _, _, hat14, hag14⟩ := hown14.slice
      have HA14 := Lib.hid hat14
      have HG14 := Lib.hid hag14
      have HB14 := Lib.hid (HB13.out.trans (hb14.mono HB13.out.size))
      clear hown14 hat14 hag14 hb14
      go_wp2_with fail
      refine (HUR.out _ HB14.out).mono ?_
      rintro e w15 ⟨v15, rfl, hown15, hb15⟩
      obtain ⟨A15, c15, rfl, _, _, hat15, hag15⟩ := hown15.slice
      have HA15 := Lib.hid hat15
      have HG15 := Lib.hid hag15
      have HA145 := Lib.hid (HA14.out.below hb15)
      have HB15 := Lib.hid (HB14.out.trans (hb15.mono HB14.out.size))
      clear hown15 hat15 hag15 hb15
      go_wp2_with fail
      refine (r_texts U A14 A15 c14 c15 w15 (by omega) HA145.out HG14.out HA15.out HG15.out).mono ?_
      rintro e w16 ⟨rfl, hb16⟩
      have HB16 := Lib.hid (HB15.out.trans (hb16.mono HB15.out.size))
      clear hb16
      go_wp2
      go_roundw
      case rel => exact ⟨k + 1, v', L', by omega, by omega, by go_num, Lib.hid (HS3.out.below HB16.out), HB3.out.trans (HB16.out.mono HB3.out.size)⟩
      case measure => simp [intOf]; omega
    · have HBW := Lib.hid hb
      obtain ⟨⟨D, hT⟩, hR, hg, _⟩ := HST.out
      have hfew := hg.few
      obtain ⟨B, cB, rfl, _, _, hat, hag⟩ := hR.2.slice
      have hrl := hR.lt
      have hul := underL_len L nm
      have k0 := cell_rowT wr _ _ _ hR.1
      have HGG := Lib.hid hg
      have HT := Lib.hid hT
      have HR := Lib.hid hR
      have HRA := Lib.hid hat
      have HRG := Lib.hid hag
      have HTA := Lib.hid (fun W (h : Below wr.heap.size wr W) => t_all _ _ D L W (HT.out.below h) HGG.out.srt (by omega))
      have HUT := Lib.hid (fun W (h : Below wr.heap.size wr W) => t_under _ _ D L W nm (HT.out.below h) HGG.out HNM.out)
      have HUR := Lib.hid (fun W (h : Below wr.heap.size wr W) => r_underT _ _ _ L nm W (HR.out.below h) HGG.out)
      have HHT := Lib.hid (fun W (h : Below wr.heap.size wr W) => t_has _ _ D L nm W (HT.out.below h) HNM.out)
      have HHR := Lib.hid (fun W (h : Below wr.heap.size wr W) => r_hasT _ _ _ L nm W (HR.out.below h) (by omega))
      generalize (findN L nm).isSome = hb5 at HHT HHR
      generalize underL L nm = U at *
      clear hb hT hR hg hat hag
      rcases (show n ≤ k ∨ (k < n ∧ 100 ≤ k) by omega) with h1 | ⟨h1, h2⟩
      all_goals
        go_wp2_with fail
        go_region_held3 (fun W : World => W.cell? ⟨w1.heap.size, 0, none⟩ = some (.slice B L.length cB)) (go_keep)
          (first
            | (go_at_call 45; refine (HTA.out _ (below_drew _ _)).mono ?_; rintro e w2 ⟨v2, rfl, hown, hb2⟩; obtain ⟨A2, c2, rfl, _, _, hat, hag⟩ := hown.slice; have HA2 := Lib.hid hat; have HG2 := Lib.hid hag; have HB2 := Lib.hid ((below_drew _ wr).trans hb2); have e2 := (HB2.out.cell (p := ⟨w1.heap.size, 0, none⟩) hrl).trans k0; have HRA2 := Lib.hid (HRA.out.below HB2.out); clear hown hat hag hb2)
            | (go_at_call 44; refine (r_sameTn L A2 B c2 cB _ (by omega) HA2.out HG2.out HRA2.out HRG.out).mono ?_; rintro e w3 ⟨rfl, hb3⟩; have HB3 := Lib.hid (HB2.out.trans (hb3.mono HB2.out.size)); have e3 := (HB3.out.cell (p := ⟨w1.heap.size, 0, none⟩) hrl).trans k0; clear hb3)
            | (go_at_call 42; refine (HUT.out _ HB3.out).mono ?_; rintro e w4 ⟨v4, rfl, hown, hb4⟩; obtain ⟨A4, c4, rfl, _, _, hat, hag⟩ := hown.slice; have HA4 := Lib.hid hat; have HG4 := Lib.hid hag; have HB4 := Lib.hid (HB3.out.trans (hb4.mono HB3.out.size)); have e4 := (HB4.out.cell (p := ⟨w1.heap.size, 0, none⟩) hrl).trans k0; clear hown hat hag hb4)
            | (go_at_call 43; refine (HUR.out _ HB4.out).mono ?_; rintro e w5 ⟨v5, rfl, hown, hb5'⟩; obtain ⟨A5, c5, rfl, _, _, hat, hag⟩ := hown.slice; have HA5 := Lib.hid hat; have HG5 := Lib.hid hag; have HA45 := Lib.hid (HA4.out.below hb5'); have HB5 := Lib.hid (HB4.out.trans (hb5'.mono HB4.out.size)); have e5 := (HB5.out.cell (p := ⟨w1.heap.size, 0, none⟩) hrl).trans k0; clear hown hat hag hb5')
            | (go_at_call 39; refine (r_texts U A4 A5 c4 c5 _ (by omega) HA45.out HG4.out HA5.out HG5.out).mono ?_; rintro e w6 ⟨rfl, hb6⟩; have HB6 := Lib.hid (HB5.out.trans (hb6.mono HB5.out.size)); have e6 := (HB6.out.cell (p := ⟨w1.heap.size, 0, none⟩) hrl).trans k0; clear hb6)
            | (go_at_call 35; refine (HHT.out _ HB6.out).mono ?_; rintro e w7 ⟨rfl, hb7⟩; have HB7 := Lib.hid (HB6.out.trans (hb7.mono HB6.out.size)); have e7 := (HB7.out.cell (p := ⟨w1.heap.size, 0, none⟩) hrl).trans k0; clear hb7)
            | (go_at_call 36; refine (HHR.out _ HB7.out).mono ?_; rintro e w8 ⟨rfl, hb8⟩; have HB8 := Lib.hid (HB7.out.trans (hb8.mono HB7.out.size)); have e8 := (HB8.out.cell (p := ⟨w1.heap.size, 0, none⟩) hrl).trans k0; have hee : (hb5 == hb5) = true := (by simp); clear hb8)
            | (go_at_call 46; refine (known9 _).mono ?_; rintro e w9 ⟨rfl, hb9⟩; have HB9 := Lib.hid (HB8.out.trans (hb9.mono HB8.out.size)); have e9 := (HB9.out.cell (p := ⟨w1.heap.size, 0, none⟩) hrl).trans k0; clear hb9))
        go_wp2
        go_ret
        exact ⟨rfl, HBW.out.trans (HB9.out.mono HBW.out.size)⟩
end
end Go.Proofs.Ytoeggpoeongnhaa
