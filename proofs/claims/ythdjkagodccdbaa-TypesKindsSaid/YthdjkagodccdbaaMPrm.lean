/-
  The document's Rule: the rule that a text is, or where, and why, it is none; nothing that was there is changed.
  No condition.
-/
import Derived.Test.YthdjkagodccdbaaM29
namespace Go.Proofs.Ythdjkagodccdbaa
open Go.RowKit

set_option maxRecDepth 100000 in
set_option maxHeartbeats 8000000 in
theorem rf_rule (s : ByteArray) (w : World) : Calls Try.prog 7 #[.string s] w fun e w' => RuRes w w' e (ruleR s.data.toList) := by
  have hon := one_new w zeroRu
  have hk0 := heap_alloc_new w zeroRu
  have HLX := Lib.hid (rf_lex s (w.alloc zeroRu))
  obtain ⟨⟨ls, z, e0⟩, hR⟩ : ∃ q, lexR s.data.toList = q := ⟨_, rfl⟩
  rw [hR] at HLX
  have hsome := lexR_some (l := s.data.toList)
  rw [hR] at hsome
  have hrr : ruleR s.data.toList = if e0 ≠ 0 then (noRu, z, e0) else if (ruX ls).2.why = 0 then ((ruX ls).1, 0, 0) else (noRu, (ruX ls).2.pos, (ruX ls).2.why) := by unfold ruleR; rw [hR]
  have HRR := Lib.hid hrr
  have HSM := Lib.hid hsome
  have HON := Lib.hid hon
  have HK0 := Lib.hid hk0
  obtain ⟨RR, hRR⟩ : ∃ RR, RR = ruleR s.data.toList := ⟨_, rfl⟩
  rw [← hRR] at HRR ⊢
  clear hR hrr hsome hon hk0 hRR
  go_enter Try.func7, Try.ntmps7
  go_wp2_with fail
  refine HLX.out.mono ?_
  rintro e w1 ⟨A, c, rfl, hto, hag, hb1⟩
  have hsz1 := hb1.size
  rw [World.size_alloc] at hsz1
  have hk1 := (hb1.block w.heap.size (by simp)).trans HK0.out
  have hB1 := HON.out.trans (hb1.mono (by simp))
  have HB1 := Lib.hid hB1
  clear HLX hb1 hB1
  by_cases he : e0 = 0
  · subst he
    have hne := (HSM.out rfl).1
    obtain ⟨t, rfl⟩ := hto.head hag hne
    have hl4 := (HSM.out rfl).2
    have htl : t < w1.heap.size := by
      obtain ⟨⟨tk, tb, ⟨vk, vf, vn, vt⟩, ta⟩, hx⟩ : ∃ y, ls[0]? = some y := ⟨_, List.getElem?_eq_getElem hne⟩
      exact World.block_lt_of_cell? w1 ⟨t, 0 * 7 + 0, none⟩ (hto.at 0 0 _ _ hx (by omega) rfl)
    have hq : RR = if (ruX ls).2.why = 0 then ((ruX ls).1, 0, 0) else (noRu, (ruX ls).2.pos, (ruX ls).2.why) := by rw [HRR.out]; rfl
    have HQ := Lib.hid hq
    have hY : YSt w ((w1.alloc (.cells #[.slice (some ⟨t, 0, none⟩) ls.length c, .int .i64 0, .int .i64 0, .int .i64 0] 55)).alloc zeroRu) w1.heap.size (w1.heap.size + 1) t c (w1.heap.size + 2) ls ⟨0, 0, 0⟩ noRu (.slice none 0 0) (.slice none 0 0) := by
      have hbb := two_new w1 (.cells #[.slice (some ⟨t, 0, none⟩) ls.length c, .int .i64 0, .int .i64 0, .int .i64 0] 55) zeroRu
      refine ⟨⟨⟨first_of_two w1 _ _, hto.block (fun hk => hbb.block t hk), by omega, hne, hl4⟩, second_of_two w1 _ _, OwnF.nil _ _, LisAt.nil _ _, by omega, by omega, by omega, by omega, by omega, by simp⟩, (hbb.block _ (by omega)).trans hk1, HB1.out.trans (hbb.mono (by omega)), by omega, rfl, rfl⟩
    have HY := Lib.hid hY
    clear hto hag hk1 HB1 hne hl4 HSM HRR hq hY
    have HT1 := Lib.hid (rp_takeL HY.out.X.rd ⟨#[100, 101, 110, 121]⟩ wDeny rfl)
    obtain ⟨s0, hs0⟩ : ∃ s0 : Rst, s0 = ⟨0, 0, 0⟩ := ⟨_, rfl⟩
    rw [← hs0] at HT1 HY
    have HS0 := Lib.hid hs0
    obtain ⟨q1, hq1⟩ : ∃ q, isR ls s0 wDeny = q := ⟨_, rfl⟩
    rw [hq1] at HT1
    have HQ1 := Lib.hid hq1
    obtain ⟨K, hK⟩ : ∃ K, K = kiK ls s0 := ⟨_, rfl⟩
    obtain ⟨S1, hS1⟩ : ∃ S1, S1 = kiS ls s0 := ⟨_, rfl⟩
    have HK := Lib.hid hK
    have HS1 := Lib.hid hS1
    clear hs0 hq1 hK hS1
    go_wp2_with fail
    refine HT1.out.mono ?_
    rintro e w2 ⟨rfl, hr2, ho2⟩
    have Y2 := Lib.hid (HY.out.call hr2 ho2)
    clear hr2 ho2 HT1 HY
    go_upto_if 26 with fail
    generalize w1.heap.size = g at *
    go_cut [27] from 27 (fun _ wx => YSt w wx g (g + 1) t c (g + 2) ls S1 { noRu with k := K } (.slice none 0 0) (.slice none 0 0))
    case first =>
      cases q1 with
      | true =>
        have kk := ki1 HQ1.out
        have hy3 := Y2.out.set0 1
        rw [← kk.2, ← HS1.out] at hy3
        have Y3 := Lib.hid hy3
        have HKK : Hid (K = 1) := Lib.hid (by rw [HK.out, kk.1])
        obtain ⟨d0, _, _, _, _, _, _⟩ := Y2.out.X.bx.cell
        have f0 := Y2.out.X.bx.frozen 0
        clear kk hy3
        go_wp2_with fail
        go_meet
        case rel =>
          rw [HKK.out]
          exact Y3.out
      | false =>
        rw [takeR_no HQ1.out] at Y2
        have HT2 := Lib.hid (rp_takeL Y2.out.X.rd ⟨#[118, 105, 101, 119]⟩ wView rfl)
        obtain ⟨q2, hq2⟩ : ∃ q, isR ls s0 wView = q := ⟨_, rfl⟩
        rw [hq2] at HT2
        have HQ2 := Lib.hid hq2
        clear hq2
        go_wp2_with fail
        refine HT2.out.mono ?_
        rintro e w3 ⟨rfl, hr3, ho3⟩
        have Y3 := Lib.hid (Y2.out.call hr3 ho3)
        clear hr3 ho3 HT2 Y2
        cases q2 with
        | true =>
          have kk := ki2 HQ1.out HQ2.out
          have hy4 := Y3.out.set0 2
          rw [← kk.2, ← HS1.out] at hy4
          have Y4 := Lib.hid hy4
          have HKK : Hid (K = 2) := Lib.hid (by rw [HK.out, kk.1])
          obtain ⟨d0, _, _, _, _, _, _⟩ := Y3.out.X.bx.cell
          have f0 := Y3.out.X.bx.frozen 0
          clear kk hy4
          go_wp2_with fail
          go_meet
          case rel =>
            rw [HKK.out]
            exact Y4.out
        | false =>
          rw [takeR_no HQ2.out] at Y3
          have HT3 := Lib.hid (rp_takeL Y3.out.X.rd ⟨#[113, 117, 111, 116, 97]⟩ wQuota rfl)
          obtain ⟨q3, hq3⟩ : ∃ q, isR ls s0 wQuota = q := ⟨_, rfl⟩
          rw [hq3] at HT3
          have HQ3 := Lib.hid hq3
          clear hq3
          go_wp2_with fail
          refine HT3.out.mono ?_
          rintro e w4 ⟨rfl, hr4, ho4⟩
          have Y4 := Lib.hid (Y3.out.call hr4 ho4)
          clear hr4 ho4 HT3 Y3
          cases q3 with
          | true =>
            have kk := ki3 HQ1.out HQ2.out HQ3.out
            have hy5 := Y4.out.set0 3
            rw [← kk.2, ← HS1.out] at hy5
            have Y5 := Lib.hid hy5
            have HKK : Hid (K = 3) := Lib.hid (by rw [HK.out, kk.1])
            obtain ⟨d0, _, _, _, _, _, _⟩ := Y4.out.X.bx.cell
            have f0 := Y4.out.X.bx.frozen 0
            clear kk hy5
            go_wp2_with fail
            go_meet
            case rel =>
              rw [HKK.out]
              exact Y5.out
          | false =>
            rw [takeR_no HQ3.out] at Y4
            have kk := ki0 HQ1.out HQ2.out HQ3.out
            obtain ⟨⟨yk, yb, ⟨zk, zf, zn, zt⟩, ya⟩, hX⟩ : ∃ y, nowR ls s0 = y := ⟨_, rfl⟩
            rw [hX, ← HS1.out, ← HK.out] at kk
            have KK := Lib.hid kk
            have r3 := field_at3 yk yb zk zf zn zt ya
            have HNW := Lib.hid (rp_now' Y4.out.X.rd hX)
            clear kk hX
            go_wp2_with fail
            refine HNW.out.mono ?_
            rintro e w5 ⟨rfl, hb5⟩
            have Y5 := Lib.hid (Y4.out.below hb5)
            have HF := Lib.hid (rp_fail Y5.out.X.rd 7 ya)
            clear hb5 HNW
            go_wp2_with fail
            refine HF.out.mono ?_
            rintro e w6 ⟨rfl, hr6, ho6⟩
            have Y6 := Lib.hid (Y5.out.call hr6 ho6)
            clear hr6 ho6 HF
            go_wp2_with fail
            go_meet
            case rel =>
              rw [KK.out.1, KK.out.2]
              exact Y6.out
    case rest =>
      have HY2 := Lib.hid hcut
      clear hcut Y2
      have hru : ruX ls = (let s2 := mustR ls (nmS ls S1) wOpen; let h := hdR ls s2 K; let s3 := mustR ls h.s wShut; let s4 := if K = 3 then limS ls s3 else s3; let b := boF ls 400 0 [] (mustR ls s4 wIf); (⟨K, nmV ls S1, h.h, h.ag, h.ofv, if K = 3 then limV ls s3 else 0, b.1⟩, if (nowR ls b.2).k ≠ 4 then failR b.2 7 (nowR ls b.2).a else b.2)) := by rw [HK.out, HS1.out, HS0.out]; rfl
      obtain ⟨nm, hnm⟩ : ∃ nm, nmV ls S1 = nm := ⟨_, rfl⟩
      obtain ⟨sn, hsn⟩ : ∃ sn, nmS ls S1 = sn := ⟨_, rfl⟩
      obtain ⟨s2, hs2⟩ : ∃ s2, mustR ls sn wOpen = s2 := ⟨_, rfl⟩
      obtain ⟨hh, hhh⟩ : ∃ hh, hdR ls s2 K = hh := ⟨_, rfl⟩
      obtain ⟨s3, hs3⟩ : ∃ s3, mustR ls hh.s wShut = s3 := ⟨_, rfl⟩
      obtain ⟨s4, hs4⟩ : ∃ s4, (if K = 3 then limS ls s3 else s3) = s4 := ⟨_, rfl⟩
      obtain ⟨lim, hlim⟩ : ∃ lim, (if K = 3 then limV ls s3 else 0) = lim := ⟨_, rfl⟩
      obtain ⟨s5, hs5⟩ : ∃ s5, mustR ls s4 wIf = s5 := ⟨_, rfl⟩
      obtain ⟨⟨lb, s6⟩, hbo⟩ : ∃ b, boF ls 400 0 [] s5 = b := ⟨_, rfl⟩
      obtain ⟨sE, hsE⟩ : ∃ sE, (if (nowR ls s6).k ≠ 4 then failR s6 7 (nowR ls s6).a else s6) = sE := ⟨_, rfl⟩
      simp only [hnm, hsn, hs2, hhh, hs3, hs4, hlim, hs5, hbo, hsE] at hru
      rw [hru] at HQ
      have HNA := rp_name HY2.out.X.rd
      rw [hnm, hsn] at HNA
      have HNA := Lib.hid HNA
      have E2 := Lib.hid hs2
      have EH := Lib.hid hhh
      have E3 := Lib.hid hs3
      have E4 := Lib.hid hs4
      have EL := Lib.hid hlim
      have E5 := Lib.hid hs5
      have EB := Lib.hid hbo
      have EE := Lib.hid hsE
      clear hru hnm hsn hs2 hhh hs3 hs4 hlim hs5 hbo hsE
      go_wp2_with fail
      refine HNA.out.mono ?_
      rintro e w3 ⟨rfl, hr3, ho3⟩
      have y3 := HY2.out.call hr3 ho3
      have Y4 := Lib.hid (y3.set1 nm)
      obtain ⟨_, d1, _, _, _, _, _⟩ := y3.X.bx.cell
      have f1 := y3.X.bx.frozen 1
      have HMU := rp_mustL Y4.out.X.rd ⟨#[40]⟩ wOpen rfl
      rw [E2.out] at HMU
      have HMU := Lib.hid HMU
      clear hr3 ho3 HNA y3 HY2
      go_wp2_with fail
      refine HMU.out.mono ?_
      rintro e w5 ⟨rfl, hr5, ho5⟩
      have Y5 := Lib.hid (Y4.out.call hr5 ho5)
      have HHD := rp_head Y5.out.X rfl rfl rfl
      simp only [EH.out] at HHD
      have HHD := Lib.hid HHD
      clear hr5 ho5 HMU Y4 d1 f1
      go_wp2_with fail
      refine HHD.out.mono ?_
      rintro e w6 ⟨rfl, ⟨hv, hx6⟩, ho6⟩
      have Y6 := Lib.hid (Y5.out.go hx6 ho6)
      have HMU := rp_mustL Y6.out.X.rd ⟨#[41]⟩ wShut rfl
      rw [E3.out] at HMU
      have HMU := Lib.hid HMU
      clear hx6 ho6 HHD Y5
      go_wp2_with fail
      refine HMU.out.mono ?_
      rintro e w7 ⟨rfl, hr7, ho7⟩
      have Y7 := Lib.hid (Y6.out.call hr7 ho7)
      obtain ⟨d0, _, _, _, _, _, _⟩ := Y7.out.X.bx.cell
      clear hr7 ho7 HMU Y6
      go_upto_if 50 with fail
      have y7 : YSt w w7 g (g + 1) t c (g + 2) ls s3 ⟨K, nm, hh.h, hh.ag, hh.ofv, 0, []⟩ hv (.slice none 0 0) := Y7.out
      have Y7 := Lib.hid y7
      clear y7
      go_cut [51] from 50 (fun _ wx => YSt w wx g (g + 1) t c (g + 2) ls s4 ⟨K, nm, hh.h, hh.ag, hh.ofv, lim, []⟩ hv (.slice none 0 0))
      case first =>
        by_cases h3 : K = 3
        · have b3 : (K == 3) = true := by simpa using h3
          have e4 := E4.out
          have el := EL.out
          rw [if_pos h3] at e4 el
          obtain ⟨sL, hsL⟩ : ∃ sL, mustR ls s3 wLimit = sL := ⟨_, rfl⟩
          obtain ⟨⟨yk, yb, ⟨zk, zf, zn, zt⟩, ya⟩, hX⟩ : ∃ y, nowR ls sL = y := ⟨_, rfl⟩
          have hs4 : s4 = stepR ls (if sL.why = 0 ∧ (yk ≠ 2 ∨ zk ≠ 2) then failR sL 7 ya else sL) := by rw [← e4]; unfold limS; simp only [hsL, hX]
          have hlm : lim = zn := by rw [← el]; unfold limV; rw [hsL, hX]
          have HLM := Lib.hid hlm
          have HXL := Lib.hid hX
          have HML := rp_mustL Y7.out.X.rd ⟨#[108, 105, 109, 105, 116]⟩ wLimit rfl
          rw [hsL] at HML
          have HML := Lib.hid HML
          have r0 := field_at0 yk yb zk zf zn zt ya
          have r2 := field_at2 yk yb zk zf zn zt ya
          have r3 := field_at3 yk yb zk zf zn zt ya
          have u0 := field_v0 zk zf zn zt
          have u2 := field_v2 zk zf zn zt
          clear h3 e4 el hsL hX hlm
          go_wp2_with fail
          refine HML.out.mono ?_
          rintro e w8 ⟨rfl, hr8, ho8⟩
          have Y8 := Lib.hid (Y7.out.call hr8 ho8)
          have HNN := Lib.hid (fun W (hW : Below w8.heap.size w8 W) => rp_now' (Y8.out.below hW).X.rd HXL.out)
          obtain ⟨_, _, c2, _⟩ := Y8.out.X.rd.cell
          clear hr8 ho8 HML Y7
          by_cases hy : sL.why = 0
          · rw [hy] at c2
            by_cases hk : yk = 2
            · have bk : (yk != 2) = false := by simpa using hk
              by_cases hz : zk = 2
              · have bz : (zk != 2) = false := by simpa using hz
                rw [if_neg (by rintro ⟨_, h | h⟩; exact h hk; exact h hz)] at hs4
                have HS4 := Lib.hid hs4
                clear hs4 hy hk hz
                go_wp2_with (go_at_call 20; first | (refine (HNN.out _ (Below.refl _ _)).mono ?_; rintro e w9 ⟨rfl, hb9⟩) | (refine (HNN.out _ hb9).mono ?_; rintro e w10 ⟨rfl, hb10⟩; have Y10 := Lib.hid (Y8.out.below (hb9.trans (hb10.mono hb9.size))); clear hb10 HNN))
                have HNW := Lib.hid (rp_now' Y10.out.X.rd HXL.out)
                obtain ⟨_, _, _, _, _, d5, _⟩ := Y10.out.X.bx.cell
                go_wp2_with fail
                refine HNW.out.mono ?_
                rintro e w12 ⟨rfl, hb12⟩
                have y12 := Y10.out.below hb12
                have Y13 := Lib.hid (y12.set5 zn)
                obtain ⟨_, _, _, _, _, d5, _⟩ := y12.X.bx.cell
                have f5 := y12.X.bx.frozen 5
                have HSP := Lib.hid (rp_step Y13.out.X.rd)
                clear hb12 HNW y12
                go_wp2_with fail
                refine HSP.out.mono ?_
                rintro e w14 ⟨rfl, hr14, ho14⟩
                have Y14 := Lib.hid (Y13.out.call hr14 ho14)
                clear hr14 ho14 HSP Y13
                go_wp2_with fail
                go_meet
                case rel =>
                  rw [HLM.out, HS4.out]
                  exact Y14.out
              · have bz : (zk != 2) = true := by simpa using hz
                rw [if_pos ⟨hy, .inr hz⟩] at hs4
                have HS4 := Lib.hid hs4
                clear hs4 hy hk hz
                go_wp2_with (go_at_call 20; first | (refine (HNN.out _ (Below.refl _ _)).mono ?_; rintro e w9 ⟨rfl, hb9⟩) | (refine (HNN.out _ hb9).mono ?_; rintro e w10 ⟨rfl, hb10⟩; have Y10 := Lib.hid (Y8.out.below (hb9.trans (hb10.mono hb9.size))); clear hb10 HNN))
                have HNF := Lib.hid (rp_now' Y10.out.X.rd HXL.out)
                go_wp2_with fail
                refine HNF.out.mono ?_
                rintro e w11 ⟨rfl, hb11⟩
                have Y11 := Lib.hid (Y10.out.below hb11)
                have HF := Lib.hid (rp_fail Y11.out.X.rd 7 ya)
                clear hb11 HNF
                go_wp2_with fail
                refine HF.out.mono ?_
                rintro e w15 ⟨rfl, hr15, ho15⟩
                have Y15 := Lib.hid (Y11.out.call hr15 ho15)
                clear hr15 ho15 HF Y11
                have HNW := Lib.hid (rp_now' Y15.out.X.rd ((now_fail ls sL 7 ya).trans HXL.out))
                obtain ⟨_, _, _, _, _, d5, _⟩ := Y15.out.X.bx.cell
                go_wp2_with fail
                refine HNW.out.mono ?_
                rintro e w12 ⟨rfl, hb12⟩
                have y12 := Y15.out.below hb12
                have Y13 := Lib.hid (y12.set5 zn)
                obtain ⟨_, _, _, _, _, d5, _⟩ := y12.X.bx.cell
                have f5 := y12.X.bx.frozen 5
                have HSP := Lib.hid (rp_step Y13.out.X.rd)
                clear hb12 HNW y12
                go_wp2_with fail
                refine HSP.out.mono ?_
                rintro e w14 ⟨rfl, hr14, ho14⟩
                have Y14 := Lib.hid (Y13.out.call hr14 ho14)
                clear hr14 ho14 HSP Y13
                go_wp2_with fail
                go_meet
                case rel =>
                  rw [HLM.out, HS4.out]
                  exact Y14.out
            · have bk : (yk != 2) = true := by simpa using hk
              rw [if_pos ⟨hy, .inl hk⟩] at hs4
              have HS4 := Lib.hid hs4
              clear hs4 hy hk
              go_wp2_with (go_at_call 20; refine (HNN.out _ (Below.refl _ _)).mono ?_; rintro e w10 ⟨rfl, hb10⟩; have Y10 := Lib.hid (Y8.out.below hb10); clear hb10 HNN)
              have HNF := Lib.hid (rp_now' Y10.out.X.rd HXL.out)
              go_wp2_with fail
              refine HNF.out.mono ?_
              rintro e w11 ⟨rfl, hb11⟩
              have Y11 := Lib.hid (Y10.out.below hb11)
              have HF := Lib.hid (rp_fail Y11.out.X.rd 7 ya)
              clear hb11 HNF
              go_wp2_with fail
              refine HF.out.mono ?_
              rintro e w15 ⟨rfl, hr15, ho15⟩
              have Y15 := Lib.hid (Y11.out.call hr15 ho15)
              clear hr15 ho15 HF Y11
              have HNW := Lib.hid (rp_now' Y15.out.X.rd ((now_fail ls sL 7 ya).trans HXL.out))
              obtain ⟨_, _, _, _, _, d5, _⟩ := Y15.out.X.bx.cell
              go_wp2_with fail
              refine HNW.out.mono ?_
              rintro e w12 ⟨rfl, hb12⟩
              have y12 := Y15.out.below hb12
              have Y13 := Lib.hid (y12.set5 zn)
              obtain ⟨_, _, _, _, _, d5, _⟩ := y12.X.bx.cell
              have f5 := y12.X.bx.frozen 5
              have HSP := Lib.hid (rp_step Y13.out.X.rd)
              clear hb12 HNW y12
              go_wp2_with fail
              refine HSP.out.mono ?_
              rintro e w14 ⟨rfl, hr14, ho14⟩
              have Y14 := Lib.hid (Y13.out.call hr14 ho14)
              clear hr14 ho14 HSP Y13
              go_wp2_with fail
              go_meet
              case rel =>
                rw [HLM.out, HS4.out]
                exact Y14.out
          · have by' : (sL.why == 0) = false := by simpa using hy
            rw [if_neg (fun h => hy h.1)] at hs4
            have HS4 := Lib.hid hs4
            clear hs4 hy HNN
            have HNW := Lib.hid (rp_now' Y8.out.X.rd HXL.out)
            obtain ⟨_, _, _, _, _, d5, _⟩ := Y8.out.X.bx.cell
            go_wp2_with fail
            refine HNW.out.mono ?_
            rintro e w12 ⟨rfl, hb12⟩
            have y12 := Y8.out.below hb12
            have Y13 := Lib.hid (y12.set5 zn)
            obtain ⟨_, _, _, _, _, d5, _⟩ := y12.X.bx.cell
            have f5 := y12.X.bx.frozen 5
            have HSP := Lib.hid (rp_step Y13.out.X.rd)
            clear hb12 HNW y12
            go_wp2_with fail
            refine HSP.out.mono ?_
            rintro e w14 ⟨rfl, hr14, ho14⟩
            have Y14 := Lib.hid (Y13.out.call hr14 ho14)
            clear hr14 ho14 HSP Y13
            go_wp2_with fail
            go_meet
            case rel =>
              rw [HLM.out, HS4.out]
              exact Y14.out
        · have b3 : (K == 3) = false := by simpa using h3
          have e4 := E4.out
          have el := EL.out
          rw [if_neg h3] at e4 el
          have H4 := Lib.hid e4
          have HL := Lib.hid el
          clear h3 e4 el
          go_wp2_with fail
          go_meet
          case rel =>
            rw [← H4.out, ← HL.out]
            exact Y7.out
      case rest =>
        have y2 := Lib.hid hcut
        clear hcut Y7
        have HMI := rp_mustL y2.out.X.rd ⟨#[105, 102]⟩ wIf rfl
        rw [E5.out] at HMI
        have HMI := Lib.hid HMI
        go_wp2_with fail
        refine HMI.out.mono ?_
        rintro e w20 ⟨rfl, hr20, ho20⟩
        have Y20 := Lib.hid (y2.out.call hr20 ho20)
        have HBO := rp_body Y20.out.X rfl
        rw [EB.out] at HBO
        have HBO := Lib.hid HBO
        clear hr20 ho20 HMI y2
        go_wp2_with fail
        refine HBO.out.mono ?_
        rintro e w21 ⟨rfl, ⟨bv, hx21⟩, ho21⟩
        have Y21 := Lib.hid (Y20.out.go hx21 ho21)
        obtain ⟨⟨yk, yb, ⟨zk, zf, zn, zt⟩, ya⟩, hX⟩ : ∃ y, nowR ls s6 = y := ⟨_, rfl⟩
        have HXL := Lib.hid hX
        have r0 := field_at0 yk yb zk zf zn zt ya
        have r3 := field_at3 yk yb zk zf zn zt ya
        have HNW := Lib.hid (rp_now' Y21.out.X.rd hX)
        have ee := EE.out
        rw [hX] at ee
        simp only at ee
        clear hx21 ho21 HBO Y20 hX
        go_wp2_with fail
        refine HNW.out.mono ?_
        rintro e w22 ⟨rfl, hb22⟩
        have Y22 := Lib.hid (Y21.out.below hb22)
        clear hb22 HNW Y21
        by_cases h4 : yk = 4
        · have b4 : (yk != 4) = false := by simpa using h4
          rw [if_neg (fun h => h h4)] at ee
          have YE := Y22
          rw [ee] at YE
          clear h4 ee
          have hqs : RR = if sE.why = 0 then (⟨K, nm, hh.h, hh.ag, hh.ofv, lim, lb⟩, 0, 0) else (noRu, sE.pos, sE.why) := HQ.out
          have HQS := Lib.hid hqs
          obtain ⟨_, _, c2, c3⟩ := YE.out.X.rd.cell
          obtain ⟨z0, z1, z2, z3, z4, z5, z6, zf'⟩ := box7r_of YE.out.b0
          have g0 := zf' 0
          have g1 := zf' 1
          have g2 := zf' 2
          have g3 := zf' 3
          have g4 := zf' 4
          have g5 := zf' 5
          have g6 := zf' 6
          clear zf' hqs
          by_cases hw : sE.why = 0
          · have bw : (sE.why != 0) = false := by simpa using hw
            have h1 := HQS.out
            rw [if_pos hw] at h1
            have H1 := Lib.hid h1
            obtain ⟨d0, d1, d2, d3, d4, d5, d6⟩ := YE.out.X.bx.cell
            have HE := Lib.hid (YE.out.res (.int .i64 K) (.string nm) hv (.int .i64 hh.ag) (.string hh.ofv) (.int .i64 lim) bv)
            obtain ⟨hA, hc, hhv⟩ := YE.out.X.hd.shape
            obtain ⟨qs, hqq, hql, hqr⟩ := YE.out.X.bd
            have hql : qs.length = lb.length := hql
            obtain ⟨bA, bc, hbv⟩ := hqq.shape
            rw [hql] at hbv
            rw [hhv] at HE d2
            rw [hbv] at HE d6
            clear hw h1 hqq hql hqr hhv hbv
            go_wp2
            exact bodyPost_ret (v := .tuple #[.agg #[.int .i64 K, .string nm, .slice hA hh.h.length hc, .int .i64 hh.ag, .string hh.ofv, .int .i64 lim, .slice bA lb.length bc], .int .i64 0, .int .i64 0]) (by simp [results, Try.results7, go_sem, z0, z1, z2, z3, z4, z5, z6]) rfl
              ⟨.slice hA hh.h.length hc, .slice bA lb.length bc, by rw [H1.out], by rw [H1.out]; exact HE.out.1, by rw [H1.out]; exact HE.out.2.1, HE.out.2.2⟩
          · have bw : (sE.why != 0) = true := by simpa using hw
            have h1 := HQS.out
            rw [if_neg hw] at h1
            have H1 := Lib.hid h1
            have HE := Lib.hid (YE.out.res (.int .i64 0) (.string ⟨#[]⟩) (.slice none 0 0) (.int .i64 0) (.string ⟨#[]⟩) (.int .i64 0) (.slice none 0 0))
            clear hw h1
            go_wp2
            go_region
            all_goals
              go_wp2
              exact bodyPost_ret (v := .tuple #[.agg #[.int .i64 0, .string ⟨#[]⟩, .slice none 0 0, .int .i64 0, .string ⟨#[]⟩, .int .i64 0, .slice none 0 0], .int .i64 sE.pos, .int .i64 sE.why]) (by simp [results, Try.results7, go_sem, z0, z1, z2, z3, z4, z5, z6]) rfl
                ⟨.slice none 0 0, .slice none 0 0, by rw [H1.out]; rfl, by rw [H1.out]; exact OwnF.nil _ _, by rw [H1.out]; exact LisAt.nil _ _, HE.out.2.2.drew⟩
        · have b4 : (yk != 4) = true := by simpa using h4
          rw [if_pos h4] at ee
          have HN2 := Lib.hid (rp_now' Y22.out.X.rd HXL.out)
          clear h4
          go_wp2_with fail
          refine HN2.out.mono ?_
          rintro e w23 ⟨rfl, hb23⟩
          have Y23 := Lib.hid (Y22.out.below hb23)
          have HF := rp_fail Y23.out.X.rd 7 ya
          rw [ee] at HF
          have HF := Lib.hid HF
          clear hb23 HN2 Y22 ee
          go_wp2_with fail
          refine HF.out.mono ?_
          rintro e w24 ⟨rfl, hr24, ho24⟩
          have YE := Lib.hid (Y23.out.call hr24 ho24)
          clear hr24 ho24 HF Y23
          have hqs : RR = if sE.why = 0 then (⟨K, nm, hh.h, hh.ag, hh.ofv, lim, lb⟩, 0, 0) else (noRu, sE.pos, sE.why) := HQ.out
          have HQS := Lib.hid hqs
          obtain ⟨_, _, c2, c3⟩ := YE.out.X.rd.cell
          obtain ⟨z0, z1, z2, z3, z4, z5, z6, zf'⟩ := box7r_of YE.out.b0
          have g0 := zf' 0
          have g1 := zf' 1
          have g2 := zf' 2
          have g3 := zf' 3
          have g4 := zf' 4
          have g5 := zf' 5
          have g6 := zf' 6
          clear zf' hqs
          by_cases hw : sE.why = 0
          · have bw : (sE.why != 0) = false := by simpa using hw
            have h1 := HQS.out
            rw [if_pos hw] at h1
            have H1 := Lib.hid h1
            obtain ⟨d0, d1, d2, d3, d4, d5, d6⟩ := YE.out.X.bx.cell
            have HE := Lib.hid (YE.out.res (.int .i64 K) (.string nm) hv (.int .i64 hh.ag) (.string hh.ofv) (.int .i64 lim) bv)
            obtain ⟨hA, hc, hhv⟩ := YE.out.X.hd.shape
            obtain ⟨qs, hqq, hql, hqr⟩ := YE.out.X.bd
            have hql : qs.length = lb.length := hql
            obtain ⟨bA, bc, hbv⟩ := hqq.shape
            rw [hql] at hbv
            rw [hhv] at HE d2
            rw [hbv] at HE d6
            clear hw h1 hqq hql hqr hhv hbv
            go_wp2
            exact bodyPost_ret (v := .tuple #[.agg #[.int .i64 K, .string nm, .slice hA hh.h.length hc, .int .i64 hh.ag, .string hh.ofv, .int .i64 lim, .slice bA lb.length bc], .int .i64 0, .int .i64 0]) (by simp [results, Try.results7, go_sem, z0, z1, z2, z3, z4, z5, z6]) rfl
              ⟨.slice hA hh.h.length hc, .slice bA lb.length bc, by rw [H1.out], by rw [H1.out]; exact HE.out.1, by rw [H1.out]; exact HE.out.2.1, HE.out.2.2⟩
          · have bw : (sE.why != 0) = true := by simpa using hw
            have h1 := HQS.out
            rw [if_neg hw] at h1
            have H1 := Lib.hid h1
            have HE := Lib.hid (YE.out.res (.int .i64 0) (.string ⟨#[]⟩) (.slice none 0 0) (.int .i64 0) (.string ⟨#[]⟩) (.int .i64 0) (.slice none 0 0))
            clear hw h1
            go_wp2
            go_region
            all_goals
              go_wp2
              exact bodyPost_ret (v := .tuple #[.agg #[.int .i64 0, .string ⟨#[]⟩, .slice none 0 0, .int .i64 0, .string ⟨#[]⟩, .int .i64 0, .slice none 0 0], .int .i64 sE.pos, .int .i64 sE.why]) (by simp [results, Try.results7, go_sem, z0, z1, z2, z3, z4, z5, z6]) rfl
                ⟨.slice none 0 0, .slice none 0 0, by rw [H1.out]; rfl, by rw [H1.out]; exact OwnF.nil _ _, by rw [H1.out]; exact LisAt.nil _ _, HE.out.2.2.drew⟩
  · have hq : RR = (noRu, z, e0) := by rw [HRR.out, if_pos he]
    have HQ := Lib.hid hq
    have he' : (e0 != 0) = true := by simpa using he
    obtain ⟨d0, d1, d2, d3, d4, d5, d6, df⟩ := box7r_of hk1
    have f0 := df 0
    have f1 := df 1
    have f2 := df 2
    have f3 := df 3
    have f4 := df 4
    have f5 := df 5
    have f6 := df 6
    clear HSM hq hk1 HRR he hto hag df
    go_wp2
    exact bodyPost_ret (v := .tuple #[.agg #[.int .i64 0, .string ⟨#[]⟩, .slice none 0 0, .int .i64 0, .string ⟨#[]⟩, .int .i64 0, .slice none 0 0], .int .i64 z, .int .i64 e0]) (by simp [results, Try.results7, go_sem, d0, d1, d2, d3, d4, d5, d6]) rfl
      ⟨.slice none 0 0, .slice none 0 0, by rw [HQ.out]; rfl, by rw [HQ.out]; exact OwnF.nil _ _, by rw [HQ.out]; exact LisAt.nil _ _, by repeat (first | (with_reducible exact HB1.out) | (with_reducible refine bset ?_))⟩
end Go.Proofs.Ythdjkagodccdbaa
