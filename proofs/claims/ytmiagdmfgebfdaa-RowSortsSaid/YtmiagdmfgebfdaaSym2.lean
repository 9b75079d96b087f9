/-
  symMergeCmpFunc at []int: two ordered runs beside each other become one.
  At every row of fewer than 2^40 places.
-/
import Derived.Test.YtmiagdmfgebfdaaSym1
namespace Go.Proofs.Ytmiagdmfgebfdaa
open Go.RowKit

/-- What the merge does to every pair of runs of at most so many places. -/
def MrgOk (g n c : Nat) (lt : Nat → Nat → Bool) (q : Addr) (w0 : World) (N : Nat) : Prop := ∀ (a m b : Nat) (f : Nat → Nat) (w : World), b - a ≤ N → a < m → m < b → b ≤ n → (∀ p, p < n → f p < n) → Srt (ltp lt) f a m → Srt (ltp lt) f m b → LR f a m b → PAt w g n f → Below g w0 w →
    Calls Try.prog 82 #[.slice (some ⟨g, 0, none⟩) n c, .int .i64 a, .int .i64 m, .int .i64 b, .func (.func 31) #[] #[.pointer (some q)]] w fun e w' => e = .returned (.tuple #[]) ∧ ∃ f', MrgI (ltp lt) f f' a b ∧ PAt w' g n f' ∧ Below g w0 w'
theorem Within.lt {f f' : Nat → Nat} {a b n : Nat} (h : Within f f' a b) (ho : ∀ p, p < a ∨ b ≤ p → f' p = f p) (hb : b ≤ n) (hv : ∀ p, p < n → f p < n) : ∀ p, p < n → f' p < n := by
  intro p hp
  by_cases hc : a ≤ p ∧ p < b
  · obtain ⟨k, _, k1, e⟩ := h p hc.1 hc.2
    rw [e]
    exact hv k (by omega)
  · rw [ho p (by omega)]
    exact hv p hp

set_option maxRecDepth 100000 in
set_option maxHeartbeats 16000000 in
theorem p_merge3 (g n c a m b N : Nat) (lt : Nat → Nat → Bool) (f : Nat → Nat) (q : Addr) (w0 w : World) (ht : ∀ x y z, ltp lt x y → ltp lt y z → ltp lt x z) (hc : CmpIs g n lt q w0) (hIH : MrgOk g n c lt q w0 N) (hN : b - a ≤ N + 1) (ham : a + 1 < m) (hmb : m + 1 < b) (hbn : b ≤ n) (hn : n < 1099511627776) (hv : ∀ p, p < n → f p < n) (hl : Srt (ltp lt) f a m) (hr : Srt (ltp lt) f m b) (hlr : LR f a m b) (h : PAt w g n f) (hb : Below g w0 w) :
    Calls Try.prog 82 #[.slice (some ⟨g, 0, none⟩) n c, .int .i64 a, .int .i64 m, .int .i64 b, .func (.func 31) #[] #[.pointer (some q)]] w fun e w' => e = .returned (.tuple #[]) ∧ ∃ f', MrgI (ltp lt) f f' a b ∧ PAt w' g n f' ∧ Below g w0 w' := by
  have H := Lib.hid h
  have HC := Lib.hid hc
  have HB0 := Lib.hid hb
  have HV := Lib.hid hv
  have HIH := Lib.hid hIH
  have hm1 : ((m : Int) - (a : Int) == 1) = false := by simp; omega
  have hm2 : ((b : Int) - (m : Int) == 1) = false := by simp; omega
  obtain ⟨mid, hmid, hmdef⟩ : ∃ mid : Nat, ((a : Int) + (b : Int)) / 2 = (mid : Int) ∧ mid = (a + b) / 2 := ⟨(a + b) / 2, by omega, rfl⟩
  obtain ⟨nn, hnn, hnd⟩ : ∃ nn : Nat, (mid : Int) + (m : Int) = (nn : Int) ∧ mid + m = nn := ⟨mid + m, by omega, rfl⟩
  obtain ⟨pp, hpp, hpd⟩ : ∃ pp : Nat, (nn : Int) - 1 = (pp : Int) ∧ pp + 1 = nn := ⟨nn - 1, by omega, by omega⟩
  have RDY := Lib.hid (fun lo hi s h0 h1 h2 h3 h4 => mid_ready (lo := lo) (hi := hi) (s := s) (mid := mid) ht (show a < m by omega) (show m < b by omega) hmdef hl hr hlr h0 h1 h2 h3 h4)
  rw [hnd] at RDY
  have HMD := Lib.hid hmid
  have HNN := Lib.hid hnn
  have HPP := Lib.hid hpp
  have hmd1 : 2 * mid ≤ a + b := by omega
  have hmd2 : a + b ≤ 2 * mid + 1 := by omega
  have hnd1 : mid + m ≤ nn := by omega
  have hnd2 : nn ≤ mid + m := by omega
  have hpd1 : pp + 1 ≤ nn := by omega
  have hpd2 : nn ≤ pp + 1 := by omega
  clear h hc hb hv hIH hl hr hlr ht hmid hnn hpp hmdef hnd hpd
  go_enter Try.func82, Try.ntmps82
  go_upto_region 27 with (fail)
  rw [HMD.out, HNN.out]
  rcases Nat.lt_or_ge mid m with hcs | hcs
  · obtain ⟨lo, hlo1, hlo2⟩ : ∃ lo : Nat, (nn : Int) - (b : Int) = (lo : Int) ∧ lo + b = nn := ⟨nn - b, by omega, by omega⟩
    have HLO1 := Lib.hid hlo1
    have HRD := Lib.hid (fun s h1 h2 h3 h4 => RDY.out lo mid s (.inr ⟨hcs, by omega, rfl⟩) h1 h2 h3 h4)
    have hlo : lo ≤ mid := by omega
    have hx1 : ∀ s, lo ≤ s → s < mid → m ≤ pp - s ∧ pp - s < b ∧ s ≤ pp := fun s h1 h2 => by omega
    have hl01 : lo + b ≤ nn := by omega
    have hl02 : nn ≤ lo + b := by omega
    clear hlo1 hlo2
    go_wp2
    rw [HPP.out, HLO1.out]
    have HX1 := Lib.hid hx1
    clear hx1
    go_loopw [20, 21] (fun u v wr => ∃ (s r : Nat), u = .int .i64 s ∧ v = .int .i64 r ∧ lo ≤ s ∧ s ≤ r ∧ r ≤ mid ∧ Hid (s = lo ∨ lt (f (nn - s)) (f (s - 1)) = false) ∧ Hid (r = mid ∨ lt (f (nn - 1 - r)) (f r) = true) ∧ PAt wr g n f ∧ Below g w0 wr) (fun u v _ => (intOf v).toNat - (intOf u).toNat)
    case atStart => exact ⟨lo, mid, rfl, rfl, Nat.le_refl _, hlo, Nat.le_refl _, Lib.hid (.inl rfl), Lib.hid (.inl rfl), H.out, HB0.out⟩
    case round =>
      obtain ⟨s, r, rfl, rfl, hs, hsr, hr, HI, HJ, hp, hbw⟩ := hrel
      have HP := Lib.hid hp
      have HBW := Lib.hid hbw
      clear hp hbw
      by_cases hlt : s < r
      · go_upto_region 35 with (fail)
        obtain ⟨h, hh, hih, hhj⟩ : ∃ h : Nat, ((s : Int) + (r : Int)) / 2 = (h : Int) ∧ s ≤ h ∧ h < r := ⟨(s + r) / 2, by omega, by omega, by omega⟩
        rw [hh]
        clear hh
        obtain ⟨hx2, hx3, hx4⟩ := HX1.out h (by omega) (by omega)
        obtain ⟨pc, hpc⟩ : ∃ pc, pp - h = pc := ⟨_, rfl⟩
        rw [hpc] at hx2 hx3
        have hcmp := fun W hW => HC.out W hW (f pc) (f h) (HV.out pc (by omega)) (HV.out h (by omega))
        have hcell := fun W (hW : PAt W g n f) => And.intro (hW.cell pc (by omega)) (hW.cell h (by omega))
        obtain ⟨x, ex⟩ : ∃ x, f pc = x := ⟨_, rfl⟩
        obtain ⟨y, ey⟩ : ∃ y, f h = y := ⟨_, rfl⟩
        rw [ex, ey] at hcmp
        simp only [ex, ey] at hcell
        have HEX := Lib.hid ex
        have HEY := Lib.hid ey
        have HCM := Lib.hid hcmp
        have HCE := Lib.hid hcell
        obtain ⟨ch, ca⟩ := hcell _ HP.out
        have HE1 := Lib.hid (show nn - (h + 1) = pc by omega)
        have HE2 := Lib.hid (show nn - 1 - h = pc by omega)
        have i0 : IntKind.i64.wrap ((pp : Int) - (h : Int)) = (pc : Int) := (IntWalk.i64_in _ (by omega)).trans (by omega)
        have i1 : (h : Int) < (n : Int) := by omega
        have i2 : (pc : Int) < (n : Int) := by omega
        have i3 : h < n := by omega
        have i4 : pc < n := by omega
        clear hcmp hcell ex ey hpc
        rcases Bool.eq_false_or_eq_true (lt x y) with hl | hl
        · rw [hl] at HCM
          have HL := Lib.hid hl
          clear hl
          go_region_held3 (fun w' => w'.cell? { block := g, off := pc } = some (.int .i64 (x : Int)) ∧ w'.cell? { block := g, off := h } = some (.int .i64 (y : Int))) (go_keep) (first
            | (go_at_call 31; refine (HCM.out _ (by exact HBW.out.drew)).mono ?_; rintro e wa ⟨z, rfl, hz, hba⟩; have hbc : Below wr.heap.size wr wa := ((Below.refl _ wr).drew).trans hba; have HPa := Lib.hid (HP.out.below hbc HP.out.lt); have HBa := Lib.hid (HBW.out.trans (hbc.mono (Nat.le_of_lt HP.out.lt))); clear hbc; obtain ⟨ch, ca⟩ := HCE.out _ HPa.out; clear hba))
          clear i0
          go_wp2
          go_roundw
          case rel => exact ⟨s, h, rfl, rfl, hs, hih, by omega, HI, Lib.hid (.inr (by rw [HE2.out, HEX.out, HEY.out]; exact HL.out)), HPa.out, HBa.out⟩
          case measure => simp [intOf]; omega
        · rw [hl] at HCM
          have HL := Lib.hid hl
          clear hl
          go_region_held3 (fun w' => w'.cell? { block := g, off := pc } = some (.int .i64 (x : Int)) ∧ w'.cell? { block := g, off := h } = some (.int .i64 (y : Int))) (go_keep) (first
            | (go_at_call 31; refine (HCM.out _ (by exact HBW.out.drew)).mono ?_; rintro e wa ⟨z, rfl, hz, hba⟩; have hbc : Below wr.heap.size wr wa := ((Below.refl _ wr).drew).trans hba; have HPa := Lib.hid (HP.out.below hbc HP.out.lt); have HBa := Lib.hid (HBW.out.trans (hbc.mono (Nat.le_of_lt HP.out.lt))); clear hbc; obtain ⟨ch, ca⟩ := HCE.out _ HPa.out; clear hba))
          clear i0
          go_wp2
          go_roundw
          case rel => exact ⟨h + 1, r, by go_num, rfl, by omega, by omega, hr, Lib.hid (.inr (by rw [HE1.out, Nat.add_sub_cancel, HEX.out, HEY.out]; exact HL.out)), HJ, HPa.out, HBa.out⟩
          case measure => simp [intOf]; omega
      · obtain rfl : s = r := by omega
        obtain ⟨r1, r2, r3, r4, r5, r6, r7, r8, r9, r10, r11, r12, r13⟩ := HRD.out s hs hr HI.out HJ.out
        obtain ⟨en, hen, hend⟩ : ∃ en : Nat, (nn : Int) - (s : Int) = (en : Int) ∧ nn - s = en := ⟨nn - s, by omega, rfl⟩
        rw [hend] at r3 r4 r6 r7 r8 r9 r10 r11 r12 r13
        have R7 := Lib.hid r7
        have R8 := Lib.hid r8
        have R9 := Lib.hid r9
        have R10 := Lib.hid r10
        have R11 := Lib.hid r11
        have R12 := Lib.hid r12
        have R13 := Lib.hid r13
        have hWI := within_rot f a b s m en r1 r2 r3 r4
        have hRO := rot_out f a b s m en r1 r2 r3 r4
        have HWI := Lib.hid hWI
        have HRO := Lib.hid hRO
        have HV1 := Lib.hid (hWI.lt hRO hbn HV.out)
        have HEN := Lib.hid hen
        have HF1 : Hid (m ≤ s ∨ en ≤ m → rot f s m en = f) := Lib.hid (fun h => by
          rcases h with h | h
          · rw [show s = m from by omega, rot_none1]
          · rw [show en = m from by omega, rot_none2])
        have he1 : en + s ≤ nn := by omega
        have he2 : nn ≤ en + s := by omega
        clear r7 r8 r9 r10 r11 r12 r13 hWI hRO hen hend RDY HC HI HJ HX1 HRD H
        go_upto_region 39 with (fail)
        rw [HEN.out]
        rcases (show (s < m ∧ m < en) ∨ (s < m ∧ en ≤ m) by omega) with ⟨h1, h2⟩ | ⟨h1, h2⟩
        · have HRT := Lib.hid (p_rotate g n c s m en f (.func (.func 31) #[] #[.pointer (some q)]) _ h1 h2 (by omega) hn HP.out)
          go_wp2_with fail
          refine HRT.out.mono ?_
          rintro e w1 ⟨rfl, hp1, ho1⟩
          have HP1 := Lib.hid hp1
          have HB1 := Lib.hid (HBW.out.trans (ho1.1 g (Nat.le_refl _)))
          clear hp1 ho1 HRT
          have r1x : a ≤ mid := by omega
          have r6x : mid ≤ b := by omega
          rcases (show (a < s ∧ s < mid) ∨ s ≤ a by omega) with ⟨h3, h4⟩ | h3
          · have HLC := Lib.hid (HIH.out a s mid _ _ (by omega) h3 h4 (by omega) HV1.out R7.out R8.out R12.out HP1.out HB1.out)
            go_wp2_with fail
            refine HLC.out.mono ?_
            rintro e w2 ⟨rfl, f2, hm2, hp2, hb2⟩
            have HM2 := Lib.hid hm2
            have HP2 := Lib.hid hp2
            have HB2 := Lib.hid hb2
            clear hm2 hp2 hb2 HLC
            have hA2 := HM2.out
            have HV2 := Lib.hid (hA2.2.1.wide hA2.2.2 (Nat.le_refl _) r6x |>.lt (fun p hp => hA2.2.2 p (by omega)) hbn HV1.out)
            rcases (show (mid < en ∧ en < b) ∨ (mid < en ∧ b ≤ en) by omega) with ⟨h5, h6⟩ | ⟨h5, h6⟩
            · have HRC := Lib.hid (HIH.out mid en b _ _ (by omega) h5 h6 hbn HV2.out (R9.out.congr fun p hp _ => hA2.2.2 p (.inr hp)) (R10.out.congr fun p hp _ => hA2.2.2 p (.inr (by omega))) (fun i j hi hie hj hjb => by rw [hA2.2.2 i (.inr hi), hA2.2.2 j (.inr (by omega))]; exact R13.out i j hi hie hj hjb) HP2.out HB2.out)
              clear hA2
              go_wp2_with fail
              all_goals
                refine HRC.out.mono ?_
                rintro e w3 ⟨rfl, f3, hm3, hp3, hb3⟩
                have HM3 := Lib.hid hm3
                have HP3 := Lib.hid hp3
                have HB3 := Lib.hid hb3
                clear hm3 hp3 hb3 HRC
                go_wp2
                go_end0
                exact ⟨rfl, f3, merge_both HWI.out HRO.out R11.out r1x r6x HM2.out HM3.out, HP3.out, HB3.out⟩
            · have HM3 := Lib.hid (show MrgI (ltp lt) f2 f2 mid b from mrg_same ((R9.out.congr fun p hp _ => hA2.2.2 p (.inr hp)) |> fun h => by rw [show en = b from by omega] at h; exact h))
              clear hA2
              go_wp2
              all_goals
                go_end0
                exact ⟨rfl, f2, merge_both HWI.out HRO.out R11.out r1x r6x HM2.out HM3.out, HP2.out, HB2.out⟩
          · obtain ⟨f2, hf2⟩ : ∃ f2, rot f s m en = f2 := ⟨_, rfl⟩
            have HM2 := Lib.hid (show MrgI (ltp lt) (rot f s m en) f2 a mid from by rw [← hf2]; exact mrg_same (by have h := R8.out; rw [show s = a from by omega] at h ⊢; exact h))
            have HP2 := Lib.hid HP1.out
            have HB2 := Lib.hid HB1.out
            rw [hf2] at HP2
            clear hf2
            have hA2 := HM2.out
            have HV2 := Lib.hid (hA2.2.1.wide hA2.2.2 (Nat.le_refl _) r6x |>.lt (fun p hp => hA2.2.2 p (by omega)) hbn HV1.out)
            rcases (show (mid < en ∧ en < b) ∨ (mid < en ∧ b ≤ en) by omega) with ⟨h5, h6⟩ | ⟨h5, h6⟩
            · have HRC := Lib.hid (HIH.out mid en b _ _ (by omega) h5 h6 hbn HV2.out (R9.out.congr fun p hp _ => hA2.2.2 p (.inr hp)) (R10.out.congr fun p hp _ => hA2.2.2 p (.inr (by omega))) (fun i j hi hie hj hjb => by rw [hA2.2.2 i (.inr hi), hA2.2.2 j (.inr (by omega))]; exact R13.out i j hi hie hj hjb) HP2.out HB2.out)
              clear hA2
              go_wp2_with fail
              all_goals
                refine HRC.out.mono ?_
                rintro e w3 ⟨rfl, f3, hm3, hp3, hb3⟩
                have HM3 := Lib.hid hm3
                have HP3 := Lib.hid hp3
                have HB3 := Lib.hid hb3
                clear hm3 hp3 hb3 HRC
                go_wp2
                go_end0
                exact ⟨rfl, f3, merge_both HWI.out HRO.out R11.out r1x r6x HM2.out HM3.out, HP3.out, HB3.out⟩
            · have HM3 := Lib.hid (show MrgI (ltp lt) f2 f2 mid b from mrg_same ((R9.out.congr fun p hp _ => hA2.2.2 p (.inr hp)) |> fun h => by rw [show en = b from by omega] at h; exact h))
              clear hA2
              go_wp2
              all_goals
                go_end0
                exact ⟨rfl, f2, merge_both HWI.out HRO.out R11.out r1x r6x HM2.out HM3.out, HP2.out, HB2.out⟩
        · have HP1 := Lib.hid (show PAt _ g n (rot f s m en) from by rw [HF1.out (.inr h2)]; exact HP.out)
          have HB1 := HBW
          have r1x : a ≤ mid := by omega
          have r6x : mid ≤ b := by omega
          obtain ⟨h3, h4⟩ := (show (a < s ∧ mid ≤ s) by omega)
          obtain ⟨f2, hf2⟩ : ∃ f2, rot f s m en = f2 := ⟨_, rfl⟩
          have HM2 := Lib.hid (show MrgI (ltp lt) (rot f s m en) f2 a mid from by rw [← hf2]; exact mrg_same (by have h := R7.out; rw [show s = mid from by omega] at h ⊢; exact h))
          have HP2 := Lib.hid HP1.out
          have HB2 := Lib.hid HB1.out
          rw [hf2] at HP2
          clear hf2
          have hA2 := HM2.out
          have HV2 := Lib.hid (hA2.2.1.wide hA2.2.2 (Nat.le_refl _) r6x |>.lt (fun p hp => hA2.2.2 p (by omega)) hbn HV1.out)
          obtain ⟨h5, h6⟩ := (show (mid < en ∧ en < b) by omega)
          have HRC := Lib.hid (HIH.out mid en b _ _ (by omega) h5 h6 hbn HV2.out (R9.out.congr fun p hp _ => hA2.2.2 p (.inr hp)) (R10.out.congr fun p hp _ => hA2.2.2 p (.inr (by omega))) (fun i j hi hie hj hjb => by rw [hA2.2.2 i (.inr hi), hA2.2.2 j (.inr (by omega))]; exact R13.out i j hi hie hj hjb) HP2.out HB2.out)
          clear hA2
          go_wp2_with fail
          all_goals
            refine HRC.out.mono ?_
            rintro e w3 ⟨rfl, f3, hm3, hp3, hb3⟩
            have HM3 := Lib.hid hm3
            have HP3 := Lib.hid hp3
            have HB3 := Lib.hid hb3
            clear hm3 hp3 hb3 HRC
            go_wp2
            go_end0
            exact ⟨rfl, f3, merge_both HWI.out HRO.out R11.out r1x r6x HM2.out HM3.out, HP3.out, HB3.out⟩
  · have hc1 : ¬ mid < m := by omega
    have HRD := Lib.hid (fun s h1 h2 h3 h4 => RDY.out a m s (.inl ⟨hcs, rfl, rfl⟩) h1 h2 h3 h4)
    have hlo : a ≤ m := by omega
    have hx1 : ∀ s, a ≤ s → s < m → m ≤ pp - s ∧ pp - s < b ∧ s ≤ pp := fun s h1 h2 => by omega
    go_wp2
    rw [HPP.out]
    have HX1 := Lib.hid hx1
    clear hx1
    go_loopw [20, 21] (fun u v wr => ∃ (s r : Nat), u = .int .i64 s ∧ v = .int .i64 r ∧ a ≤ s ∧ s ≤ r ∧ r ≤ m ∧ Hid (s = a ∨ lt (f (nn - s)) (f (s - 1)) = false) ∧ Hid (r = m ∨ lt (f (nn - 1 - r)) (f r) = true) ∧ PAt wr g n f ∧ Below g w0 wr) (fun u v _ => (intOf v).toNat - (intOf u).toNat)
    case atStart => exact ⟨a, m, rfl, rfl, Nat.le_refl _, hlo, Nat.le_refl _, Lib.hid (.inl rfl), Lib.hid (.inl rfl), H.out, HB0.out⟩
    case round =>
      obtain ⟨s, r, rfl, rfl, hs, hsr, hr, HI, HJ, hp, hbw⟩ := hrel
      have HP := Lib.hid hp
      have HBW := Lib.hid hbw
      clear hp hbw
      by_cases hlt : s < r
      · go_upto_region 35 with (fail)
        obtain ⟨h, hh, hih, hhj⟩ : ∃ h : Nat, ((s : Int) + (r : Int)) / 2 = (h : Int) ∧ s ≤ h ∧ h < r := ⟨(s + r) / 2, by omega, by omega, by omega⟩
        rw [hh]
        clear hh
        obtain ⟨hx2, hx3, hx4⟩ := HX1.out h (by omega) (by omega)
        obtain ⟨pc, hpc⟩ : ∃ pc, pp - h = pc := ⟨_, rfl⟩
        rw [hpc] at hx2 hx3
        have hcmp := fun W hW => HC.out W hW (f pc) (f h) (HV.out pc (by omega)) (HV.out h (by omega))
        have hcell := fun W (hW : PAt W g n f) => And.intro (hW.cell pc (by omega)) (hW.cell h (by omega))
        obtain ⟨x, ex⟩ : ∃ x, f pc = x := ⟨_, rfl⟩
        obtain ⟨y, ey⟩ : ∃ y, f h = y := ⟨_, rfl⟩
        rw [ex, ey] at hcmp
        simp only [ex, ey] at hcell
        have HEX := Lib.hid ex
        have HEY := Lib.hid ey
        have HCM := Lib.hid hcmp
        have HCE := Lib.hid hcell
        obtain ⟨ch, ca⟩ := hcell _ HP.out
        have HE1 := Lib.hid (show nn - (h + 1) = pc by omega)
        have HE2 := Lib.hid (show nn - 1 - h = pc by omega)
        have i0 : IntKind.i64.wrap ((pp : Int) - (h : Int)) = (pc : Int) := (IntWalk.i64_in _ (by omega)).trans (by omega)
        have i1 : (h : Int) < (n : Int) := by omega
        have i2 : (pc : Int) < (n : Int) := by omega
        have i3 : h < n := by omega
        have i4 : pc < n := by omega
        clear hcmp hcell ex ey hpc
        rcases Bool.eq_false_or_eq_true (lt x y) with hl | hl
        · rw [hl] at HCM
          have HL := Lib.hid hl
          clear hl
          go_region_held3 (fun w' => w'.cell? { block := g, off := pc } = some (.int .i64 (x : Int)) ∧ w'.cell? { block := g, off := h } = some (.int .i64 (y : Int))) (go_keep) (first
            | (go_at_call 31; refine (HCM.out _ (by exact HBW.out.drew)).mono ?_; rintro e wa ⟨z, rfl, hz, hba⟩; have hbc : Below wr.heap.size wr wa := ((Below.refl _ wr).drew).trans hba; have HPa := Lib.hid (HP.out.below hbc HP.out.lt); have HBa := Lib.hid (HBW.out.trans (hbc.mono (Nat.le_of_lt HP.out.lt))); clear hbc; obtain ⟨ch, ca⟩ := HCE.out _ HPa.out; clear hba))
          clear i0
          go_wp2
          go_roundw
          case rel => exact ⟨s, h, rfl, rfl, hs, hih, by omega, HI, Lib.hid (.inr (by rw [HE2.out, HEX.out, HEY.out]; exact HL.out)), HPa.out, HBa.out⟩
          case measure => simp [intOf]; omega
        · rw [hl] at HCM
          have HL := Lib.hid hl
          clear hl
          go_region_held3 (fun w' => w'.cell? { block := g, off := pc } = some (.int .i64 (x : Int)) ∧ w'.cell? { block := g, off := h } = some (.int .i64 (y : Int))) (go_keep) (first
            | (go_at_call 31; refine (HCM.out _ (by exact HBW.out.drew)).mono ?_; rintro e wa ⟨z, rfl, hz, hba⟩; have hbc : Below wr.heap.size wr wa := ((Below.refl _ wr).drew).trans hba; have HPa := Lib.hid (HP.out.below hbc HP.out.lt); have HBa := Lib.hid (HBW.out.trans (hbc.mono (Nat.le_of_lt HP.out.lt))); clear hbc; obtain ⟨ch, ca⟩ := HCE.out _ HPa.out; clear hba))
          clear i0
          go_wp2
          go_roundw
          case rel => exact ⟨h + 1, r, by go_num, rfl, by omega, by omega, hr, Lib.hid (.inr (by rw [HE1.out, Nat.add_sub_cancel, HEX.out, HEY.out]; exact HL.out)), HJ, HPa.out, HBa.out⟩
          case measure => simp [intOf]; omega
      · obtain rfl : s = r := by omega
        obtain ⟨r1, r2, r3, r4, r5, r6, r7, r8, r9, r10, r11, r12, r13⟩ := HRD.out s hs hr HI.out HJ.out
        obtain ⟨en, hen, hend⟩ : ∃ en : Nat, (nn : Int) - (s : Int) = (en : Int) ∧ nn - s = en := ⟨nn - s, by omega, rfl⟩
        rw [hend] at r3 r4 r6 r7 r8 r9 r10 r11 r12 r13
        have R7 := Lib.hid r7
        have R8 := Lib.hid r8
        have R9 := Lib.hid r9
        have R10 := Lib.hid r10
        have R11 := Lib.hid r11
        have R12 := Lib.hid r12
        have R13 := Lib.hid r13
        have hWI := within_rot f a b s m en r1 r2 r3 r4
        have hRO := rot_out f a b s m en r1 r2 r3 r4
        have HWI := Lib.hid hWI
        have HRO := Lib.hid hRO
        have HV1 := Lib.hid (hWI.lt hRO hbn HV.out)
        have HEN := Lib.hid hen
        have HF1 : Hid (m ≤ s ∨ en ≤ m → rot f s m en = f) := Lib.hid (fun h => by
          rcases h with h | h
          · rw [show s = m from by omega, rot_none1]
          · rw [show en = m from by omega, rot_none2])
        have he1 : en + s ≤ nn := by omega
        have he2 : nn ≤ en + s := by omega
        clear r7 r8 r9 r10 r11 r12 r13 hWI hRO hen hend RDY HC HI HJ HX1 HRD H
        go_upto_region 39 with (fail)
        rw [HEN.out]
        rcases (show (s < m ∧ m < en) ∨ m ≤ s by omega) with ⟨h1, h2⟩ | h1
        · have HRT := Lib.hid (p_rotate g n c s m en f (.func (.func 31) #[] #[.pointer (some q)]) _ h1 h2 (by omega) hn HP.out)
          go_wp2_with fail
          refine HRT.out.mono ?_
          rintro e w1 ⟨rfl, hp1, ho1⟩
          have HP1 := Lib.hid hp1
          have HB1 := Lib.hid (HBW.out.trans (ho1.1 g (Nat.le_refl _)))
          clear hp1 ho1 HRT
          have r1x : a ≤ mid := by omega
          have r6x : mid ≤ b := by omega
          rcases (show (a < s ∧ s < mid) ∨ s ≤ a by omega) with ⟨h3, h4⟩ | h3
          · have HLC := Lib.hid (HIH.out a s mid _ _ (by omega) h3 h4 (by omega) HV1.out R7.out R8.out R12.out HP1.out HB1.out)
            go_wp2_with fail
            refine HLC.out.mono ?_
            rintro e w2 ⟨rfl, f2, hm2, hp2, hb2⟩
            have HM2 := Lib.hid hm2
            have HP2 := Lib.hid hp2
            have HB2 := Lib.hid hb2
            clear hm2 hp2 hb2 HLC
            have hA2 := HM2.out
            have HV2 := Lib.hid (hA2.2.1.wide hA2.2.2 (Nat.le_refl _) r6x |>.lt (fun p hp => hA2.2.2 p (by omega)) hbn HV1.out)
            rcases (show (mid < en ∧ en < b) ∨ (mid < en ∧ b ≤ en) by omega) with ⟨h5, h6⟩ | ⟨h5, h6⟩
            · have HRC := Lib.hid (HIH.out mid en b _ _ (by omega) h5 h6 hbn HV2.out (R9.out.congr fun p hp _ => hA2.2.2 p (.inr hp)) (R10.out.congr fun p hp _ => hA2.2.2 p (.inr (by omega))) (fun i j hi hie hj hjb => by rw [hA2.2.2 i (.inr hi), hA2.2.2 j (.inr (by omega))]; exact R13.out i j hi hie hj hjb) HP2.out HB2.out)
              clear hA2
              go_wp2_with fail
              all_goals
                refine HRC.out.mono ?_
                rintro e w3 ⟨rfl, f3, hm3, hp3, hb3⟩
                have HM3 := Lib.hid hm3
                have HP3 := Lib.hid hp3
                have HB3 := Lib.hid hb3
                clear hm3 hp3 hb3 HRC
                go_wp2
                go_end0
                exact ⟨rfl, f3, merge_both HWI.out HRO.out R11.out r1x r6x HM2.out HM3.out, HP3.out, HB3.out⟩
            · have HM3 := Lib.hid (show MrgI (ltp lt) f2 f2 mid b from mrg_same ((R9.out.congr fun p hp _ => hA2.2.2 p (.inr hp)) |> fun h => by rw [show en = b from by omega] at h; exact h))
              clear hA2
              go_wp2
              all_goals
                go_end0
                exact ⟨rfl, f2, merge_both HWI.out HRO.out R11.out r1x r6x HM2.out HM3.out, HP2.out, HB2.out⟩
          · obtain ⟨f2, hf2⟩ : ∃ f2, rot f s m en = f2 := ⟨_, rfl⟩
            have HM2 := Lib.hid (show MrgI (ltp lt) (rot f s m en) f2 a mid from by rw [← hf2]; exact mrg_same (by have h := R8.out; rw [show s = a from by omega] at h ⊢; exact h))
            have HP2 := Lib.hid HP1.out
            have HB2 := Lib.hid HB1.out
            rw [hf2] at HP2
            clear hf2
            have hA2 := HM2.out
            have HV2 := Lib.hid (hA2.2.1.wide hA2.2.2 (Nat.le_refl _) r6x |>.lt (fun p hp => hA2.2.2 p (by omega)) hbn HV1.out)
            rcases (show (mid < en ∧ en < b) ∨ (mid < en ∧ b ≤ en) by omega) with ⟨h5, h6⟩ | ⟨h5, h6⟩
            · have HRC := Lib.hid (HIH.out mid en b _ _ (by omega) h5 h6 hbn HV2.out (R9.out.congr fun p hp _ => hA2.2.2 p (.inr hp)) (R10.out.congr fun p hp _ => hA2.2.2 p (.inr (by omega))) (fun i j hi hie hj hjb => by rw [hA2.2.2 i (.inr hi), hA2.2.2 j (.inr (by omega))]; exact R13.out i j hi hie hj hjb) HP2.out HB2.out)
              clear hA2
              go_wp2_with fail
              all_goals
                refine HRC.out.mono ?_
                rintro e w3 ⟨rfl, f3, hm3, hp3, hb3⟩
                have HM3 := Lib.hid hm3
                have HP3 := Lib.hid hp3
                have HB3 := Lib.hid hb3
                clear hm3 hp3 hb3 HRC
                go_wp2
                go_end0
                exact ⟨rfl, f3, merge_both HWI.out HRO.out R11.out r1x r6x HM2.out HM3.out, HP3.out, HB3.out⟩
            · have HM3 := Lib.hid (show MrgI (ltp lt) f2 f2 mid b from mrg_same ((R9.out.congr fun p hp _ => hA2.2.2 p (.inr hp)) |> fun h => by rw [show en = b from by omega] at h; exact h))
              clear hA2
              go_wp2
              all_goals
                go_end0
                exact ⟨rfl, f2, merge_both HWI.out HRO.out R11.out r1x r6x HM2.out HM3.out, HP2.out, HB2.out⟩
        · have HP1 := Lib.hid (show PAt _ g n (rot f s m en) from by rw [HF1.out (.inl h1)]; exact HP.out)
          have HB1 := HBW
          have r1x : a ≤ mid := by omega
          have r6x : mid ≤ b := by omega
          rcases (show (a < s ∧ s < mid) ∨ (a < s ∧ mid ≤ s) by omega) with ⟨h3, h4⟩ | ⟨h3, h4⟩
          · have HLC := Lib.hid (HIH.out a s mid _ _ (by omega) h3 h4 (by omega) HV1.out R7.out R8.out R12.out HP1.out HB1.out)
            go_wp2_with fail
            refine HLC.out.mono ?_
            rintro e w2 ⟨rfl, f2, hm2, hp2, hb2⟩
            have HM2 := Lib.hid hm2
            have HP2 := Lib.hid hp2
            have HB2 := Lib.hid hb2
            clear hm2 hp2 hb2 HLC
            have hA2 := HM2.out
            have HV2 := Lib.hid (hA2.2.1.wide hA2.2.2 (Nat.le_refl _) r6x |>.lt (fun p hp => hA2.2.2 p (by omega)) hbn HV1.out)
            obtain h5 := (show en ≤ mid by omega)
            have HM3 := Lib.hid (show MrgI (ltp lt) f2 f2 mid b from mrg_same ((R10.out.congr fun p hp _ => hA2.2.2 p (.inr (by omega))) |> fun h => by rw [show en = mid from by omega] at h; exact h))
            clear hA2
            go_wp2
            all_goals
              go_end0
              exact ⟨rfl, f2, merge_both HWI.out HRO.out R11.out r1x r6x HM2.out HM3.out, HP2.out, HB2.out⟩
          · obtain ⟨f2, hf2⟩ : ∃ f2, rot f s m en = f2 := ⟨_, rfl⟩
            have HM2 := Lib.hid (show MrgI (ltp lt) (rot f s m en) f2 a mid from by rw [← hf2]; exact mrg_same (by have h := R7.out; rw [show s = mid from by omega] at h ⊢; exact h))
            have HP2 := Lib.hid HP1.out
            have HB2 := Lib.hid HB1.out
            rw [hf2] at HP2
            clear hf2
            have hA2 := HM2.out
            have HV2 := Lib.hid (hA2.2.1.wide hA2.2.2 (Nat.le_refl _) r6x |>.lt (fun p hp => hA2.2.2 p (by omega)) hbn HV1.out)
            obtain h5 := (show en ≤ mid by omega)
            have HM3 := Lib.hid (show MrgI (ltp lt) f2 f2 mid b from mrg_same ((R10.out.congr fun p hp _ => hA2.2.2 p (.inr (by omega))) |> fun h => by rw [show en = mid from by omega] at h; exact h))
            clear hA2
            go_wp2
            all_goals
              go_end0
              exact ⟨rfl, f2, merge_both HWI.out HRO.out R11.out r1x r6x HM2.out HM3.out, HP2.out, HB2.out⟩

theorem p_merge (g n c : Nat) (lt : Nat → Nat → Bool) (q : Addr) (w0 : World) (ht : ∀ x y z, ltp lt x y → ltp lt y z → ltp lt x z) (hc : CmpIs g n lt q w0) (hn : n < 1099511627776) : ∀ N, MrgOk g n c lt q w0 N
  | 0 => fun a m b f w h0 h1 h2 => by omega
  | N + 1 => fun a m b f w h0 h1 h2 h3 hv hl hr hlr h hb => by
    have ih := p_merge g n c lt q w0 ht hc hn N
    by_cases e1 : m = a + 1
    · exact p_merge1 g n c a m b lt f q w0 w ht hc e1 h2 h3 hn hv hr hlr h hb
    · by_cases e2 : b = m + 1
      · exact p_merge2 g n c a m b lt f q w0 w ht hc (by omega) e2 h3 hn hv hl hlr h hb
      · exact p_merge3 g n c a m b N lt f q w0 w ht hc ih h0 (by omega) (by omega) h3 hn hv hl hr hlr h hb
end Go.Proofs.Ytmiagdmfgebfdaa
