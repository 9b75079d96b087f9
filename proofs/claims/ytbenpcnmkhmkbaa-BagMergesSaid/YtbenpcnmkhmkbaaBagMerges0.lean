/-
  BagMerges of verdererlaw05 answers true at every two lists of entries that are few and are not refused.
  No condition.
-/
import Derived.Test.YtbenpcnmkhmkbaaUntil
namespace Go.Proofs.Ytbenpcnmkhmkbaa
open Go.RowKit

set_option maxRecDepth 100000 in
set_option maxHeartbeats 4000000 in
theorem bagMerges_ok (w : World) (A B : Option Addr) (c d : Nat) (es fs : List WE) (n m : Nat) (t : Int) (hn : es.length = n) (hm : fs.length = m) (hl : n ≤ 120) (hl2 : m ≤ 120) (hrows : ∀ e ∈ es, e.row.length ≤ 50) (hrows2 : ∀ e ∈ fs, e.row.length ≤ 50) (hW : WeakE w A es) (hW2 : WeakE w B fs) (hgood : (ofL (ents es)).2 = 0 ∧ (ofL (ents fs)).2 = 0) :
    Calls Try.prog 5 #[.slice A n c, .slice B m d, .int .i64 t] w fun e w' => e = .returned (.bool true) ∧ Below w.heap.size w w' := by
  have HF := Lib.hid (l_few A es n c w hn (by omega) hW)
  have HF2 := Lib.hid (l_few B fs m d w hm (by omega) hW2)
  have HFW : Hid (fewW es = true) := Lib.hid ((fewW_iff es).2 ⟨by omega, hrows⟩)
  have HFW2 : Hid (fewW fs = true) := Lib.hid ((fewW_iff fs).2 ⟨by omega, hrows2⟩)
  have HE := Lib.hid (hW.ents hrows)
  have HE2 := Lib.hid (hW2.ents hrows2)
  have HM := Lib.hid (fun i e he => ents_many hW i e he)
  have HM2 := Lib.hid (fun i e he => ents_many hW2 i e he)
  have HN : Hid ((ents es).length = n) := Lib.hid (by rw [ents_len]; exact hn)
  have HN2 : Hid ((ents fs).length = m) := Lib.hid (by rw [ents_len]; exact hm)
  have HGOOD := Lib.hid hgood
  clear hW hW2 hn hm hrows hrows2 hgood
  generalize ents es = ks at *
  generalize ents fs = ms at *
  have hlk := ofL_len ks
  have hlm := ofL_len ms
  rw [HN.out] at hlk
  rw [HN2.out] at hlm
  go_enter Try.func5, Try.ntmps5
  go_wp2_with fail
  refine HF.out.mono ?_
  rintro e w' ⟨rfl, rfl⟩
  rw [HFW.out]
  go_wp2_with fail
  refine HF2.out.mono ?_
  rintro e w' ⟨rfl, rfl⟩
  rw [HFW2.out]
  go_wp2_with fail
  refine (b_of _ A _ c ks w HN.out (by omega) HE.out HM.out).mono ?_
  rintro e w1 ⟨hb1, hcase⟩
  have HB1 := Lib.hid hb1
  have hs1 := hb1.size
  clear hb1
  rcases hcase with ⟨r1, rfl, hA⟩ | ⟨r1, _⟩
  rotate_left
  · exact absurd HGOOD.out.1 r1
  · have hgal := hA.lt
    have HA := Lib.hid (hA.imp (Q' := fun k => w.heap.size < k ∧ k < w1.heap.size) fun k hk h => ⟨h, hk⟩)
    clear hA
    go_wp2_with fail
    refine (b_of _ B _ d ms w1 HN2.out (by omega) (HE2.out.below HB1.out) HM2.out).mono ?_
    rintro e w2 ⟨hb, hcase⟩
    have HB2 := Lib.hid (HB1.out.trans (hb.mono HB1.out.size))
    have hw2s := hb.size
    have HA2 := Lib.hid (HA.out.below hb)
    clear hb
    rcases hcase with ⟨r2, rfl, hB⟩ | ⟨r2, _⟩
    rotate_left
    · exact absurd HGOOD.out.2 r2
    · have hgbl := hB.lt
      have HBB := Lib.hid (hB.imp (Q' := fun k => w1.heap.size < k ∧ k < w2.heap.size) fun k hk h => ⟨h, hk⟩)
      clear hB
      go_wp2_with fail
      refine (r_of _ A _ c ks w2 HN.out (by omega) (HE.out.below HB2.out) HM.out).mono ?_
      rintro e w3 ⟨hb, hcase⟩
      have HB3 := Lib.hid (HB2.out.trans (hb.mono HB2.out.size))
      have hw3s := hb.size
      have HA3 := Lib.hid (HA2.out.below hb)
      have HBB3 := Lib.hid (HBB.out.below hb)
      clear hb
      rcases hcase with ⟨_, rfl, hX⟩ | ⟨r3, _⟩
      rotate_left
      · exact absurd r1 r3
      have hgxl := hX.lt
      have HX := Lib.hid hX
      clear hX
      go_wp2_with fail
      refine (r_of _ B _ d ms w3 HN2.out (by omega) (HE2.out.below HB3.out) HM2.out).mono ?_
      rintro e w4 ⟨hb, hcase⟩
      have HB4 := Lib.hid (HB3.out.trans (hb.mono HB3.out.size))
      have hw4s := hb.size
      have HA4 := Lib.hid (HA3.out.below hb)
      have HBB4 := Lib.hid (HBB3.out.below hb)
      have HX4 := Lib.hid (HX.out.below hb)
      clear hb
      rcases hcase with ⟨_, rfl, hY⟩ | ⟨r3, _⟩
      rotate_left
      · exact absurd r2 r3
      have hgyl := hY.lt
      have HY := Lib.hid hY
      clear hY
      have hap : Apart w.heap.size w1.heap.size w4.heap.size w2.heap.size w3.heap.size w.heap.size := ⟨hgal, hgbl, hgxl, hgyl, Nat.le_refl _⟩
      have HAP := Lib.hid hap
      have HFA := Lib.hid (HA4.out.imp (Q' := Qx w.heap.size w2.heap.size) fun k _ h => by obtain ⟨h1, h2⟩ := h; exact ⟨by omega, by omega⟩)
      have HFB := Lib.hid (HBB4.out.imp (Q' := Qx w.heap.size w2.heap.size) fun k _ h => by obtain ⟨h1, h2⟩ := h; exact ⟨by omega, by omega⟩)
      have HFX := Lib.hid (HX4.out.imp (Q' := Qx w.heap.size w2.heap.size) fun k _ h => by have h1 : w2.heap.size < k := h; exact ⟨by omega, by omega⟩)
      have HFY := Lib.hid (HY.out.imp (Q' := Qx w.heap.size w2.heap.size) fun k _ h => by have h1 : w3.heap.size < k := h; exact ⟨by omega, by omega⟩)
      clear hap HA HA2 HA3 HA4 HBB HBB3 HBB4 HX HX4 HY
      go_wp2_with fail
      refine (b_copy (Qx w.heap.size w2.heap.size) w.heap.size _ w4 HFA.out).mono ?_
      rintro e w5 ⟨rfl, hC, hb5⟩
      have hs5 := hC.lt
      have hfive : Five w5 w.heap.size w1.heap.size w4.heap.size w2.heap.size w3.heap.size (ofL ks).1 (ofL ks).1 (ofL ms).1 := ⟨HFA.out.below hb5, HFB.out.below hb5, hC, HFX.out.below hb5, HFY.out.below hb5⟩
      have HB5 := Lib.hid (HB4.out.trans (hb5.mono HB4.out.size))
      obtain ⟨_, _, Lx, cx, _, _, hbx, hex⟩ := hfive.x
      obtain ⟨_, _, Ly, cy, _, _, hby, hey⟩ := hfive.y
      have cbx := hbx.cell
      have cby := hby.cell
      have hltx := hbx.lt
      have hlty := hby.lt
      obtain ⟨mm, k, hmk⟩ : ∃ mm k, mergeL t (ofL ks).1 (ofL ms).1 = (mm, k) := ⟨_, _, rfl⟩
      have hd := below_drew w5.heap.size w5
      have HC := Lib.hid (merge_calls (hfive.below hd) HAP.out hs5 (by omega) t mm k hmk Lx Ly cx cy (hex.below hd) (hey.below hd))
      have hk1 : (alikeL (ofL ks).1 (ofL ms).1 != alikeL (ofL ks).1 (ofL ms).1) = false := by simp
      have hk2 : (k != k) = false := by simp
      have HR1 := Lib.hid r1
      clear hbx hby hex hey hfive hC hb5 hmk hd r1
      go_wp2
      refine any_begin (by kernel_rfl) ?_
      change wpAny _ _ _ _ 30 (Array.replicate 30 false) _ _
      refine' p_take (i := 0) rfl rfl (by kernel_rfl) (by kernel_rfl) (by kernel_rfl) (by rfl) ?hy1 ?rest1
      case hy1 => (intro w; go_simp; (first | done | rfl))
      try simp only [List.setIfInBounds_toArray, List.set_cons_zero, List.set_cons_succ]
      refine' p_take (i := 1) rfl rfl (by kernel_rfl) (by kernel_rfl) (by kernel_rfl) (by rfl) ?hy2 ?rest2
      case hy2 => (intro w; go_simp; (first | done | rfl))
      try simp only [List.setIfInBounds_toArray, List.set_cons_zero, List.set_cons_succ]
      refine' p_take (i := 3) rfl rfl (by kernel_rfl) (by kernel_rfl) (by kernel_rfl) (by rfl) ?hy3 ?rest3
      case hy3 => (intro w; go_simp; (first | done | rfl))
      try simp only [List.setIfInBounds_toArray, List.set_cons_zero, List.set_cons_succ]
      refine' p_take (i := 4) rfl rfl (by kernel_rfl) (by kernel_rfl) (by kernel_rfl) (by rfl) ?hy4 ?rest4
      case hy4 => (intro w; go_simp; (first | done | rfl))
      try simp only [List.setIfInBounds_toArray, List.set_cons_zero, List.set_cons_succ]
      refine' p_take (i := 5) rfl rfl (by kernel_rfl) (by kernel_rfl) (by kernel_rfl) (by rfl) ?hy5 ?rest5
      case hy5 => (intro w; go_simp; (first | done | rfl))
      try simp only [List.setIfInBounds_toArray, List.set_cons_zero, List.set_cons_succ]
      refine' p_take (i := 7) rfl rfl (by kernel_rfl) (by kernel_rfl) (by kernel_rfl) (by rfl) ?hy6 ?rest6
      case hy6 => (intro w; go_simp; (first | done | rfl))
      try simp only [List.setIfInBounds_toArray, List.set_cons_zero, List.set_cons_succ]
      refine' p_take (i := 8) rfl rfl (by kernel_rfl) (by kernel_rfl) (by kernel_rfl) (by rfl) ?hy7 ?rest7
      case hy7 => (intro w; go_simp; (first | done | rfl))
      try simp only [List.setIfInBounds_toArray, List.set_cons_zero, List.set_cons_succ]
      refine' p_take (i := 9) rfl rfl (by kernel_rfl) (by kernel_rfl) (by kernel_rfl) (by rfl) ?hy8 ?rest8
      case hy8 => (intro w; go_simp; (first | done | rfl))
      try simp only [List.setIfInBounds_toArray, List.set_cons_zero, List.set_cons_succ]
      refine any_of_until (S := (fun W : World => W.cell? ⟨w2.heap.size, 0, none⟩ = some (.slice Lx (ofL ks).1.length cx) ∧ W.cell? ⟨w3.heap.size, 0, none⟩ = some (.slice Ly (ofL ms).1.length cy))) (m := 11) _ _ _ _ ?_
      have hSd : (fun W : World => W.cell? ⟨w2.heap.size, 0, none⟩ = some (.slice Lx (ofL ks).1.length cx) ∧ W.cell? ⟨w3.heap.size, 0, none⟩ = some (.slice Ly (ofL ms).1.length cy)) w5.drew := ⟨cbx, cby⟩
      refine' u_take (i := 6) rfl rfl (by kernel_rfl) (by kernel_rfl) (by kernel_rfl) (by rfl) rfl (by kernel_rfl) (by decide) (by kernel_rfl) ?hy9 hSd ?rest9
      case hy9 => (intro w hSw; (try dsimp only at hSw); obtain ⟨hSx, hSy⟩ := hSw; go_simp; (first | done | rfl))
      try simp only [List.setIfInBounds_toArray, List.set_cons_zero, List.set_cons_succ]
      refine' u_take (i := 10) rfl rfl (by kernel_rfl) (by kernel_rfl) (by kernel_rfl) (by rfl) rfl (by kernel_rfl) (by decide) (by kernel_rfl) ?hy10 hSd ?rest10
      case hy10 => (intro w hSw; (try dsimp only at hSw); obtain ⟨hSx, hSy⟩ := hSw; go_simp; (first | done | rfl))
      try simp only [List.setIfInBounds_toArray, List.set_cons_zero, List.set_cons_succ]
      refine' u_next (i := 2) (by kernel_rfl) rfl (by rfl) ?_
      intro K hK
      go_simp
      refine HC.out.mono ?_
      rintro e W1 ⟨rfl, hb1, hc1⟩
      have HC1 := Lib.hid hc1
      have hSd1 : (fun W : World => W.cell? ⟨w2.heap.size, 0, none⟩ = some (.slice Lx (ofL ks).1.length cx) ∧ W.cell? ⟨w3.heap.size, 0, none⟩ = some (.slice Ly (ofL ms).1.length cy)) W1 := ⟨(hb1.cell (p := ⟨w2.heap.size, 0, none⟩) hltx).trans cbx, (hb1.cell (p := ⟨w3.heap.size, 0, none⟩) hlty).trans cby⟩
      clear hc1
      refine hK.out _ _ hSd1 ?_
      clear hK K hSd hSd1 hb1
      try simp only [List.setIfInBounds_toArray, List.set_cons_zero, List.set_cons_succ]
      refine' u_mark (by kernel_rfl) rfl (by rfl) (by decide) ?_
      intro K hK
      go_simp
      refine HC1.out.mono ?_
      rintro e W2 ⟨rfl, _, hc2⟩
      have HC2 := Lib.hid hc2
      clear hc2
      refine hK.out _ _ ?_
      clear hK K
      try simp only [List.setIfInBounds_toArray, List.set_cons_zero, List.set_cons_succ]
      refine' p_take (i := 12) (v := Value.bool false) rfl rfl (by kernel_rfl) (by kernel_rfl) (by kernel_rfl) (by rfl) ?hy11 ?rest11
      case hy11 => (intro w; go_simp; (first | done | rfl))
      try simp only [List.setIfInBounds_toArray, List.set_cons_zero, List.set_cons_succ]
      refine' p_take (i := 13) rfl rfl (by kernel_rfl) (by kernel_rfl) (by kernel_rfl) (by rfl) ?hy12 ?rest12
      case hy12 => (intro w; go_simp; (first | done | rfl))
      try simp only [List.setIfInBounds_toArray, List.set_cons_zero, List.set_cons_succ]
      refine' p_take (i := 14) rfl rfl (by kernel_rfl) (by kernel_rfl) (by kernel_rfl) (by rfl) ?hy13 ?rest13
      case hy13 => (intro w; go_simp; (first | done | rfl))
      try simp only [List.setIfInBounds_toArray, List.set_cons_zero, List.set_cons_succ]
      refine' p_take (i := 15) rfl rfl (by kernel_rfl) (by kernel_rfl) (by kernel_rfl) (by rfl) ?hy14 ?rest14
      case hy14 => (intro w; go_simp; (first | done | rfl))
      try simp only [List.setIfInBounds_toArray, List.set_cons_zero, List.set_cons_succ]
      refine' p_next (i := 16) (by kernel_rfl) rfl (by rfl) ?_
      intro K hK
      go_simp
      refine HC2.out.mono ?_
      rintro e W3 ⟨rfl, hbq, c3⟩
      have Hc3 := Lib.hid c3
      clear c3 hbq
      refine hK.out _ _ ?_
      clear hK K
      try simp only [List.setIfInBounds_toArray, List.set_cons_zero, List.set_cons_succ]
      refine' p_take (i := 17) rfl rfl (by kernel_rfl) (by kernel_rfl) (by kernel_rfl) (by rfl) ?hy15 ?rest15
      case hy15 => (intro w; go_simp; (first | done | rfl))
      try simp only [List.setIfInBounds_toArray, List.set_cons_zero, List.set_cons_succ]
      refine' p_take (i := 18) rfl rfl (by kernel_rfl) (by kernel_rfl) (by kernel_rfl) (by rfl) ?hy16 ?rest16
      case hy16 => (intro w; go_simp; (first | done | rfl))
      try simp only [List.setIfInBounds_toArray, List.set_cons_zero, List.set_cons_succ]
      refine' p_take (i := 19) rfl rfl (by kernel_rfl) (by kernel_rfl) (by kernel_rfl) (by rfl) ?hy17 ?rest17
      case hy17 => (intro w; go_simp; (first | done | rfl))
      try simp only [List.setIfInBounds_toArray, List.set_cons_zero, List.set_cons_succ]
      refine' p_take (i := 20) rfl rfl (by kernel_rfl) (by kernel_rfl) (by kernel_rfl) (by rfl) ?hy18 ?rest18
      case hy18 => (intro w; go_simp; (first | done | rfl))
      try simp only [List.setIfInBounds_toArray, List.set_cons_zero, List.set_cons_succ]
      refine' p_take (i := 21) rfl rfl (by kernel_rfl) (by kernel_rfl) (by kernel_rfl) (by rfl) ?hy19 ?rest19
      case hy19 => (intro w; go_simp; (first | done | rfl))
      try simp only [List.setIfInBounds_toArray, List.set_cons_zero, List.set_cons_succ]
      refine' p_take (i := 22) rfl rfl (by kernel_rfl) (by kernel_rfl) (by kernel_rfl) (by rfl) ?hy20 ?rest20
      case hy20 => (intro w; go_simp; (first | done | rfl))
      try simp only [List.setIfInBounds_toArray, List.set_cons_zero, List.set_cons_succ]
      refine' p_take (i := 24) rfl rfl (by kernel_rfl) (by kernel_rfl) (by kernel_rfl) (by rfl) ?hy21 ?rest21
      case hy21 => (intro w; go_simp; (first | done | rfl))
      try simp only [List.setIfInBounds_toArray, List.set_cons_zero, List.set_cons_succ]
      refine' p_take (i := 25) rfl rfl (by kernel_rfl) (by kernel_rfl) (by kernel_rfl) (by rfl) ?hy22 ?rest22
      case hy22 => (intro w; go_simp; (first | done | rfl))
      try simp only [List.setIfInBounds_toArray, List.set_cons_zero, List.set_cons_succ]
      refine' p_take (i := 26) rfl rfl (by kernel_rfl) (by kernel_rfl) (by kernel_rfl) (by rfl) ?hy23 ?rest23
      case hy23 => (intro w; go_simp; (first | done | rfl))
      try simp only [List.setIfInBounds_toArray, List.set_cons_zero, List.set_cons_succ]
      refine' p_next (i := 23) (by kernel_rfl) rfl (by rfl) ?_
      intro K hK
      go_simp
      refine Hc3.out.mono ?_
      rintro e W4 ⟨rfl, hbq, c4⟩
      have Hc4 := Lib.hid c4
      clear c4 hbq
      refine hK.out _ _ ?_
      clear hK K
      try simp only [List.setIfInBounds_toArray, List.set_cons_zero, List.set_cons_succ]
      refine' p_next (i := 27) (by kernel_rfl) rfl (by rfl) ?_
      intro K hK
      go_simp
      refine Hc4.out.mono ?_
      rintro e W6 ⟨rfl, hbq, c6⟩
      have Hc6 := Lib.hid c6
      have HW6 := Lib.hid (HB5.out.trans ((below_drew w.heap.size w5).trans hbq))
      clear c6 hbq
      refine hK.out _ _ ?_
      clear hK K
      try simp only [List.setIfInBounds_toArray, List.set_cons_zero, List.set_cons_succ]
      refine' p_take (i := 28) (v := Value.bool false) rfl rfl (by kernel_rfl) (by kernel_rfl) (by kernel_rfl) (by rfl) ?hy24 ?rest24
      case hy24 => (intro w; go_simp; (first | done | rfl))
      try simp only [List.setIfInBounds_toArray, List.set_cons_zero, List.set_cons_succ]
      refine' p_take (i := 29) rfl rfl (by kernel_rfl) (by kernel_rfl) (by kernel_rfl) (by rfl) ?hy25 ?rest25
      case hy25 => (intro w; go_simp; (first | done | rfl))
      try simp only [List.setIfInBounds_toArray, List.set_cons_zero, List.set_cons_succ]
      refine p_done (by kernel_rfl) ?_
      have hgx6 := Hc6.out.x.lt
      have hga6 := Hc6.out.a.lt
      go_wp2_with fail
      refine (r_of _ A _ c ks W6 HN.out (by omega) (HE.out.below HW6.out) HM.out).mono ?_
      rintro e w6 ⟨hb6, hcase⟩
      rcases hcase with ⟨_, rfl, hG⟩ | ⟨r3, _⟩
      rotate_left
      · exact absurd HR1.out r3
      have HF6 := Lib.hid (Hc6.out.below hb6)
      have HG6 := Lib.hid hG
      have HW7 := Lib.hid (HW6.out.trans (hb6.mono HW6.out.size))
      have hs6 := hb6.size
      clear hb6 hG
      go_wp2_with fail
      refine (l_same (Qx w.heap.size w2.heap.size) _ _ _ mm w6 (fun k hk => ⟨by omega, by omega⟩) (Or.inr ⟨_, rfl, HF6.out.a⟩) HF6.out.x).mono ?_
      rintro e w7 ⟨rfl, hb7⟩
      have HF7 := Lib.hid (HF6.out.below hb7)
      have HG7 := Lib.hid (HG6.out.below hb7)
      have HW8 := Lib.hid (HW7.out.trans (hb7.mono HW7.out.size))
      have hs7 := hb7.size
      clear hb7
      go_wp2_with fail
      refine (l_same (Qx w.heap.size w2.heap.size) _ _ _ (ofL ms).1 w7 (fun k hk => ⟨by omega, by omega⟩) (Or.inr ⟨_, rfl, HF7.out.b⟩) HF7.out.y).mono ?_
      rintro e w8 ⟨rfl, hb8⟩
      have HF8 := Lib.hid (HF7.out.below hb8)
      have HG8 := Lib.hid (HG7.out.below hb8)
      have HW9 := Lib.hid (HW8.out.trans (hb8.mono HW8.out.size))
      have hs8 := hb8.size
      clear hb8
      go_wp2_with fail
      refine (l_same (Qx w.heap.size w2.heap.size) _ _ _ (ofL ks).1 w8 (fun k hk => ⟨by omega, by omega⟩) (Or.inr ⟨_, rfl, HF8.out.c⟩) HG8.out).mono ?_
      rintro e w9 ⟨rfl, hb9⟩
      have HWA := Lib.hid (HW9.out.trans (hb9.mono HW9.out.size))
      clear hb9
      go_wp2_with fail
      refine (known5 _).mono ?_
      rintro e wa ⟨rfl, hba⟩
      go_wp2
      go_ret
      exact ⟨rfl, HWA.out.trans (hba.mono HWA.out.size)⟩
end Go.Proofs.Ytbenpcnmkhmkbaa
