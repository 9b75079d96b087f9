/-
  The document's head: what stands in a head's brackets.
  Condition: no more than four hundred tokens, and a place among them; nothing was read of the head yet.
-/
import Derived.Test.YthdjkagodccdbaaM25
namespace Go.Proofs.Ythdjkagodccdbaa
open Go.RowKit

/-- A rule with another head. -/
abbrev RuP.with (r : RuP) (y : HdP) : RuP := { r with head := y.h, ag := y.ag, ofv := y.ofv }
theorem hdF_stop (ls : List Tok) (k : Int) (f : Nat) (y : HdP) (h : ¬ y.s.why = 0) : hdF ls k f y = y := by
  cases f with
  | zero => rfl
  | succ f => unfold hdF; rw [if_neg h]
theorem hdF_agg (ls : List Tok) (k : Int) (f : Nat) (y : HdP) (h : y.s.why = 0) (hj : aggJ ls y.s ≠ 0) : hdF ls k (f + 1) y = ⟨y.h, agA ls y.s k y.ag, agO ls y.s k y.ofv, agS ls y.s k⟩ := by
  rw [hdF, if_pos h, if_pos hj]
theorem hdF_go (ls : List Tok) (k : Int) (f : Nat) (y : HdP) (h : y.s.why = 0) (hj : aggJ ls y.s = 0) (s2 : Rst) (h2 : s2 = if 40 ≤ y.h.length then failR (nmS ls y.s) 9 (nowR ls y.s).a else nmS ls y.s) :
    hdF ls k (f + 1) y = if isR ls s2 wComma = true then hdF ls k f ⟨y.h ++ [nmV ls y.s], y.ag, y.ofv, stepR ls s2⟩ else ⟨y.h ++ [nmV ls y.s], y.ag, y.ofv, s2⟩ := by
  subst h2
  rw [hdF, if_pos h, if_neg (by simp [hj])]

theorem ag_none {ls : List Tok} {s : Rst} (h : aggJ ls s = 0) (k ag : Int) : agS ls s k = s ∧ agA ls s k ag = ag := by
  unfold agS agA
  rw [h]
  exact ⟨rfl, rfl⟩
theorem ag_noneA {ls : List Tok} {s : Rst} (h : aggJ ls s = 0) (k ag : Int) : agA ls s k ag = ag := (ag_none h k ag).2
theorem ag_noneO {ls : List Tok} {s : Rst} (h : aggJ ls s = 0) (k : Int) (o : ByteArray) : agO ls s k o = o := by
  unfold agO
  rw [h]
  rfl

set_option maxRecDepth 100000 in
set_option maxHeartbeats 4000000 in
theorem rp_head {W : World} {g x t c base : Nat} {ls : List Tok} {s : Rst} {r : RuP} {bv : Value} (h : XSt W g x t c base ls s r (.slice none 0 0) bv) (hh : r.head = []) (ha : r.ag = 0) (hof : r.ofv = ⟨#[]⟩) :
    Calls Try.prog 23 #[.pointer (some ⟨g, 0, none⟩), .pointer (some ⟨x, 0, none⟩)] W fun e W' => e = .returned (.tuple #[]) ∧ (∃ hv', XSt W' g x t c base ls (hdR ls s r.k).s (r.with (hdR ls s r.k)) hv' bv) ∧ OnlyX g x base W W' := by
  obtain ⟨d0, _, d2, _, _, _, _⟩ := h.bx.cell
  have H := Lib.hid h
  have HH := Lib.hid hh
  have HAG := Lib.hid ha
  have HOF := Lib.hid hof
  obtain ⟨Y, hY⟩ : ∃ Y, Y = hdR ls s r.k := ⟨_, rfl⟩
  rw [← hY]
  clear h hh ha hof
  by_cases h3 : r.k = 3
  · have b1 : (r.k == 3) = true := by simpa using h3
    have hy2 : Y = hdQ ls s := by rw [hY]; unfold hdR; rw [if_pos h3]
    obtain ⟨s2, hs2⟩ : ∃ s2, mustR ls (nmS ls s) wComma = s2 := ⟨_, rfl⟩
    obtain ⟨nm, hnm⟩ : ∃ nm, nmV ls s = nm := ⟨_, rfl⟩
    have hyy : Y = ⟨[nm], agA ls s2 3 0, agO ls s2 3 ⟨#[]⟩, if aggJ ls s2 = 0 then failR s2 7 (nowR ls s2).a else agS ls s2 3⟩ := by rw [hy2, ← hs2, ← hnm]; rfl
    have HY := Lib.hid hyy
    have HN := Lib.hid (fun (W' : World) (hb : Below W.heap.size W W') => rp_name (H.out.below hb).rd)
    rw [hnm] at HN
    have HS2 := Lib.hid hs2
    have HK := Lib.hid h3
    have F2 := H.out.bx.frozen 2
    clear hY hy2 hyy hs2 hnm h3
    go_enter Try.func23, Try.ntmps23
    go_wp2_with fail
    go_region_law
      (first
        | (go_simp; go_at_call 21; refine (HN.out _ (Below.refl _ _).drew).mono ?_; rintro e w1 ⟨rfl, hr1, ho1⟩; have H1 := Lib.hid ((H.out.below (Below.refl _ _).drew).call hr1 ho1); have HO1 := Lib.hid (OnlyX.of (x := x) (base := base) ((OnlyR.of (g := g) (Below.refl W.heap.size W).drew).trans ho1)); obtain ⟨_, _, e2, _, _, _, _⟩ := H1.out.bx.cell; have g2f := H1.out.bx.frozen 2; have L1 := Lib.hid (H1.out.below (one_new w1 (.cells #[.string nm] 9))); obtain ⟨_, _, m2, _, _, _, _⟩ := L1.out.bx.cell; have m2f := L1.out.bx.frozen 2; have q5 := fun b hb => (L1.out.hd.lt b hb).1; clear hr1 ho1)
        | (refine step_append_F el_Str _ (by rfl) _ _ (by rfl) base _ [] nm (by rfl) (by exact (OwnF.nil _ _)) ⟨w1.heap.size, 0, none⟩ _ (by rfl) (lit_F strC w1 nm _ _ rfl) (by simp) (by have := H1.out.sz; simp; omega) ?_; intro v' w6 hown' hb6 hgrow hor; obtain ⟨A6, c6, hv6⟩ := hown'.shape; simp only [List.nil_append, List.length_singleton] at hv6; subst hv6; have hbx := L1.out.boxGrown q5 hgrow; obtain ⟨_, _, k2, _, _, _, _⟩ := hbx.cell; have k2f := hbx.frozen 2; have H6 := Lib.hid (L1.out.head hgrow hown'); clear hbx))
    all_goals
      have h6 := H6.out.1
      have HO6 := Lib.hid ((HO1.out.trans (OnlyX.of (OnlyR.of (one_new w1 _)))).trans H6.out.2)
      have HMU := Lib.hid (rp_must h6.rd ⟨#[44]⟩)
      have HH6 := Lib.hid h6
      change Hid (Calls Try.prog 22 #[.pointer (some ⟨g, 0, none⟩), .string ⟨#[44]⟩] (w6.setCell ⟨x, 2, none⟩ (.slice A6 1 c6)) fun e w' => e = .returned (.tuple #[]) ∧ RdP w' g t c ls (mustR ls (nmS ls s) wComma) ∧ OnlyR g (w6.setCell ⟨x, 2, none⟩ (.slice A6 1 c6)) w') at HMU
      rw [HS2.out] at HMU
      clear h6 H6 hown' hb6 hgrow hor
      go_wp2_with fail
      refine HMU.out.mono ?_
      rintro e w8 ⟨rfl, hr8, ho8⟩
      have h8 := HH6.out.call hr8 ho8
      have HO8 := Lib.hid (HO6.out.trans (OnlyX.of ho8))
      have hg := rp_agg h8
      simp only [HK.out, HAG.out, HOF.out] at hg
      obtain ⟨R2, hR2⟩ : ∃ R2 : RuP, R2 = { r with head := [] ++ [nm], ag := agA ls s2 3 0, ofv := agO ls s2 3 ⟨#[]⟩ } := ⟨_, rfl⟩
      have hR3 : r.with ⟨[nm], agA ls s2 3 0, agO ls s2 3 ⟨#[]⟩, if aggJ ls s2 = 0 then failR s2 7 (nowR ls s2).a else agS ls s2 3⟩ = R2 := by rw [hR2]; rfl
      have HR3 := Lib.hid hR3
      have HG : Hid (Calls Try.prog 40 #[.pointer (some ⟨g, 0, none⟩), .pointer (some ⟨x, 0, none⟩)] w8 fun e W' => e = .returned (.bool (decide (aggJ ls s2 ≠ 0))) ∧ XSt W' g x t c base ls (agS ls s2 3) R2 (.slice A6 1 c6) bv ∧ OnlyX g x base w8 W') := Lib.hid (by
        rw [hR2]
        simp only [HK.out]
        exact hg)
      clear hr8 ho8 h8 hg HH6 HMU hR2 hR3
      by_cases hj : aggJ ls s2 = 0
      · have hq : decide (aggJ ls s2 ≠ 0) = false := by rw [hj]; rfl
        rw [hq, (ag_none hj 3 0).1] at HG
        rw [if_pos hj] at HY HR3
        obtain ⟨⟨yk, yb, ⟨zk, zf, zn, zt⟩, ya⟩, hX⟩ : ∃ z, nowR ls s2 = z := ⟨_, rfl⟩
        have HXN := Lib.hid hX
        have r3 := field_at3 yk yb zk zf zn zt ya
        rw [hX] at HY HR3
        clear hq hj hX
        go_wp2_with fail
        refine HG.out.mono ?_
        rintro e w9 ⟨rfl, hx9, ho9⟩
        have H9 := Lib.hid hx9
        have HO9 := Lib.hid (HO8.out.trans ho9)
        have HNW := Lib.hid (rp_now' hx9.rd HXN.out)
        clear hx9 ho9 HG
        go_wp2_with fail
        refine HNW.out.mono ?_
        rintro e w10 ⟨rfl, hb10⟩
        have H10 := Lib.hid (H9.out.below hb10)
        have HO10 := Lib.hid (HO9.out.trans (OnlyX.of (OnlyR.of hb10)))
        have HF := Lib.hid (rp_fail H10.out.rd 7 ya)
        clear hb10 HNW
        go_wp2_with fail
        refine HF.out.mono ?_
        rintro e w11 ⟨rfl, hr11, ho11⟩
        have H11 := Lib.hid (H10.out.call hr11 ho11)
        have HO11 := Lib.hid (HO10.out.trans (OnlyX.of ho11))
        clear hr11 ho11 HF
        go_wp2
        refine bodyPost_ret (results_none rfl _ _ _) rfl ?_
        exact ⟨rfl, ⟨_, by rw [HY.out, HR3.out]; exact H11.out⟩, HO11.out⟩
      · have hq : decide (aggJ ls s2 ≠ 0) = true := by rw [decide_eq_true_eq]; exact hj
        rw [hq] at HG
        rw [if_neg hj] at HY HR3
        clear hq hj
        go_wp2_with fail
        refine HG.out.mono ?_
        rintro e w9 ⟨rfl, hx9, ho9⟩
        have H9 := Lib.hid hx9
        have HO9 := Lib.hid (HO8.out.trans ho9)
        clear hx9 ho9 HG
        go_wp2
        refine bodyPost_ret (results_none rfl _ _ _) rfl ?_
        exact ⟨rfl, ⟨_, by rw [HY.out, HR3.out]; exact H9.out⟩, HO9.out⟩
  · have b1 : (r.k == 3) = false := by simpa using h3
    have hy2 : Y = hdF ls r.k 400 ⟨[], 0, ⟨#[]⟩, s⟩ := by rw [hY]; unfold hdR; rw [if_neg h3]
    have HY := Lib.hid hy2
    have hr0 : r.with ⟨[], 0, ⟨#[]⟩, s⟩ = r := by
      have e1 := HH.out
      have e2 := HAG.out
      have e3 := HOF.out
      cases r
      simp only at e1 e2 e3
      subst e1 e2 e3
      rfl
    have HR0 := Lib.hid hr0
    clear hY h3 hy2 hr0
    go_enter Try.func23, Try.ntmps23
    go_wp2
    go_loopw [4] (fun i wr => ∃ (k : Nat) (y : HdP) (hv : Value), i = .int .i64 k ∧ k ≤ 400 ∧ y.h.length ≤ k ∧ XSt wr g x t c base ls y.s (r.with y) hv bv ∧ Hid (Y = hdF ls r.k (400 - k) y) ∧ OnlyX g x base W wr) (fun i _ => 400 - (intOf i).toNat)
    case atStart => exact ⟨0, ⟨[], 0, ⟨#[]⟩, s⟩, .slice none 0 0, rfl, by omega, Nat.le_refl _, by rw [HR0.out]; exact H.out, Lib.hid HY.out, OnlyX.refl _ _ _ _⟩
    case round =>
      obtain ⟨k, y, hv, rfl, hk, hlk, hx, HA, ho⟩ := hrel
      have HO := Lib.hid ho
      have HX := Lib.hid hx
      obtain ⟨_, _, c2, _⟩ := hx.rd.cell
      obtain ⟨A, cc, hvv⟩ := hx.hd.shape
      subst hvv
      clear ho hx
      by_cases hk4 : k < 400
      · by_cases hy : y.s.why = 0
        · have HYW := Lib.hid hy
          rw [hy] at c2
          have HG := Lib.hid (rp_agg HX.out)
          by_cases hj : aggJ ls y.s = 0
          · have hq : decide (aggJ ls y.s ≠ 0) = false := by rw [hj]; rfl
            rw [hq, (ag_none hj r.k 0).1] at HG
            have hr1 : ({ r.with y with ag := agA ls y.s (r.with y).k (r.with y).ag, ofv := agO ls y.s (r.with y).k (r.with y).ofv } : RuP) = r.with y := by rw [ag_noneA hj, ag_noneO hj]
            rw [hr1] at HG
            obtain ⟨⟨yk, yb, ⟨zk, zf, zn, zt⟩, ya⟩, hX⟩ : ∃ z, nowR ls y.s = z := ⟨_, rfl⟩
            obtain ⟨s4, hs4⟩ : ∃ s4, s4 = if 40 ≤ y.h.length then failR (nmS ls y.s) 9 (nowR ls y.s).a else nmS ls y.s := ⟨_, rfl⟩
            have hgo := hdF_go ls r.k (400 - (k + 1)) y hy hj s4 hs4
            rw [show 400 - (k + 1) + 1 = 400 - k by omega] at hgo
            rw [hX] at hs4
            rw [hgo] at HA
            have HXN := Lib.hid hX
            have HS4 := Lib.hid hs4
            have r3 := field_at3 yk yb zk zf zn zt ya
            obtain ⟨nm, hnm⟩ : ∃ nm, nmV ls y.s = nm := ⟨_, rfl⟩
            rw [hnm] at HA
            have HNM := Lib.hid hnm
            clear hq hj hgo hX hs4 hnm hr1
            go_wp2_with fail
            refine HG.out.mono ?_
            rintro e w2 ⟨rfl, hx2, ho2⟩
            have H2 := Lib.hid hx2
            have HO2 := Lib.hid (HO.out.trans ho2)
            have HNW := Lib.hid (rp_now' hx2.rd HXN.out)
            clear hx2 ho2 HG
            go_wp2_with fail
            refine HNW.out.mono ?_
            rintro e w3 ⟨rfl, hb3⟩
            have H3 := Lib.hid (H2.out.below hb3)
            have HO3 := Lib.hid (HO2.out.trans (OnlyX.of (OnlyR.of hb3)))
            have HNN := Lib.hid (rp_name H3.out.rd)
            rw [HNM.out] at HNN
            clear hb3 HNW
            go_wp2_with fail
            refine HNN.out.mono ?_
            rintro e w4 ⟨rfl, hr4, ho4⟩
            have H4 := Lib.hid (H3.out.call hr4 ho4)
            have HO4 := Lib.hid (HO3.out.trans (OnlyX.of ho4))
            obtain ⟨_, _, d2, _, _, _, _⟩ := H4.out.bx.cell
            clear hr4 ho4 HNN
            by_cases hm : 40 ≤ y.h.length
            · have b4 : decide ((40 : Int) ≤ (y.h.length : Int)) = true := by rw [decide_eq_true_eq]; omega
              have hS := HS4.out
              rw [if_pos hm] at hS
              have HFL := rp_fail H4.out.rd 9 ya
              rw [← hS] at HFL
              have HFL := Lib.hid HFL
              have H4b := H4
              have HO4b := HO4
              clear hS HS4
              go_wp2_with fail
              refine HFL.out.mono ?_
              rintro e w5 ⟨rfl, hr5, ho5⟩
              have H5 := Lib.hid (H4b.out.call hr5 ho5)
              have HO5 := Lib.hid (HO4b.out.trans (OnlyX.of ho5))
              obtain ⟨_, _, d2, _, _, _, _⟩ := H5.out.bx.cell
              clear hr5 ho5 HFL H4 HO4 H4b HO4b
              have L5 := Lib.hid (H5.out.below (one_new w5 (.cells #[.string nm] 9)))
              have HTK := Lib.hid (fun W6 hv' s6 r6 (hx6 : XSt W6 g x t c base ls s6 r6 hv' bv) => rp_take hx6.rd ⟨#[44]⟩)
              have q1 := L5.out.hd
              have q2 := lit_F strC w5 nm #[.string nm] 9 rfl
              have q3 : y.h.length ≤ 1000000 := by omega
              have q4 := L5.out.sz
              have q5 := fun b hb => (L5.out.hd.lt b hb).1
              go_wp2_with (at_builtin; refine wp_append_F el_Str _ rfl (.tmp 66) (.tmp 68) rfl base _ y.h nm rfl q1 ⟨w5.heap.size, 0, none⟩ 1 rfl q2 q3 q4 ?_; intro v' w6 hown' hb6 hgrow hor; obtain ⟨A6, c6, hv6⟩ := hown'.shape; rw [List.length_append, List.length_singleton] at hv6; subst hv6; have hbx := L5.out.boxGrown q5 hgrow; obtain ⟨_, _, e2, _, _, _, _⟩ := hbx.cell; have e2f := hbx.frozen 2; have H6 := Lib.hid (L5.out.head hgrow hown'); clear hbx)
              clear q1 q2 q3 q4 q5
              have h6 := H6.out.1
              have HO6 := Lib.hid ((HO5.out.trans (OnlyX.of (OnlyR.of (one_new w5 _)))).trans H6.out.2)
              have HT6 := Lib.hid (rp_take h6.rd ⟨#[44]⟩)
              change Hid (Calls Try.prog 18 #[.pointer (some ⟨g, 0, none⟩), .string ⟨#[44]⟩] (w6.setCell ⟨x, 2, none⟩ (.slice A6 (y.h.length + 1) c6)) fun e w' => e = .returned (.bool (isR ls s4 wComma)) ∧ RdP w' g t c ls (takeR ls s4 wComma) ∧ OnlyR g (w6.setCell ⟨x, 2, none⟩ (.slice A6 (y.h.length + 1) c6)) w') at HT6
              have HTQ : Hid (takeR ls s4 wComma = if isR ls s4 wComma = true then stepR ls s4 else s4) := Lib.hid rfl
              generalize takeR ls s4 wComma = s8 at *
              generalize isR ls s4 wComma = p2 at *
              clear hown' hb6 hgrow hor h6 HTK
              refine HT6.out.mono ?_
              rintro e w8 ⟨rfl, hr8, ho8⟩
              have H8 := Lib.hid (H6.out.1.call hr8 ho8)
              have HO8 := Lib.hid (HO6.out.trans (OnlyX.of ho8))
              clear hr8 ho8 HT6
              cases p2 with
              | true =>
                rw [if_pos rfl] at HA HTQ
                rw [HTQ.out] at H8
                go_wp2
                go_roundw
                case rel => exact ⟨k + 1, ⟨y.h ++ [nm], y.ag, y.ofv, stepR ls s4⟩, _, by go_num, by omega, by rw [List.length_append]; simp; omega, H8.out, HA, HO8.out⟩
                case measure => simp [intOf]; omega
              | false =>
                rw [if_neg Bool.false_ne_true] at HA HTQ
                rw [HTQ.out] at H8
                go_wp2
                refine bodyPost_ret (results_none rfl _ _ _) rfl ?_
                exact ⟨rfl, ⟨_, by rw [HA.out]; exact H8.out⟩, HO8.out⟩
            · have b4 : decide ((40 : Int) ≤ (y.h.length : Int)) = false := by rw [decide_eq_false_iff_not]; omega
              have hS := HS4.out
              rw [if_neg hm] at hS
              rw [← hS] at H4
              clear hS
              have L4 := Lib.hid (H4.out.below (one_new w4 (.cells #[.string nm] 9)))
              have HTK := Lib.hid (fun W6 hv' s6 r6 (hx6 : XSt W6 g x t c base ls s6 r6 hv' bv) => rp_take hx6.rd ⟨#[44]⟩)
              have q1 := L4.out.hd
              have q2 := lit_F strC w4 nm #[.string nm] 9 rfl
              have q3 : y.h.length ≤ 1000000 := by omega
              have q4 := L4.out.sz
              have q5 := fun b hb => (L4.out.hd.lt b hb).1
              go_wp2_with (at_builtin; refine wp_append_F el_Str _ rfl (.tmp 66) (.tmp 68) rfl base _ y.h nm rfl q1 ⟨w4.heap.size, 0, none⟩ 1 rfl q2 q3 q4 ?_; intro v' w6 hown' hb6 hgrow hor; obtain ⟨A6, c6, hv6⟩ := hown'.shape; rw [List.length_append, List.length_singleton] at hv6; subst hv6; have hbx := L4.out.boxGrown q5 hgrow; obtain ⟨_, _, e2, _, _, _, _⟩ := hbx.cell; have e2f := hbx.frozen 2; have H6 := Lib.hid (L4.out.head hgrow hown'); clear hbx)
              clear q1 q2 q3 q4 q5
              have h6 := H6.out.1
              have HO6 := Lib.hid ((HO4.out.trans (OnlyX.of (OnlyR.of (one_new w4 _)))).trans H6.out.2)
              have HT6 := Lib.hid (rp_take h6.rd ⟨#[44]⟩)
              change Hid (Calls Try.prog 18 #[.pointer (some ⟨g, 0, none⟩), .string ⟨#[44]⟩] (w6.setCell ⟨x, 2, none⟩ (.slice A6 (y.h.length + 1) c6)) fun e w' => e = .returned (.bool (isR ls s4 wComma)) ∧ RdP w' g t c ls (takeR ls s4 wComma) ∧ OnlyR g (w6.setCell ⟨x, 2, none⟩ (.slice A6 (y.h.length + 1) c6)) w') at HT6
              have HTQ : Hid (takeR ls s4 wComma = if isR ls s4 wComma = true then stepR ls s4 else s4) := Lib.hid rfl
              generalize takeR ls s4 wComma = s8 at *
              generalize isR ls s4 wComma = p2 at *
              clear hown' hb6 hgrow hor h6 HTK
              refine HT6.out.mono ?_
              rintro e w8 ⟨rfl, hr8, ho8⟩
              have H8 := Lib.hid (H6.out.1.call hr8 ho8)
              have HO8 := Lib.hid (HO6.out.trans (OnlyX.of ho8))
              clear hr8 ho8 HT6
              cases p2 with
              | true =>
                rw [if_pos rfl] at HA HTQ
                rw [HTQ.out] at H8
                go_wp2
                go_roundw
                case rel => exact ⟨k + 1, ⟨y.h ++ [nm], y.ag, y.ofv, stepR ls s4⟩, _, by go_num, by omega, by rw [List.length_append]; simp; omega, H8.out, HA, HO8.out⟩
                case measure => simp [intOf]; omega
              | false =>
                rw [if_neg Bool.false_ne_true] at HA HTQ
                rw [HTQ.out] at H8
                go_wp2
                refine bodyPost_ret (results_none rfl _ _ _) rfl ?_
                exact ⟨rfl, ⟨_, by rw [HA.out]; exact H8.out⟩, HO8.out⟩
          · have hq : decide (aggJ ls y.s ≠ 0) = true := by rw [decide_eq_true_eq]; exact hj
            rw [hq] at HG
            have hgo := hdF_agg ls r.k (400 - (k + 1)) y hy hj
            rw [show 400 - (k + 1) + 1 = 400 - k by omega] at hgo
            have HGO := Lib.hid hgo
            clear hq hgo hj hy
            go_wp2_with fail
            refine HG.out.mono ?_
            rintro e w2 ⟨rfl, hx2, ho2⟩
            have HX2 := Lib.hid hx2
            have HO2 := Lib.hid (HO.out.trans ho2)
            clear hx2 ho2 HG
            go_wp2
            refine bodyPost_ret (results_none rfl _ _ _) rfl ?_
            exact ⟨rfl, ⟨_, by rw [HA.out, HGO.out]; exact HX2.out⟩, HO2.out⟩
        · have hy' : (y.s.why == 0) = false := by simpa using hy
          have HS := Lib.hid (hdF_stop ls r.k (400 - k) y hy)
          clear hy
          go_wp2
          refine bodyPost_end (results_none rfl _ _ _) rfl ?_
          exact ⟨rfl, ⟨_, by rw [HA.out, HS.out]; exact HX.out⟩, HO.out⟩
      · have h0 : 400 - k = 0 := by omega
        rw [h0] at HA
        have HS : Hid (hdF ls r.k 0 y = y) := Lib.hid rfl
        clear h0
        go_wp2
        refine bodyPost_end (results_none rfl _ _ _) rfl ?_
        exact ⟨rfl, ⟨_, by rw [HA.out, HS.out]; exact HX.out⟩, HO.out⟩
end Go.Proofs.Ythdjkagodccdbaa
