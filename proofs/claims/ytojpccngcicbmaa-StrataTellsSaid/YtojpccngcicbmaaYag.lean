/-
  The document's Deep: the walk.
  No condition but that rules are few, and names no longer than they can be.
-/
import Derived.Test.YtojpccngcicbmaaYaf
import Derived.Test.YtojpccngcicbmaaYo
namespace Go.Proofs.Ytojpccngcicbmaa
open Go.RowKit Go.Maps

set_option maxRecDepth 100000 in
set_option maxHeartbeats 4000000 in
theorem r_Deep (l : List Rl) (B : Option Addr) (d : Nat) (nm : ByteArray) (w : World) (hl : l.length ≤ 100) (hA : RlsAt w B l) (hsz : ∀ r ∈ l, r.nm.size ≤ maxLen) :
    Calls Try.prog 15 #[.string nm, .slice B l.length d] w fun e w' => e = .returned (.int .i64 (deepL l nm : Nat)) ∧ Below w.heap.size w w' := by
  have HO := Lib.hid (r_Order l B d w hl hA hsz)
  have HA := Lib.hid hA
  have HFI := Lib.hid (fun (s : ByteArray) (W : World) (hb : Below w.heap.size w W) => r_find l B d s W (by omega) (hA.below hb))
  clear hA hsz
  by_cases h0 : (orderL l).2 = 0
  · obtain ⟨hl12, hd, hg, hfull⟩ := order_good h0
    have HG := Lib.hid hg
    have HD := Lib.hid hd
    have HF := Lib.hid hfull
    have H0 := Lib.hid h0
    clear hg hd hfull
    go_enter Try.func15, Try.ntmps15
    go_wp2_with fail
    refine HO.out.mono ?_
    rintro e w1 ⟨Ao, co, rfl, hto, hgo, hb1⟩
    rw [h0]
    have HB1 := Lib.hid hb1
    have HTO := Lib.hid hto
    have HGO := Lib.hid hgo
    have HF1 := Lib.hid (HFI.out nm w1 hb1)
    clear hb1 h0 hto hgo HO
    go_wp2_with fail
    refine HF1.out.mono ?_
    rintro e w2 ⟨rfl, hb2⟩
    have HB2 := Lib.hid (HB1.out.trans (hb2.mono HB1.out.size))
    have HTO2 := Lib.hid (HTO.out.below hb2)
    clear hb2 HF1
    rcases Bool.eq_false_or_eq_true (hasX nm (nms l)) with hx | hx
    · obtain ⟨pn, rn, hrn, hnn, hpn⟩ := place_of HD.out hx
      have HRN := Lib.hid hrn
      have HX := Lib.hid hx
      have hpl := (List.getElem?_eq_some_iff.1 hrn).1
      have HPN := Lib.hid hpn
      have HNN := Lib.hid hnn
      rw [hpn]
      have i0 : decide ((pn : Int) < 0) = false := decide_eq_false (by omega)
      have hmk := make_I l.length (by omega) w2
      have HI0 := Lib.hid (new_I w2 l.length)
      have HBM : Hid (Below w2.heap.size w2 (w2.alloc (.cells (madeCells #[.int .i64 0] l.length) 3))) := Lib.hid (one_new w2 _)
      have hs2 := HB2.out.size
      clear hrn hnn hx hpn
      generalize hml : madeCells #[Value.int IntKind.i64 0] l.length = mc at *
      clear hml
      go_wp2
      clear hmk
      go_loopw [8] (fun i wr => ∃ k : Nat, i = .int .i64 k ∧ k ≤ (orderL l).1.length ∧ IntsB wr w2.heap.size l.length (depAt l (orderL l).1 k) ∧ Below w2.heap.size w2 wr) (fun i _ => (orderL l).1.length - (intOf i).toNat)
      case atStart => exact ⟨0, rfl, Nat.zero_le _, by rw [depAt_zero]; exact HI0.out, HBM.out⟩
      case round =>
        obtain ⟨k, rfl, hk, hI, hb⟩ := hrel
        have HB := Lib.hid hb
        have HI := Lib.hid hI
        have hsr := hb.size
        have hglt := hI.lt
        by_cases hlt : k < (orderL l).1.length
        · obtain ⟨s, hs⟩ : ∃ s, (orderL l).1[k]? = some s := ⟨_, List.getElem?_eq_getElem hlt⟩
          obtain ⟨go, rfl⟩ := TxsAt.head HTO2.out HGO.out (by omega)
          have hsc := (HTO2.out.below hb).at k s hs
          have HS := Lib.hid hs
          have hsn : hasX s (nms l) = true := hasX_iff.2 (HG.out.names s (List.mem_of_getElem? hs))
          obtain ⟨p, r, hr, hnr, hps⟩ := place_of HD.out hsn
          subst hnr
          have HP := Lib.hid (HFI.out r.nm wr (HB2.out.trans (hb.mono hs2)))
          rw [hps] at HP
          have hpl := (List.getElem?_eq_some_iff.1 hr).1
          obtain ⟨a, ha, hrl, hok⟩ := (HA.out.below (HB2.out.trans (hb.mono hs2))) p r hr
          subst ha
          have HRL := Lib.hid hrl
          have HOK := Lib.hid hok
          have HR := Lib.hid hr
          have h40 : r.asks.length ≤ 40 := Nat.le_trans r.asks_len hok.2.1
          have hal : (orderL l).1.length ≤ 100 := by have := HF.out; omega
          have hdn : depAt l (orderL l).1 k p = 0 := by
            unfold depAt
            rw [hr]
            simp only
            rw [if_neg]
            intro h
            obtain ⟨q, hq, e⟩ := List.getElem_of_mem (hasX_iff.1 h)
            rw [List.length_take] at hq
            rw [List.getElem_take] at e
            have := nodup_inj HG.out.nodup (i := q) (j := k) (by omega) hlt (by rw [e]; exact ((List.getElem?_eq_some_iff.1 hs).2).symm)
            omega
          have HDN := Lib.hid hdn
          clear hb hI hs hsn hr hps hrl hok hdn
          go_wp2_with fail
          refine HP.out.mono ?_
          rintro e w3 ⟨rfl, hb3⟩
          obtain ⟨a0, a1, a2, a3, a4, a5, a6⟩ := HRL.out.below hb3
          have HB3 := Lib.hid (HB.out.trans (hb3.mono hsr))
          have HI3 := Lib.hid (HI.out.below hb3)
          have HAS := Lib.hid (r_asks r w3 (HOK.out.below hb3))
          unfold Rl.cells at HAS
          have hs3 := hb3.size
          clear hb3 hsc HP
          go_wp2_with fail
          refine HAS.out.mono ?_
          rintro e w4 ⟨Aa, ca, rfl, hta, haa, hb4⟩
          have HB4 := Lib.hid (HB3.out.trans (hb4.mono HB3.out.size))
          have hi4 := HI3.out.below hb4
          have e0 : (fun q => if q = p then topP l (r.asks.take 0) else depAt l (orderL l).1 k q) = depAt l (orderL l).1 k := by
            funext q
            by_cases e : q = p
            · subst e
              rw [if_pos rfl, HDN.out]
              rfl
            · rw [if_neg e]
          rw [← e0] at hi4
          have HI4 := Lib.hid hi4
          have HTA := Lib.hid hta
          clear hta hb4 HAS a0 a1 a2 a3 a4 a5 a6 hi4 e0
          go_wp2
          go_loopw [11] (fun i wr2 => ∃ j : Nat, i = .int .i64 j ∧ j ≤ r.asks.length ∧ IntsB wr2 w2.heap.size l.length (fun q => if q = p then topP l (r.asks.take j) else depAt l (orderL l).1 k q) ∧ TxsAt wr2 Aa r.asks ∧ Below w2.heap.size w2 wr2) (fun i _ => r.asks.length - (intOf i).toNat)
          case atStart => exact ⟨0, rfl, Nat.zero_le _, HI4.out, HTA.out, HB4.out⟩
          case round =>
            obtain ⟨j, rfl, hj, hI5, ht5, hb5⟩ := hrel
            have HB5 := Lib.hid hb5
            have HI5 := Lib.hid hI5
            have HT5 := Lib.hid ht5
            have hs5 := hb5.size
            by_cases hjl : j < r.asks.length
            · obtain ⟨y, hy⟩ : ∃ y, r.asks[j]? = some y := ⟨_, List.getElem?_eq_getElem hjl⟩
              obtain ⟨g, rfl⟩ := TxsAt.head ht5 haa (by omega)
              have hyc := ht5.at j y hy
              have HP2 := Lib.hid (HFI.out y wr (HB2.out.trans (hb5.mono hs2)))
              have HNX := Lib.hid (topP_next l r.asks j y hy)
              rcases Bool.eq_false_or_eq_true (hasX y (nms l)) with hyn | hyn
              · obtain ⟨p2, r2, hr2, hn2, hp2⟩ := place_of HD.out hyn
                rw [hp2] at HP2
                have hp2l := (List.getElem?_eq_some_iff.1 hr2).1
                rw [if_pos hyn] at HNX
                have hbel : y ∈ bel l r.nm := by
                  unfold bel
                  rw [asksN_at HD.out (List.mem_of_getElem? HR.out)]
                  exact List.mem_filter.2 ⟨List.mem_of_getElem? hy, hyn⟩
                obtain ⟨q0, hq0, hq1⟩ := HG.out.before HS.out hbel
                have hdy : depAt l (orderL l).1 k p2 = deepS l y := by
                  unfold depAt
                  rw [hr2]
                  simp only
                  rw [hn2, if_pos]
                  rw [hasX_iff]
                  exact List.mem_of_getElem? (l := (orderL l).1.take k) (i := q0) (by rw [List.getElem?_take_of_lt hq0]; exact hq1)
                have hpp : p2 ≠ p := fun e => by
                  subst e
                  have h1 : r2 = r := by have := hr2.symm.trans HR.out; injection this
                  rw [← hn2, h1] at hq1
                  obtain ⟨z1, z2⟩ := List.getElem?_eq_some_iff.1 hq1
                  obtain ⟨z3, z4⟩ := List.getElem?_eq_some_iff.1 HS.out
                  have := nodup_inj HG.out.nodup z1 z3 (z2.trans z4.symm)
                  omega
                have HDY := Lib.hid hdy
                have HPP := Lib.hid hpp
                have hle1 := topP_le l (r.asks.take j)
                have hle2 := deepS_le l y
                clear hb5 hI5 ht5 hy hyn hr2 hn2 hp2 hbel hq0 hq1 hdy
                go_wp2_with fail
                refine HP2.out.mono ?_
                rintro e w6 ⟨rfl, hb6⟩
                have HB6 := Lib.hid (HB5.out.trans (hb6.mono hs5))
                have hI6 := HI5.out.below hb6
                have HI6 := Lib.hid hI6
                have HT6 := Lib.hid (HT5.out.below hb6)
                have c1 := IntsB.cell (W := w6.drew) hI6 hpl
                rw [if_pos rfl] at c1
                have c2 := IntsB.cell (W := w6.drew) hI6 hp2l
                rw [if_neg hpp, HDY.out] at c2
                have f1 := IntsB.frozen (W := w6.drew) hI6 p
                have hmx : ((max (topP l (r.asks.take j)) (deepS l y) : Nat) : Int) = max ((topP l (r.asks.take j) : Nat) : Int) ((deepS l y : Nat) : Int) := by omega
                have hst := IntsB.set hI6 p (max (topP l (r.asks.take j)) (deepS l y))
                rw [hmx] at hst
                have e1 : (fun q => if q = p then max (topP l (r.asks.take j)) (deepS l y) else (if q = p then topP l (r.asks.take j) else depAt l (orderL l).1 k q)) = fun q => if q = p then topP l (r.asks.take (j + 1)) else depAt l (orderL l).1 k q := by
                  funext q
                  by_cases e : q = p
                  · rw [if_pos e, if_pos e, HNX.out]
                  · rw [if_neg e, if_neg e, if_neg e]
                rw [e1] at hst
                have HST := Lib.hid hst
                have HT7 := Lib.hid (str_apart hI6 HT6.out p (.int .i64 (max ((topP l (r.asks.take j) : Nat) : Int) ((deepS l y : Nat) : Int))))
                have HB7 := Lib.hid ((HB6.out.setCell (p := ⟨w2.heap.size, p, none⟩) (Nat.le_refl _) (.int .i64 (max ((topP l (r.asks.take j) : Nat) : Int) ((deepS l y : Nat) : Int)))).drew)
                clear hI6 hb6 hyc HP2 hmx hst e1
                go_wp2
                go_region_law (fail)
                all_goals
                  clear c1 c2 f1
                  go_wp2
                  go_roundw
                  case rel => exact ⟨j + 1, by go_num, by omega, HST.out, HT7.out, HB7.out⟩
                  case measure => simp [intOf]; omega
              · rw [posS_none hyn] at HP2
                rw [hyn, if_neg Bool.false_ne_true] at HNX
                clear hb5 hI5 ht5 hy hyn
                go_wp2_with fail
                refine HP2.out.mono ?_
                rintro e w6 ⟨rfl, hb6⟩
                have HB6 := Lib.hid (HB5.out.trans (hb6.mono hs5))
                have HI6 := Lib.hid (HI5.out.below hb6)
                have HT6 := Lib.hid (HT5.out.below hb6)
                clear hb6 hyc HP2
                go_wp2
                go_roundw
                case rel => exact ⟨j + 1, by go_num, by omega, by rw [HNX.out]; exact HI6.out, HT6.out, HB6.out⟩
                case measure => simp [intOf]; omega
            · have htk : r.asks.take j = r.asks := List.take_of_length_le (by omega)
              rw [htk] at hI5
              have c1 := hI5.cell hpl
              rw [if_pos rfl] at c1
              have f1 := hI5.frozen p
              have hle1 := topP_le l r.asks
              have hst := IntsB.set hI5 p (topP l r.asks + 1)
              have hcast : ((topP l r.asks + 1 : Nat) : Int) = (topP l r.asks : Int) + 1 := by omega
              rw [hcast] at hst
              have hdp : deepS l r.nm = topP l r.asks + 1 := by
                rw [deepS_eq HG.out HF.out HS.out, topP_bel]
                unfold bel
                rw [asksN_at HD.out (List.mem_of_getElem? HR.out)]
              have e1 : (fun q => if q = p then topP l r.asks + 1 else (if q = p then topP l r.asks else depAt l (orderL l).1 k q)) = depAt l (orderL l).1 (k + 1) := by
                rw [depAt_next HD.out HR.out HS.out, hdp]
                funext q
                by_cases e : q = p
                · rw [if_pos e, if_pos e]
                · rw [if_neg e, if_neg e, if_neg e]
              rw [e1] at hst
              have HST := Lib.hid hst
              have HB6 := Lib.hid (hb5.setCell (p := ⟨w2.heap.size, p, none⟩) (Nat.le_refl _) (.int .i64 ((topP l r.asks : Int) + 1)))
              clear hb5 hI5 ht5 hst e1 hdp htk hcast
              go_wp2
              go_roundw
              case rel => exact ⟨k + 1, by go_num, by omega, HST.out, HB6.out⟩
              case measure => simp [intOf]; omega
        · obtain rfl : k = (orderL l).1.length := by omega
          have HF2 := Lib.hid (HFI.out nm wr (HB2.out.trans (hb.mono hs2)))
          rw [HPN.out] at HF2
          have hdv : depAt l (orderL l).1 (orderL l).1.length pn = deepL l nm := by
            unfold depAt
            rw [HRN.out]
            simp only
            rw [List.take_of_length_le (Nat.le_refl _), HNN.out, if_pos (hasX_iff.2 (HG.out.full HD.out HF.out (hasX_iff.1 HX.out))), deepL_at H0.out HX.out]
          have HDV := Lib.hid hdv
          clear hb hI hdv
          go_wp2_with fail
          refine HF2.out.mono ?_
          rintro e w3 ⟨rfl, hb3⟩
          have hI3 := HI.out.below hb3
          have c1 := hI3.cell hpl
          rw [HDV.out] at c1
          have HB3 := Lib.hid (HB2.out.trans ((HB.out.trans (hb3.mono hsr)).mono hs2))
          clear hI3 hb3 HF2
          go_wp2
          go_ret
          exact ⟨rfl, HB3.out⟩
    · have hp := posS_none hx
      have HE := Lib.hid (deepL_none hx)
      rw [hp]
      clear hx
      go_wp2
      go_ret
      rw [HE.out]
      exact ⟨rfl, HB2.out⟩
  · have hz : ((orderL l).2 != 0) = true := by simpa using h0
    have HE := Lib.hid (deepL_no h0 (s := nm))
    rw [HE.out]
    generalize orderL l = ol at *
    go_enter Try.func15, Try.ntmps15
    go_wp2_with fail
    refine HO.out.mono ?_
    rintro e w1 ⟨Ao, co, rfl, hto, hgo, hb1⟩
    have HB1 := Lib.hid hb1
    clear hb1 hto hgo
    go_wp2
    go_ret
    exact ⟨rfl, HB1.out⟩
end Go.Proofs.Ytojpccngcicbmaa
