/-
  The program's Deep.
  No condition but that rules are few, and names no longer than they can be.
-/
import Derived.Test.YtojpccngcicbmaaYw
namespace Go.Proofs.Ytojpccngcicbmaa
open Go.RowKit Go.Maps

/-- A function value is stored as any other. -/
theorem run_store_fn {P : Program} {w : World} {a : Addr} {m : Mode} (f : Fn) (x y : Array Value) : (store a (.func f x y) m).run P w = stored P w a (.func f x y) m := run_store P w a _ m rfl
attribute [local go_sem] run_store_fn

set_option maxRecDepth 100000 in
set_option maxHeartbeats 4000000 in
theorem p_Deep (l : List Rl) (B : Option Addr) (d : Nat) (nm : ByteArray) (w : World) (hl : l.length ≤ 100) (hA : RlsAt w B l) (hsz : ∀ r ∈ l, r.nm.size ≤ maxLen) (hnm : nm.size ≤ maxLen) :
    Calls Try.prog 14 #[.string nm, .slice B l.length d] w fun e w' => e = .returned (.int .i64 (deepL l nm : Nat)) ∧ Below w.heap.size w w' := by
  have HO := Lib.hid (p_Order l B d w hl hA hsz)
  have HST := Lib.hid (fun W (hb : Below w.heap.size w W) => p_stands l B d W hl (hA.below hb) hsz)
  have H40 : Hid (∀ r ∈ l, r.asks.length ≤ 40) := Lib.hid fun r hr => by
    obtain ⟨i, hi, e⟩ := List.getElem_of_mem hr
    obtain ⟨_, _, _, _, h2, _⟩ := hA i r (e ▸ List.getElem?_eq_getElem hi)
    exact Nat.le_trans r.asks_len h2
  have HSZ := Lib.hid hsz
  clear hA hsz
  by_cases h0 : (orderL l).2 = 0
  · obtain ⟨hl12, hd, hg, hfull⟩ := order_good h0
    have HG := Lib.hid hg
    have HD := Lib.hid hd
    have HF := Lib.hid hfull
    have H0 := Lib.hid h0
    clear hg hd hfull
    go_enter Try.func14, Try.ntmps14
    go_wp2_with fail
    refine HO.out.mono ?_
    rintro e w1 ⟨v, rfl, hv, hb1⟩
    rw [h0]
    have HB1 := Lib.hid hb1
    have HS1 := Lib.hid (HST.out w1 hb1)
    obtain ⟨Av, cv, hv'⟩ := hv.form
    subst hv'
    clear hb1 h0 hv
    go_wp2_with fail
    refine HS1.out.mono ?_
    rintro e w2 ⟨b, S, rfl, hmap, hbb, hkeys, hlists, hb2⟩
    have hon := one_new w2 (.cells #[.map (some b)] 49)
    have n0 := new_cellT w2 #[.map (some b)] 49 0
    have hmap2 := hmap.below hon
    have hlk := look_M2 hmap2 nm hnm
    rw [hkeys nm] at hlk
    have HM2 := Lib.hid hmap2
    have HK := Lib.hid hkeys
    have HL := Lib.hid hlists
    have HB2 := Lib.hid ((HB1.out.trans (hb2.mono HB1.out.size)).trans (hon.mono (by have := HB1.out.size; have := hb2.size; omega)))
    have hs2 : w.heap.size ≤ w2.heap.size := by have := HB1.out.size; have := hb2.size; omega
    have HN0 := Lib.hid n0
    clear hmap hmap2 hkeys hlists hb2 hon hbb
    rcases Bool.eq_false_or_eq_true (hasX nm (nms l)) with hx | hx
    · rw [hx] at hlk
      have hin : nm ∈ (orderL l).1 := HG.out.full HD.out HF.out (hasX_iff.1 hx)
      obtain ⟨i, hi, hie⟩ := List.getElem_of_mem hin
      have HI := Lib.hid (show (orderL l).1[i]? = some nm by rw [List.getElem?_eq_getElem hi, hie])
      have HE := Lib.hid (deepL_at H0.out hx)
      clear hx hin hi hie
      have bx := Boxed.new (w2.alloc (.cells #[.map (some b)] 49)) 64 (.func (.func 34) #[] #[.pointer (some ⟨w2.heap.size, 0, none⟩), .pointer (some ⟨w2.heap.size + 1, 0, none⟩)])
      rw [World.size_alloc] at bx
      have hb3 := one_new (w2.alloc (.cells #[.map (some b)] 49)) (.cells #[.func (.func 34) #[] #[.pointer (some ⟨w2.heap.size, 0, none⟩), .pointer (some ⟨w2.heap.size + 1, 0, none⟩)]] 64)
      have cF := bx.cell
      have HDB := Lib.hid (show DeepB w2.heap.size (w2.heap.size + 1) w1.heap.size b S _ from ⟨(hb3.cell (p := ⟨w2.heap.size, 0, none⟩) (by rw [World.size_alloc]; exact Nat.lt_succ_self _)).trans HN0.out, HM2.out.below hb3, cF⟩)
      have HB3 := Lib.hid (HB2.out.trans (hb3.mono HB2.out.size))
      clear hb3 bx
      have HDP := Lib.hid (fun W hB => p_deep1 l hl12 HD.out HSZ.out H40.out S HK.out HL.out (orderL l).1 HG.out HF.out w2.heap.size (w2.heap.size + 1) w1.heap.size b i nm HI.out W hB)
      go_wp2_with fail
      refine (HDP.out _ HDB.out).mono ?_
      rintro e w4 ⟨rfl, hb4⟩
      have HB4 := Lib.hid (HB3.out.trans (hb4.mono HB3.out.size))
      clear hb4
      go_wp2
      go_ret
      rw [HE.out]
      exact ⟨rfl, HB4.out⟩
    · rw [hx] at hlk
      have HE := Lib.hid (deepL_none hx)
      clear hx
      go_wp2
      go_ret
      rw [HE.out]
      exact ⟨rfl, HB2.out⟩
  · have hz : ((orderL l).2 == 0) = false := by simpa using h0
    have HE := Lib.hid (deepL_no h0 (s := nm))
    rw [HE.out]
    generalize orderL l = ol at *
    go_enter Try.func14, Try.ntmps14
    go_wp2_with fail
    refine HO.out.mono ?_
    rintro e w1 ⟨v, rfl, hv, hb1⟩
    obtain ⟨Av, cv, hv'⟩ := hv.form
    subst hv'
    have HB1 := Lib.hid hb1
    clear hb1 hv
    go_wp2
    go_ret
    exact ⟨rfl, HB1.out⟩
end Go.Proofs.Ytojpccngcicbmaa
