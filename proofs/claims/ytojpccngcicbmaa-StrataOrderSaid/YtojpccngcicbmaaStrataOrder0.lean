/-
  StrataOrder: the whole way.
  Condition: what lies in memory as rules of any number.
-/
import Derived.Test.YtojpccngcicbmaaYaa
import Derived.Test.YtojpccngcicbmaaYi
import Derived.BigQuiet
import Derived.Deep.Cut
namespace Go.Proofs.Ytojpccngcicbmaa
open Go.RowKit Go.Maps

set_option maxRecDepth 100000 in
set_option maxHeartbeats 16000000 in
theorem strataOrder_all (l : List Rl) (A : Option Addr) (c : Nat) (w : World) (hA : RlfsAt w A l) (hl : l.length ≤ maxLen) :
    Calls Try.prog 4 #[.slice A l.length c] w fun e w' => e = .returned (.bool true) ∧ Below w.heap.size w w' := by
  have HA := Lib.hid hA
  have HF := Lib.hid (lw_few l A c w hA hl)
  have HKN := Lib.hid lw_known
  have HNM : Hid (∀ r ∈ l, r.nm.size ≤ maxLen) := Lib.hid fun r hr => by
    obtain ⟨i, hi, e⟩ := List.getElem_of_mem hr
    obtain ⟨_, _, _, h⟩ := hA i r (e ▸ List.getElem?_eq_getElem hi)
    exact h.2.2.2.2.2.1
  clear hA hl
  go_enter Try.func4, Try.ntmps4
  go_wp2_with fail
  refine HF.out.mono ?_
  rintro e w1 ⟨q, rfl, hq, hb1⟩
  have HB1 := Lib.hid hb1
  clear hb1 HF
  cases q with
  | false =>
    clear hq
    go_wp2_with fail
    refine (HKN.out w1).mono ?_
    rintro e w2 ⟨rfl, hb2⟩
    have HB2 := Lib.hid (HB1.out.trans (hb2.mono HB1.out.size))
    clear hb2
    go_wp2
    go_ret
    exact ⟨rfl, HB2.out⟩
  | true =>
    have hfew := hq rfl
    have hl16 : l.length ≤ 16 := hfew.1
    have HR := Lib.hid (HA.out.rls hfew)
    have H40 : Hid (∀ r ∈ l, ∀ W, RlsAt W A l → r.Ok W) := Lib.hid fun r hr W hW => by
      obtain ⟨i, hi, e⟩ := List.getElem_of_mem hr
      obtain ⟨_, _, _, h⟩ := hW i r (e ▸ List.getElem?_eq_getElem hi)
      exact h
    have HO1 := Lib.hid (p_Order l A c w1 (by omega) (HR.out.below HB1.out) HNM.out)
    clear hq hfew
    go_wp2_with fail
    refine HO1.out.mono ?_
    rintro e w2 ⟨vx, rfl, hvx, hb2⟩
    have HB2 := Lib.hid (HB1.out.trans (hb2.mono HB1.out.size))
    have HVX := Lib.hid hvx
    obtain ⟨Ax, cx, hvx1, _, _, htx, hgx⟩ := hvx.slice
    subst hvx1
    have HTX := Lib.hid htx
    have HGX := Lib.hid hgx
    have hs2 := HB2.out.size
    clear hb2 hvx htx hgx HO1
    go_wp2
    go_loopw [5, 6] (fun v i wr => ∃ k : Nat, i = .int .i64 k ∧ k ≤ l.length ∧ OwnR wr w2.heap.size v (l.drop k).reverse ∧ Below w2.heap.size w2 wr) (fun _ i _ => (intOf i).toNat)
    case atStart => exact ⟨l.length, rfl, Nat.le_refl _, by rw [List.drop_length]; exact OwnR.nil _ _, Below.refl _ _⟩
    case round =>
      obtain ⟨k, rfl, hk, hown, hb⟩ := hrel
      have HB := Lib.hid hb
      have hsr := hb.size
      have HRr := Lib.hid (HR.out.below (HB2.out.trans (hb.mono hs2)))
      by_cases h0 : 0 < k
      · obtain ⟨j, rfl⟩ : ∃ j, k = j + 1 := ⟨k - 1, by omega⟩
        obtain ⟨r, hr⟩ : ∃ r, l[j]? = some r := ⟨_, List.getElem?_eq_getElem (by omega)⟩
        obtain ⟨a, ha, ⟨a0, a1, a2, a3, a4, a5, a6⟩, hok⟩ := HRr.out j r hr
        subst ha
        have hdr : (l.drop j).reverse = (l.drop (j + 1)).reverse ++ [r] := by
          rw [List.drop_eq_getElem_cons (by omega), List.reverse_cons]
          congr 2
          exact (List.getElem?_eq_some_iff.1 hr).2
        have HDR := Lib.hid hdr
        have HO := Lib.hid hown
        obtain ⟨Ab, cb, hvb⟩ := hown.form
        have hlen : (l.drop (j + 1)).reverse.length ≤ 16 := by rw [List.length_reverse, List.length_drop]; omega
        subst hvb
        clear hb hown hr hdr hok
        go_wp2_with (at_builtin; go_must (refine wp_append_R _ rfl (.tmp 28) (.tmp 34) rfl w2.heap.size _ (l.drop (j + 1)).reverse r rfl (World.ownsRow.alloc HO.out _) ⟨wr.heap.size, 0, none⟩ 1 rfl (lit_R wr r _) (by omega) (by simp; omega) ?_; intro v' w3 hown3 hb3))
        have HO3 := Lib.hid hown3
        have HB3 := Lib.hid ((HB.out.trans ((one_new wr (.cells #[.int .i64 r.k, .string r.nm, .slice r.hA r.hn r.hc, .int .i64 r.ag, .string r.ofv, .int .i64 r.lim, .slice r.bA r.b.length r.bc] 30)).mono hsr)).trans hb3)
        clear hown3 hb3 a0 a1 a2 a3 a4 a5 a6
        go_wp2
        go_roundw
        case rel => exact ⟨j, by go_num, by omega, by rw [HDR.out]; exact HO3.out, HB3.out⟩
        case measure => simp [intOf]
      · obtain rfl : k = 0 := by omega
        rw [List.drop_zero] at hown
        have hlr : l.reverse.length = l.length := List.length_reverse
        obtain ⟨Ab, cb, hvb, hbr⟩ := hown.rls (fun r hr => H40.out r (List.mem_reverse.1 hr) wr HRr.out)
        rw [hlr] at hvb
        subst hvb
        have hob := p_Order l.reverse Ab cb wr (by omega) hbr (fun r hr => HNM.out r (List.mem_reverse.1 hr))
        rw [hlr, ← orderL_perm (List.reverse_perm l).symm] at hob
        have HO2 := Lib.hid hob
        have HTXr := Lib.hid (HTX.out.below hb)
        have HB3 := Lib.hid (HB2.out.trans (hb.mono hs2))
        clear hob hbr hown hb hlr
        go_wp2_with fail
        refine HO2.out.mono ?_
        rintro e w4 ⟨vy, rfl, hvy, hb4⟩
        obtain ⟨Ay, cy, hvy1, _, _, hty, hgy⟩ := hvy.slice
        subst hvy1
        have HB4 := Lib.hid (HB3.out.trans (hb4.mono HB3.out.size))
        have HTX4 := Lib.hid (HTXr.out.below hb4)
        have hll : (orderL l).1.length ≤ 100 := by
          by_cases h : (orderL l).2 = 0
          · have := order_good h; omega
          · rw [order_empty h]; simp
        have HTT := Lib.hid (r_texts (orderL l).1 Ax Ay cx cy w4 (by omega) HTX4.out HGX.out hty hgy)
        clear hb4 hvy hty hgy HO2
        go_wp2_with fail
        refine HTT.out.mono ?_
        rintro e w5 ⟨rfl, hb5⟩
        have HB5 := Lib.hid (HB4.out.trans (hb5.mono HB4.out.size))
        have HTX5 := Lib.hid (HTX4.out.below hb5)
        have HR5 := Lib.hid (HR.out.below HB5.out)
        clear hb5 HTT
        by_cases hok : (orderL l).2 = 0
        · have H0 := Lib.hid hok
          rw [hok]
          clear hok
          have hlen : (orderL l).1.length = l.length := (order_good H0.out).2.2.2
          have HLEN := Lib.hid hlen
          have hs5 := HB5.out.size
          clear hlen
          go_wp2
          go_loopw [9] (fun i wr => ∃ k : Nat, i = .int .i64 k ∧ k ≤ l.length ∧ Below w5.heap.size w5 wr) (fun i _ => l.length - (intOf i).toNat)
          case atStart => exact ⟨0, rfl, Nat.zero_le _, Below.refl _ _⟩
          case round =>
            obtain ⟨k, rfl, hk, hb⟩ := hrel
            have HB := Lib.hid hb
            have hsr := hb.size
            by_cases hlt : k < l.length
            · obtain ⟨r, hr⟩ : ∃ r, l[k]? = some r := ⟨_, List.getElem?_eq_getElem hlt⟩
              have hrm := List.mem_of_getElem? hr
              obtain ⟨a, ha, ⟨a0, a1, a2, a3, a4, a5, a6⟩, hok⟩ := (HR5.out.below hb) k r hr
              subst ha
              have HAS := Lib.hid (p_Asks r wr hok)
              unfold Rl.cells at HAS
              have HSZ := Lib.hid (asks_size r hok.2.2)
              have h40 : r.asks.length ≤ 40 := Nat.le_trans r.asks_len hok.2.1
              have HN := Lib.hid (HNM.out r hrm)
              have HRG := Lib.hid (fun y hy hp => order_right H0.out hrm (y := y) hy hp)
              have HA1 := Lib.hid a1
              have HRX := Lib.hid (HR5.out.below hb)
              clear hb hok hr
              go_wp2_with fail
              refine HAS.out.mono ?_
              rintro e w6 ⟨Aa, ca, rfl, hta, haa, hb6⟩
              have HB6 := Lib.hid (HB.out.trans (hb6.mono hsr))
              have hs6 := hb6.size
              have halt := World.block_lt_of_cell? wr _ a1
              have c1 := (hb6.cell (p := { block := (a.add (k * 7)).block, off := (a.add (k * 7)).off + 1 }) halt).trans a1
              have HC1 := Lib.hid c1
              have HTA := Lib.hid hta
              have HRY := Lib.hid (HRX.out.below hb6)
              have HTY := Lib.hid (HTX5.out.below HB6.out)
              clear hta hb6 HAS HRX HA1 a0 a1 a2 a3 a4 a5 a6 c1 halt
              go_wp2
              go_loopw [11] (fun i wr2 => ∃ j : Nat, i = .int .i64 j ∧ j ≤ r.asks.length ∧ Below w6.heap.size w6 wr2) (fun i _ => r.asks.length - (intOf i).toNat)
              case atStart => exact ⟨0, rfl, Nat.zero_le _, Below.refl _ _⟩
              case round =>
                obtain ⟨j, rfl, hj, hb7⟩ := hrel
                have HB7 := Lib.hid hb7
                have hs7 := hb7.size
                by_cases hjl : j < r.asks.length
                · obtain ⟨y, hy⟩ : ∃ y, r.asks[j]? = some y := ⟨_, List.getElem?_eq_getElem hjl⟩
                  have hym := List.mem_of_getElem? hy
                  obtain ⟨g, rfl⟩ := TxsAt.head HTA.out haa (by omega)
                  have hyc := (HTA.out.below hb7).at j y hy
                  have HYC := Lib.hid hyc
                  have HP1 := Lib.hid (lw_place (orderL l).1 Ax cx y wr (by omega) (HTY.out.below hb7) HGX.out)
                  have HRT := Lib.hid (HRG.out y hym)
                  have HYS := Lib.hid (HSZ.out y hym)
                  clear hb7 hy
                  go_wp2_with fail
                  refine HP1.out.mono ?_
                  rintro e w8 ⟨rfl, hb8⟩
                  have HB8 := Lib.hid (HB7.out.trans (hb8.mono hs7))
                  have hs8 := HB8.out.size
                  have hblt := World.block_lt_of_cell? w6 _ HC1.out
                  have d1 := (HB8.out.cell (p := { block := (a.add (k * 7)).block, off := (a.add (k * 7)).off + 1 }) hblt).trans HC1.out
                  have hglt := World.block_lt_of_cell? wr _ HYC.out
                  have d2 := (hb8.cell (p := ⟨g, j, none⟩) hglt).trans HYC.out
                  have HPL := Lib.hid (fun (W : World) (h : Below w8.heap.size w8 W) => lw_place (orderL l).1 Ax cx r.nm W (by omega) ((HTY.out.below HB8.out).below h) HGX.out)
                  have HD1 := Lib.hid (fun (W : World) (h : Below w8.heap.size w8 W) => p_Deep l (some a) c y W (by omega) ((HRY.out.below HB8.out).below h) HNM.out HYS.out)
                  have HD2 := Lib.hid (fun (W : World) (h : Below w8.heap.size w8 W) => p_Deep l (some a) c r.nm W (by omega) ((HRY.out.below HB8.out).below h) HNM.out HN.out)
                  obtain ⟨XE, xf, hXN, hX1, hX0, hX2⟩ := ext_classY w8.heap.size w8 (Nat.le_refl _)
                  have HX1 := Lib.hid hX1
                  have HX2 := Lib.hid hX2
                  have hin := hX0 w8.drew (Below.drew (Below.refl _ _))
                  have hd1lt := World.block_lt_of_cell? w8 _ d1
                  have hd2lt := World.block_lt_of_cell? w8 _ d2
                  have b1 := fun e => (((HX1.out e).cell (p := { block := (a.add (k * 7)).block, off := (a.add (k * 7)).off + 1 }) hd1lt).trans d1 : (xf e).cell? ({ block := (a.add (k * 7)).block, off := (a.add (k * 7)).off + 1 }) = _)
                  have b2 := fun e => (((HX1.out e).cell (p := ⟨g, j, none⟩) hd2lt).trans d2 : (xf e).cell? ⟨g, j, none⟩ = _)
                  clear hX1 hX0 hX2 d1 d2 hb8 hyc HP1
                  generalize posS (orderL l).1 y = p1 at *
                  generalize posS (orderL l).1 r.nm = p2 at *
                  generalize deepL l y = e1 at *
                  generalize deepL l r.nm = e2 at *
                  by_cases hp : 0 ≤ p1
                  · obtain ⟨hlt1, hlt2⟩ := HRT.out hp
                    have i1 : decide (0 ≤ p1) = true := decide_eq_true hp
                    have i2 : decide (p2 ≤ p1) = false := decide_eq_false (by omega)
                    have i3 : decide ((e2 : Int) ≤ (e1 : Int)) = false := decide_eq_false (by omega)
                    clear HRT
                    go_wp2_with fail
                    refine wp_region_quiet (C := fun W => ∃ e, W = xf e) (by kernel_rfl) (by kernel_rfl) hin ?_
                    clear hin
                    dsimp only
                    iterate 25 (go_big_quiet_step (first | (go_at_call 16; refine (HPL.out _ (HX1.out _)).mono ?_; rintro e w9 ⟨rfl, hb9⟩; exact ⟨rfl, HX2.out _ _ hb9⟩) | (go_at_call 14; refine (HD1.out _ (HX1.out _)).mono ?_; rintro e w9 ⟨rfl, hb9⟩; exact ⟨rfl, HX2.out _ _ hb9⟩)))
                    clear HD1
                    repeat (go_big_quiet_step (first | (go_at_call 14; refine (HD2.out _ (HX1.out _)).mono ?_; rintro e w9 ⟨rfl, hb9⟩; exact ⟨rfl, HX2.out _ _ hb9⟩)))
                    refine wpQuiet_nil ?_
                    intro w9 hW9
                    obtain ⟨ee, hW9⟩ := hW9
                    have hb9 : Below w8.heap.size w8 w9 := by rw [hW9]; exact HX1.out ee
                    clear hW9
                    have HB9 := Lib.hid (HB8.out.trans (hb9.mono hs8))
                    clear hb9 b1 b2
                    go_wp2
                    go_roundw
                    case rel => exact ⟨j + 1, by go_num, by omega, HB9.out⟩
                    case measure => simp [intOf]; omega
                  · have i1 : decide (0 ≤ p1) = false := decide_eq_false hp
                    clear HRT
                    go_wp2_with fail
                    refine wp_region_quiet (C := fun W => ∃ e, W = xf e) (by kernel_rfl) (by kernel_rfl) hin ?_
                    clear hin
                    dsimp only
                    repeat (go_big_quiet_step (fail))
                    refine wpQuiet_nil ?_
                    intro w9 hW9
                    obtain ⟨ee, hW9⟩ := hW9
                    have hb9 : Below w8.heap.size w8 w9 := by rw [hW9]; exact HX1.out ee
                    clear hW9
                    have HB9 := Lib.hid (HB8.out.trans (hb9.mono hs8))
                    clear hb9 b1 b2
                    go_wp2
                    go_roundw
                    case rel => exact ⟨j + 1, by go_num, by omega, HB9.out⟩
                    case measure => simp [intOf]; omega
                · have HB8 := Lib.hid (HB6.out.trans (HB7.out.mono (by have := HB6.out.size; omega)))
                  clear hb7
                  go_wp2
                  go_roundw
                  case rel => exact ⟨k + 1, by go_num, by omega, HB8.out⟩
                  case measure => simp [intOf]; omega
            · have hl0 : (((orderL l).1.length : Int) == (l.length : Int)) = true := by rw [HLEN.out]; simp
              have HBz := Lib.hid (HB5.out.trans (hb.mono hs5))
              clear hb
              go_wp2_with fail
              refine (HKN.out wr).mono ?_
              rintro e w6 ⟨rfl, hb6⟩
              have HB6 := Lib.hid (HBz.out.trans (hb6.mono HBz.out.size))
              clear hb6
              go_wp2
              go_ret
              exact ⟨rfl, HB6.out⟩
        · have hne : ((orderL l).2 != 0) = true := by simpa using hok
          have hemp : ((orderL l).1.length : Int) = 0 := by rw [order_empty hok]; rfl
          clear hok
          go_wp2_with fail
          refine (HKN.out w5).mono ?_
          rintro e w6 ⟨rfl, hb6⟩
          have HB6 := Lib.hid (HB5.out.trans (hb6.mono HB5.out.size))
          clear hb6
          go_wp2
          go_ret
          exact ⟨rfl, HB6.out⟩
end Go.Proofs.Ytojpccngcicbmaa
