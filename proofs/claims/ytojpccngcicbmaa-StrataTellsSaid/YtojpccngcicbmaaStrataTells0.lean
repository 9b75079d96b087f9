/-
  StrataTells: the whole way.
  Condition: what lies in memory as rules of any number, and a name no longer than it can be.
-/
import Derived.Test.YtojpccngcicbmaaYaa
import Derived.Test.YtojpccngcicbmaaYag
import Derived.Test.YtojpccngcicbmaaYi
import Derived.Test.YtojpccngcicbmaaYm
import Derived.Deep.RegionHeld3
import Derived.Deep.Cut
namespace Go.Proofs.Ytojpccngcicbmaa
open Go.RowKit Go.Maps

theorem users_len (nm : ByteArray) (l : List Rl) : (usersS nm l).length ≤ l.length := by
  unfold usersS
  exact Nat.le_trans (asksS_len _) (by rw [ult_len]; exact Nat.le_refl _)

set_option maxRecDepth 100000 in
set_option maxHeartbeats 4000000 in
theorem strataTells_all (l : List Rl) (A : Option Addr) (c : Nat) (nm : ByteArray) (w : World) (hA : RlfsAt w A l) (hl : l.length ≤ maxLen) (hnm : nm.size ≤ maxLen) :
    Calls Try.prog 3 #[.slice A l.length c, .string nm] w fun e w' => e = .returned (.bool true) ∧ Below w.heap.size w w' := by
  have HA := Lib.hid hA
  have HF := Lib.hid (lw_few l A c w hA hl)
  have HKN := Lib.hid lw_known
  have HNM : Hid (∀ r ∈ l, r.nm.size ≤ maxLen) := Lib.hid fun r hr => by
    obtain ⟨i, hi, e⟩ := List.getElem_of_mem hr
    obtain ⟨_, _, _, h⟩ := hA i r (e ▸ List.getElem?_eq_getElem hi)
    exact h.2.2.2.2.2.1
  clear hA hl
  go_enter Try.func3, Try.ntmps3
  go_wp2_with fail
  refine HF.out.mono ?_
  rintro e w1 ⟨q, rfl, hq, hb1⟩
  have HB1 := Lib.hid hb1
  clear hb1 HF
  cases q with
  | false =>
    clear hq
    go_wp2_with fail
    refine (HKN.out w1).mono ?_
    rintro e w2 ⟨rfl, hb2⟩
    have HB2 := Lib.hid (HB1.out.trans (hb2.mono HB1.out.size))
    clear hb2
    go_wp2
    go_ret
    exact ⟨rfl, HB2.out⟩
  | true =>
    have hfew := hq rfl
    have hl16 : l.length ≤ 16 := hfew.1
    have HR := Lib.hid (fun W hb => (HA.out.rls hfew).below (w' := W) hb)
    have hs1 := HB1.out.size
    clear hq hfew
    go_wp2
    go_loopw [5] (fun i wr => ∃ k : Nat, i = .int .i64 k ∧ k ≤ l.length ∧ Below w1.heap.size w1 wr) (fun i _ => l.length - (intOf i).toNat)
    case atStart => exact ⟨0, rfl, Nat.zero_le _, Below.refl _ _⟩
    case round =>
      obtain ⟨k, rfl, hk, hb⟩ := hrel
      have HB := Lib.hid (HB1.out.trans (hb.mono hs1))
      have HBL := Lib.hid hb
      have hsr := hb.size
      by_cases hlt : k < l.length
      · obtain ⟨r, hr⟩ : ∃ r, l[k]? = some r := ⟨_, List.getElem?_eq_getElem hlt⟩
        obtain ⟨a, ha, hrl, hok⟩ := (HR.out wr HB.out) k r hr
        subst ha
        have HS : Hid (∀ W, Below wr.heap.size wr W → RlAt W (a.add (k * 7)) r) := Lib.hid fun W h => hrl.below h
        have HA1 : Hid (∀ W, Below wr.heap.size wr W → _) := Lib.hid fun W h => p_Asks r W (hok.below h)
        have HA2 : Hid (∀ W, Below wr.heap.size wr W → _) := Lib.hid fun W h => r_asks r W (hok.below h)
        unfold Rl.cells at HA1 HA2
        have h40 : r.asks.length ≤ 1000 := Nat.le_trans r.asks_len (by have := hok.2.1; omega)
        obtain ⟨a0, a1, a2, a3, a4, a5, a6⟩ := hrl
        clear hr hok hb
        go_wp2
        go_region_held3 (fun w' : World => w'.cell? (a.add (k * 7)) = some (.int .i64 r.k) ∧ w'.cell? { block := (a.add (k * 7)).block, off := (a.add (k * 7)).off + 1 } = some (.string r.nm) ∧ w'.cell? { block := (a.add (k * 7)).block, off := (a.add (k * 7)).off + 2 } = some (.slice r.hA r.hn r.hc) ∧ w'.cell? { block := (a.add (k * 7)).block, off := (a.add (k * 7)).off + 3 } = some (.int .i64 r.ag) ∧ w'.cell? { block := (a.add (k * 7)).block, off := (a.add (k * 7)).off + 4 } = some (.string r.ofv) ∧ w'.cell? { block := (a.add (k * 7)).block, off := (a.add (k * 7)).off + 5 } = some (.int .i64 r.lim) ∧ w'.cell? { block := (a.add (k * 7)).block, off := (a.add (k * 7)).off + 6 } = some (.slice r.bA r.b.length r.bc)) (go_keep)
          (first
            | (go_at_call 8; refine (HA1.out _ (Below.drew (Below.refl _ _))).mono ?_; rintro e w6 ⟨A1, c1, rfl, ht1, hg1, hb6⟩; have HB6 := Lib.hid ((Below.drew (Below.refl wr.heap.size wr)).trans (hb6.mono (Nat.le_refl _))); have HT1 := Lib.hid ht1; obtain ⟨x0, x1, x2, x3, x4, x5, x6⟩ := HS.out w6 HB6.out; clear ht1 hb6)
            | (go_at_call 9; refine (HA2.out _ HB6.out).mono ?_; rintro e w7 ⟨A2, c2, rfl, ht2, hg2, hb7⟩; have HB7 := Lib.hid (HB6.out.trans (hb7.mono HB6.out.size)); have HT2 := Lib.hid ht2; have HT12 := Lib.hid (HT1.out.below hb7); obtain ⟨y0, y1, y2, y3, y4, y5, y6⟩ := HS.out w7 HB7.out; clear ht2 hb7)
            | (go_at_call 7; refine (r_texts r.asks A1 A2 c1 c2 w7 h40 HT12.out hg1 HT2.out hg2).mono ?_; rintro e w8 ⟨rfl, hb8⟩; have HB8 := Lib.hid (HB7.out.trans (hb8.mono HB7.out.size)); obtain ⟨z0, z1, z2, z3, z4, z5, z6⟩ := HS.out w8 HB8.out; clear hb8))
        all_goals
          have HB9 := Lib.hid (HBL.out.trans (HB8.out.mono hsr))
          go_wp2
          go_roundw
          case rel => exact ⟨k + 1, by go_num, by omega, HB9.out⟩
          case measure => simp [intOf]; omega
      · have hlr : RlsAt wr A l := HR.out wr HB.out
        have hs0 := HB.out.size
        have HX := Lib.hid (p_Order l A c wr (by omega) hlr HNM.out)
        clear hb
        go_wp2_with fail
        refine HX.out.mono ?_
        rintro e w2 ⟨vx, rfl, hvx, hb2⟩
        have HB2 := Lib.hid (HB.out.trans (hb2.mono hs0))
        obtain ⟨Ax, cx, hvx1, _, _, htx, hgx⟩ := hvx.slice
        subst hvx1
        have HTX := Lib.hid htx
        have HY := Lib.hid (r_Order l A c w2 (by omega) (hlr.below hb2) HNM.out)
        clear hb2 hvx htx HX
        go_wp2_with fail
        refine HY.out.mono ?_
        rintro e w3 ⟨Ay, cy, rfl, hty, hgy, hb3⟩
        have HB3 := Lib.hid (HB2.out.trans (hb3.mono HB2.out.size))
        have HTX3 := Lib.hid (HTX.out.below hb3)
        have HTY3 := Lib.hid hty
        have HU := Lib.hid (p_Users nm l A c w3 (by omega) (HR.out w3 HB3.out))
        clear hb3 hty HY
        go_wp2_with fail
        refine HU.out.mono ?_
        rintro e w4 ⟨Au, cu, rfl, htu, hgu, hb4⟩
        have HB4 := Lib.hid (HB3.out.trans (hb4.mono HB3.out.size))
        have HTU := Lib.hid htu
        have HTX4 := Lib.hid (HTX3.out.below hb4)
        have HTY4 := Lib.hid (HTY3.out.below hb4)
        have HV := Lib.hid (r_users nm l A c w4 (by omega) (HR.out w4 HB4.out) HNM.out)
        clear hb4 htu HU
        go_wp2_with fail
        refine HV.out.mono ?_
        rintro e w5 ⟨Av, cv, rfl, htv, hgv, hb5⟩
        have HB5 := Lib.hid (HB4.out.trans (hb5.mono HB4.out.size))
        have HTX5 := Lib.hid (HTX4.out.below hb5)
        have HTY5 := Lib.hid (HTY4.out.below hb5)
        have hul : (usersS nm l).length ≤ 1000 := Nat.le_trans (users_len nm l) (by omega)
        have HT1 := Lib.hid (r_texts (usersS nm l) Au Av cu cv w5 hul (HTU.out.below hb5) hgu htv hgv)
        clear hb5 htv HV hul
        go_wp2_with fail
        refine HT1.out.mono ?_
        rintro e w6 ⟨rfl, hb6⟩
        have HB6 := Lib.hid (HB5.out.trans (hb6.mono HB5.out.size))
        have hll : (orderL l).1.length ≤ 1000 := by
          by_cases h : (orderL l).2 = 0
          · have := order_good h; omega
          · rw [order_empty h]; simp
        have HT2 := Lib.hid (r_texts (orderL l).1 Ax Ay cx cy w6 hll (HTX5.out.below hb6) hgx (HTY5.out.below hb6) hgy)
        clear hb6 hll HT1
        go_wp2_with fail
        refine HT2.out.mono ?_
        rintro e w7 ⟨rfl, hb7⟩
        have HB7 := Lib.hid (HB6.out.trans (hb7.mono HB6.out.size))
        have HD1 := Lib.hid (p_Deep l A c nm w7 (by omega) (HR.out w7 HB7.out) HNM.out hnm)
        clear hb7 HT2
        go_wp2_with fail
        refine HD1.out.mono ?_
        rintro e w8 ⟨rfl, hb8⟩
        have HB8 := Lib.hid (HB7.out.trans (hb8.mono HB7.out.size))
        have HD2 := Lib.hid (r_Deep l A c nm w8 (by omega) (HR.out w8 HB8.out) HNM.out)
        clear hb8 HD1
        go_wp2_with fail
        refine HD2.out.mono ?_
        rintro e w9 ⟨rfl, hb9⟩
        have HB9 := Lib.hid (HB8.out.trans (hb9.mono HB8.out.size))
        clear hb9 HD2
        go_wp2_with fail
        refine (HKN.out w9).mono ?_
        rintro e w10 ⟨rfl, hb10⟩
        have HB10 := Lib.hid (HB9.out.trans (hb10.mono HB9.out.size))
        clear hb10
        go_wp2
        go_ret
        exact ⟨rfl, HB10.out⟩
end Go.Proofs.Ytojpccngcicbmaa
