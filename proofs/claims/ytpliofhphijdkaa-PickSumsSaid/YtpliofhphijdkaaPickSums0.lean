/-
  PickSums of verdererlaw20 answers true at every list of changes, and all changes more, in every world, and changes nothing that was there.
  No condition but that a list is no longer than it can be.
-/
import Derived.Test.YtpliofhphijdkaaPke
namespace Go.Proofs.Ytpliofhphijdkaa
open Go.RowKit

set_option maxRecDepth 100000 in
set_option maxHeartbeats 4000000 in
theorem pickSums_all (w : World) (A B : Option Addr) (c d : Nat) (ls : List WLs) (ms : List WE) (n m : Nat) (hn : ls.length = n) (hm : ms.length = m) (hl : n ≤ maxLen) (hl2 : m ≤ maxLen) (hW : WeakL w A ls) (hW2 : WeakE w B ms) :
    Calls Try.prog 4 #[.slice A n c, .slice B m d] w fun e w' => e = .returned (.bool true) ∧ Below w.heap.size w w' := by
  unfold maxLen at hl hl2
  have HW := Lib.hid hW
  have HW2 := Lib.hid hW2
  have HN := Lib.hid hn
  have HM := Lib.hid hm
  have H0 := Lib.hid (ps_new w)
  clear hW hW2 hn hm
  go_enter Try.func4, Try.ntmps4
  go_wp2_with fail
  refine (o_new20 _).mono ?_
  rintro e w1 ⟨rfl, rfl⟩
  go_wp2
  go_loopw [7] (fun i wr => ∃ (k : Nat) (Bs : List En), k ≤ n ∧ k ≤ 20 ∧ i = .int .i64 k ∧ PsAt w wr Bs) (fun i _ => 20 - (intOf i).toNat)
  case atStart => exact ⟨0, [], Nat.zero_le _, Nat.zero_le _, rfl, H0.out⟩
  case round =>
    obtain ⟨k, Bs, hk, hk20, rfl, hps⟩ := hrel
    have HPS := Lib.hid hps
    have hsz := hps.size
    clear hps
    by_cases hkn : k < n ∧ k < 20
    · obtain ⟨hkn, hk2⟩ := hkn
      obtain ⟨x, hx⟩ : ∃ x, ls[k]? = some x := ⟨_, List.getElem?_eq_getElem (by rw [HN.out]; exact hkn)⟩
      obtain ⟨hok, a, rfl, hblt, c0⟩ := HW.out k x hx
      obtain ⟨hxl, hxn, hxw⟩ := hok
      unfold maxLen at hxl
      have cw0 := (HPS.out.below.cell (p := a.add k) hblt).trans c0
      unfold WLs.v at cw0
      have hxw2 := hxw.below HPS.out.below
      have HXW := Lib.hid hxw2
      have HFEW := Lib.hid (l_few20 x.at' x.es _ x.cap wr rfl (by omega) hxw2)
      obtain ⟨xn, hxn0⟩ : ∃ xn, xn = x.es.length := ⟨_, rfl⟩
      have HXN := Lib.hid hxn0
      rw [← hxn0] at HFEW cw0 hxl
      clear hx c0 hxw hxn hxw2 hxn0
      rcases Bool.eq_false_or_eq_true (fewW20 x.es) with hf | hf
      rotate_left
      · have HF := Lib.hid hf
        clear hf
        go_wp2_with fail
        refine HFEW.out.mono ?_
        rintro e w' ⟨rfl, rfl⟩
        rw [HF.out]
        go_wp2_with fail
        refine (known20 _).mono ?_
        rintro e w2 ⟨rfl, hb2⟩
        have HB := Lib.hid (HPS.out.below.trans (hb2.mono HPS.out.below.size))
        clear hb2
        go_wp2
        go_ret
        exact ⟨rfl, HB.out⟩
      · have HF := Lib.hid hf
        obtain ⟨hf1, hf2⟩ := (fewW20_iff x.es).1 hf
        have hxn60 : xn ≤ 60 := by rw [HXN.out]; exact hf1
        have hents := HXW.out.ents hf2
        have HAP := Lib.hid (o_apply _ (Q2p w.heap.size) w.heap.size Bs x.at' xn x.cap (ents x.es) wr HPS.out.q (nq0 _) HPS.out.bag HPS.out.len (by rw [ents_len]; exact HXN.out.symm) (by omega) hents (entsp_many HXW.out))
        have HTOLD := Lib.hid (onceL_told (es := ents x.es) HPS.out.pos)
        have HPOS := Lib.hid (onceL_pos HPS.out.pos (ofL_good (ents x.es)))
        have HLEN := Lib.hid (onceL_len (es := ents x.es) HPS.out.len)
        have HOL := Lib.hid (onceL_outlen Bs (ents x.es))
        obtain ⟨r, hr⟩ : ∃ r, r = onceL Bs (ents x.es) := ⟨_, rfl⟩
        rw [← hr] at HAP HTOLD HPOS HLEN HOL
        clear hf hf1 hents hr hf2
        go_wp2_with fail
        refine HFEW.out.mono ?_
        rintro e w' ⟨rfl, rfl⟩
        rw [HF.out]
        go_wp2_with fail
        refine HAP.out.mono ?_
        rintro e w2 ⟨L, c2, rfl, _, hE2, hB2, ho2⟩
        have hs2 : w.heap.size + 2 ≤ w2.heap.size := Nat.le_trans hsz ho2.1.size
        have HB2 := Lib.hid hB2
        have HE2 : Hid (EntsQ w2 (fun j => w.heap.size + 2 ≤ j) L r.2.1) := Lib.hid (hE2.imp fun k _ h => Nat.le_trans hsz h)
        have HBEL := Lib.hid (show Below w.heap.size w w2 from HPS.out.below.trans (ho2.1.mono (Nat.le_refl _)))
        have HR2 : Hid (RefL w2 (Q2p w.heap.size) (w.heap.size + 1) (addsP (r.2.1.take 0) (onceOf Bs))) := Lib.hid (HPS.out.ref.only ho2 (nq0 _) (by omega))
        have hol : r.2.1.length ≤ 60 := by have := HOL.out; rw [ents_len] at this; have := HXN.out; omega
        have hoB : (onceOf Bs).length ≤ 1500 := by rw [onceOf_len]; exact HPS.out.len
        clear hE2 hB2 ho2 HAP HFEW HPS HXW cw0 hblt hsz
        go_wp2
        go_loopw [10] (fun i wx => ∃ j : Nat, j ≤ r.2.1.length ∧ i = .int .i64 j ∧ RefL wx (Q2p w.heap.size) (w.heap.size + 1) (addsP (r.2.1.take j) (onceOf Bs)) ∧ Only (w.heap.size + 1) w2 wx) (fun i _ => r.2.1.length - (intOf i).toNat)
        case atStart => exact ⟨0, Nat.zero_le _, rfl, HR2.out, Only.refl _ _⟩
        case round =>
          obtain ⟨j, hj, rfl, hR, ho⟩ := hrel
          have hszw := ho.1.size
          by_cases hjn : j < r.2.1.length
          · obtain ⟨e, he⟩ : ∃ e, r.2.1[j]? = some e := ⟨_, List.getElem?_eq_getElem hjn⟩
            have hEw : EntsQ wr (fun j => w.heap.size + 2 ≤ j) L r.2.1 := HE2.out.keep (ho.keepQ (by omega))
            have hz := HTOLD.out.1.at j e he
            have hnx := addsP_next r.2.1 (onceOf Bs) j e he
            obtain ⟨a, rv, rfl, hrow, hblt, cw0, cw1⟩ := hEw.get j e he
            have hlen := addsP_len (r.2.1.take j) (onceOf Bs)
            rw [List.length_take] at hlen
            obtain ⟨M, hM⟩ : ∃ M, M = addsP (r.2.1.take j) (onceOf Bs) := ⟨_, rfl⟩
            rw [← hM] at hR hz hnx hlen
            have HC := Lib.hid (r_add _ rv e.1 e.2 (Q2p w.heap.size) (w.heap.size + 1) M wr.drew (fun i hi => by rw [World.size_drew] at hi; show i ≠ w.heap.size ∧ i ≠ w.heap.size + 1; omega) (nq1 _) (hrow.below (below_drew _ _)) (hR.below (below_drew _ _)) (by omega))
            obtain ⟨_, A', c', rfl, _, _⟩ := hrow
            have hne0 : (a.add (j * 2)).block ≠ w.heap.size + 1 := by have := hEw.inQ j e he; omega
            have HZ := Lib.hid hz
            have HNX := Lib.hid hnx
            have HO := Lib.hid ho
            clear he hEw hM hR hz hnx ho
            go_wp2
            go_region_held3 (fun w' => w'.cell? (a.add (j * 2)) = some (.slice A' e.1.length c') ∧ w'.cell? { block := (a.add (j * 2)).block, off := (a.add (j * 2)).off + 1 } = some (.int .i64 e.2)) (go_keep)
              (first
              | (go_at_call 17; refine HC.out.mono ?_; rintro x w3 ⟨rfl, hB, ho3⟩; have hk0 := (World.cell?_of_block (w := wr.drew) (a := a.add (j * 2)) (ho3.2 (a.add (j * 2)).block hblt hne0)).trans cw0; have hk1 := (World.cell?_of_block (w := wr.drew) (a := { block := (a.add (j * 2)).block, off := (a.add (j * 2)).off + 1 }) (ho3.2 (a.add (j * 2)).block hblt hne0)).trans cw1))
            rw [HZ.out]
            have HO3 := Lib.hid (HO.out.trans ((Only.of_below (below_drew wr.heap.size wr) (by omega)).trans ho3))
            rw [← HNX.out] at hB
            have HBB := Lib.hid hB
            clear hB ho3 hk0 hk1
            go_wp2
            go_roundw
            case rel => exact ⟨j + 1, by omega, by go_num, HBB.out, HO3.out⟩
            case measure => simp [intOf]; omega
          · obtain rfl : j = r.2.1.length := by omega
            have htk : r.2.1.take r.2.1.length = r.2.1 := List.take_of_length_le (Nat.le_refl _)
            rw [htk, HTOLD.out.2] at hR
            have HPS2 : Hid (PsAt w wr r.1) := Lib.hid ⟨HBEL.out.trans (ho.1.mono (by omega)), by omega, HB2.out.only ho (nq1 _) (by omega), hR, HPOS.out, HLEN.out⟩
            clear hR ho htk
            go_wp2
            go_roundw
            case rel => exact ⟨k + 1, r.1, by omega, by omega, by go_num, HPS2.out⟩
            case measure => simp [intOf]; omega
    · have hend : (k < n ∧ k = 20) ∨ k = n := by omega
      clear hkn
      rcases hend with ⟨hkn, rfl⟩ | rfl
      all_goals
        go_wp2_with fail
        refine (o_rows20 (Q2p w.heap.size) w.heap.size Bs wr HPS.out.q HPS.out.bag (by have := HPS.out.len; omega)).mono ?_
        rintro e w2 ⟨Lw, cw, rfl, _, hEw, hb2⟩
        have HPS2 := Lib.hid (HPS.out.later hb2)
        obtain ⟨_, _, La, ca, _, _, hbox, hEa⟩ := HPS2.out.ref
        have cbx := hbox.cell
        rw [onceOf_len] at cbx
        have HEW := Lib.hid hEw
        have HAL := Lib.hid (r_alike _ _ Lw La (onceOf Bs) (onceOf Bs) _ _ cw ca w2 (onceOf_len Bs) (onceOf_len Bs) (by have := HPS.out.len; omega) hEw hEa)
        clear hbox hEa hEw hb2
        go_wp2_with fail
        refine HAL.out.mono ?_
        rintro e w3 ⟨rfl, nd, rfl⟩
        rw [alikeL_self]
        have hb3 : Below w2.heap.size w2 (w2.drewN nd) := below_drewN' (Below.refl _ _) _
        have HPS3 := Lib.hid (HPS2.out.later hb3)
        have HEW3 := Lib.hid (HEW.out.below hb3)
        clear hb3 cbx HAL
        generalize w2.drewN nd = w3 at *
        have hmw := HW2.out.below HPS3.out.below
        have HMW := Lib.hid hmw
        have HFEW := Lib.hid (fun W (h : W = w3) => l_few20 B ms m d W HM.out (by omega) (h ▸ hmw))
        clear hmw
        go_wp2_with fail
        refine (HFEW.out _ rfl).mono ?_
        rintro e w' ⟨rfl, rfl⟩
        rcases Bool.eq_false_or_eq_true (fewW20 ms) with hf | hf
        rotate_left
        · rw [hf]
          have HF := Lib.hid hf
          clear hf
          go_wp2_with fail
          refine (HFEW.out _ rfl).mono ?_
          rintro e w' ⟨rfl, rfl⟩
          rw [HF.out]
          go_wp2_with fail
          refine (known20 _).mono ?_
          rintro e w4 ⟨rfl, hb4⟩
          have HB := Lib.hid (HPS3.out.below.trans (hb4.mono HPS3.out.below.size))
          clear hb4
          go_wp2
          go_ret
          exact ⟨rfl, HB.out⟩
        · obtain ⟨hf1, hf2⟩ := (fewW20_iff ms).1 hf
          rw [hf]
          have hents := HMW.out.ents hf2
          have HE0 := Lib.hid (HW2.out.ents hf2)
          have hm60 : m ≤ 60 := by rw [← HM.out]; exact hf1
          have HAP := Lib.hid (o_apply _ (Q2p w.heap.size) w.heap.size Bs B m d (ents ms) w3 HPS3.out.q (nq0 _) HPS3.out.bag HPS3.out.len (by rw [ents_len]; exact HM.out) (by omega) hents (entsp_many HMW.out))
          clear hf hf1 hf2 hents
          go_wp2_with fail
          refine HAP.out.mono ?_
          rintro e w4 ⟨L, c4, rfl, _, hE4, hB4, ho4⟩
          have hbel4 : Below w.heap.size w w4 := HPS3.out.below.trans (ho4.1.mono (Nat.le_refl _))
          have HBEL4 := Lib.hid hbel4
          have hs4 : w.heap.size + 2 ≤ w4.heap.size := Nat.le_trans HPS3.out.size ho4.1.size
          have HEW4 := Lib.hid (HEW3.out.keep (ho4.keepQ (nq0 _)))
          have hq4 : ∀ k, w4.heap.size ≤ k → Q2p w.heap.size k := fun k hk => by
            show k ≠ w.heap.size ∧ k ≠ w.heap.size + 1
            omega
          have HQ4 := Lib.hid hq4
          clear hE4 hq4 hbel4
          by_cases hok : (onceL Bs (ents ms)).2.2 = 0
          · have hoks := onceL_ok hok
            obtain ⟨hz, hzf, hreq⟩ := hoks
            have hback := once_back HPS3.out.pos (ofL_good (ents ms)) hzf HPS3.out.len
            have hNg := ofL_good (ents ms)
            have hNl : (ofL (ents ms)).1.length ≤ m := by rw [← HM.out, ← ents_len ms]; exact of_len _
            have HNET := Lib.hid (r_net _ B m d (ents ms) w4 (by rw [ents_len]; exact HM.out) (by omega) (HE0.out.below HBEL4.out) (entsp_many HW2.out))
            have hnp : netP (ents ms) = (ofL (ents ms)).1 := if_pos hz
            unfold NetIs at HNET
            rw [hnp, hz] at HNET
            have hCl : (onceL Bs (ents ms)).1.length ≤ 1500 := onceL_len HPS3.out.len
            rw [hreq] at hB4 hok hCl ⊢
            generalize (ofL (ents ms)).1 = N at *
            have HBACK := Lib.hid hback
            have HNG := Lib.hid hNg
            have HB4 := Lib.hid hB4
            have hol : (onceF Bs N).2.1.length = (onceF Bs N).2.1.length := rfl
            obtain ⟨r, hr⟩ : ∃ r, r = onceF Bs N := ⟨_, rfl⟩
            rw [← hr] at HBACK HB4 hok hCl ⊢
            rw [hok]
            clear hz hzf hreq hback hNg hnp hB4 hol hr ho4 HAP hok
            go_wp2_with fail
            refine HNET.out.mono ?_
            rintro e w5 ⟨LN, cN, rfl, _, hEN, hb5⟩
            have HB5 := Lib.hid hb5
            have HEN : Hid (EntsQ w5 (fun k => w4.heap.size ≤ k ∧ k < w5.heap.size) LN N) := Lib.hid (hEN.imp fun k hk h => ⟨h, hk⟩)
            have hs5 := hb5.size
            have H5 : Hid (∃ ls', OwnE w5 w5.heap.size (.slice none 0 0) ls' ∧ EnR w5 (fun k => w4.heap.size ≤ k ∧ k < w5.heap.size) ls' (backP (N.take 0)) ∧ Below w5.heap.size w5 w5) := Lib.hid ⟨[], OwnE.nil _ _, trivial, Below.refl _ _⟩
            clear hEN hb5 HNET
            go_wp2
            go_loopw [16, 17] (fun v i wx => ∃ j : Nat, j ≤ N.length ∧ i = .int .i64 j ∧ ∃ ls', OwnE wx w5.heap.size v ls' ∧ EnR wx (fun k => w4.heap.size ≤ k ∧ k < w5.heap.size) ls' (backP (N.take j)) ∧ Below w5.heap.size w5 wx) (fun _ i _ => N.length - (intOf i).toNat)
            case atStart => exact ⟨0, Nat.zero_le _, rfl, H5.out⟩
            case round =>
              obtain ⟨j, hj, rfl, ls', hown, hen, hbx⟩ := hrel
              have hszx := hbx.size
              have hlsl := hen.len
              have hbkl : (backP (N.take j)).length = j := by unfold backP; rw [List.length_map, List.length_take]; omega
              rw [hbkl] at hlsl
              by_cases hjn : j < N.length
              · obtain ⟨e, he⟩ : ∃ e, N[j]? = some e := ⟨_, List.getElem?_eq_getElem hjn⟩
                obtain ⟨a, rv, rfl, hrow, hblt, c0, c1⟩ := (HEN.out.below hbx).get j e he
                have hfew := (fewN_iff _).1 (HNG.out.2 e (List.mem_of_getElem? he)).2.1
                have hbnx : backP (N.take (j + 1)) = backP (N.take j) ++ [(e.1, -e.2)] := by unfold backP; rw [List.take_add_one, he, List.map_append]; rfl
                have HBNX := Lib.hid hbnx
                have HOWN := Lib.hid hown
                have HENR := Lib.hid hen
                have HBX := Lib.hid hbx
                have HROW := Lib.hid hrow
                obtain ⟨_, A', c', rfl, _, _⟩ := hrow
                have n1 : IntKind.i64.wrap (-e.2) = -e.2 := IntWalk.i64_in _ (by omega)
                have n2 : IntKind.i64.wrap (0 - e.2) = -e.2 := by rw [Int.zero_sub]; exact n1
                clear hown hen hbx he hbnx hbkl
                go_wp2
                go_region_law
                  ((refine step_append_E _ (by rfl) _ _ (by rfl) w5.heap.size _ ls' [(.slice A' e.1.length c', -e.2)] (by rfl) (by exact (HOWN.out.alloc _)) _ _ _ (by rfl) (by rfl) (fun _ => True) (by exact ent_lit1 wr (.slice A' e.1.length c') (-e.2) (fun _ => True) (fun _ _ => trivial)) (by simp [flatE, Value.oneCell']) (by simp; omega) (by simp; omega) ?_; intro v' w7 hown' hb7 hgr hor))
                all_goals
                  have hbel7 : Below w5.heap.size w5 w7 := HBX.out.trans ((((one_new wr _).drew).mono hszx).trans hb7)
                  have hen7 : EnR w7 (fun k => w4.heap.size ≤ k ∧ k < w5.heap.size) (ls' ++ [(Value.slice A' e.1.length c', -e.2)]) (backP (N.take (j + 1))) := by
                    rw [HBNX.out]
                    have hkq : KeepQ (fun k => w4.heap.size ≤ k ∧ k < w5.heap.size) wr w7 := fun k hk hlt => by
                      exact (((one_new wr _).drew).mono hszx |>.trans hb7).block k hk.2
                    exact EnR.append (HENR.out.keep hkq) ⟨rfl, HROW.out.keep hkq, trivial⟩
                  have HEN7 := Lib.hid hen7
                  have HOWN7 := Lib.hid hown'
                  have HB7 := Lib.hid hbel7
                  clear hen7 hown' hb7 hgr hor hbel7
                  go_wp2
                  go_roundw
                  case rel => exact ⟨j + 1, by omega, by go_num, _, HOWN7.out, HEN7.out, HB7.out⟩
                  case measure => simp [intOf]; omega
              · obtain rfl : j = N.length := by omega
                have htk : N.take N.length = N := List.take_of_length_le (Nat.le_refl _)
                rw [htk] at hen
                obtain ⟨A9, c9, hv9, _, _, hc9⟩ := hown.slice (fun k => w4.heap.size ≤ k) (fun k hk => by omega)
                have hE9 : EntsQ wr (fun k => w4.heap.size ≤ k) A9 (backP N) := ⟨ls', hen.imp (fun k _ h => h.1), hc9⟩
                have hbw : Below w4.heap.size w4 wr := HB5.out.trans (hbx.mono hs5)
                have hblen : (backP N).length = N.length := List.length_map _
                have HAP9 := Lib.hid (o_apply _ (Q2p w.heap.size) w.heap.size r.1 A9 N.length c9 (backP N) wr (fun k hk => HQ4.out k (by omega)) (nq0 _) (HB4.out.below hbw) hCl hblen (by omega) hE9 (few_many (backP_good HNG.out)))
                rw [hlsl] at hv9
                subst hv9
                have HEW9 := Lib.hid (HEW4.out.below hbw)
                have HB9 := Lib.hid (HBEL4.out.trans (hbw.mono HBEL4.out.size))
                unfold Applied at HAP9
                rw [HBACK.out.1, HBACK.out.2.1, HBACK.out.2.2] at HAP9
                clear hen hown hE9 hbw hbx htk hbkl hc9 HBACK
                go_wp2_with fail
                refine HAP9.out.mono ?_
                rintro e w6 ⟨L6, c6, rfl, _, _, hB6, ho6⟩
                have hs6 := ho6.1.size
                have HRW := Lib.hid (o_rows20 (Q2p w.heap.size) w.heap.size Bs w6 (fun k hk => HQ4.out k (by have := ho6.1.size; omega)) hB6 (by have := HPS3.out.len; omega))
                have HB6 := Lib.hid (HB9.out.trans (ho6.1.mono (Nat.le_refl _)))
                have HEW6 := Lib.hid (HEW9.out.keep (ho6.keepQ (nq0 _)))
                clear hB6 ho6 HAP9
                go_wp2_with fail
                refine HRW.out.mono ?_
                rintro e w7 ⟨L7, c7, rfl, _, hE7, hb7⟩
                have HAL := Lib.hid (r_alike _ _ L7 Lw (onceOf Bs) (onceOf Bs) _ _ c7 cw w7 (onceOf_len Bs) (onceOf_len Bs) (by have := HPS3.out.len; omega) hE7 (HEW6.out.below hb7))
                have HB7 := Lib.hid (HB6.out.trans (hb7.mono HB6.out.size))
                clear hE7 hb7
                go_wp2_with fail
                refine HAL.out.mono ?_
                rintro e w8 ⟨rfl, nd8, rfl⟩
                rw [alikeL_self]
                have HB8 := Lib.hid (below_drewN' HB7.out nd8)
                generalize w7.drewN nd8 = w8 at *
                go_wp2_with fail
                refine (known20 _).mono ?_
                rintro e w9 ⟨rfl, hb9⟩
                have HBF := Lib.hid (HB8.out.trans (hb9.mono HB8.out.size))
                clear hb9
                go_wp2
                go_ret
                exact ⟨rfl, HBF.out⟩
          · obtain ⟨he1, he2⟩ := onceL_err hok
            rw [he1] at hB4
            rw [he2]
            have HB4 := Lib.hid hB4
            have hne : ((onceL Bs (ents ms)).2.2 != 0) = true := by simp [hok]
            have HRW := Lib.hid (o_rows20 (Q2p w.heap.size) w.heap.size Bs w4 HQ4.out hB4 (by have := HPS3.out.len; omega))
            clear hB4 he1 he2 hok ho4
            go_wp2_with fail
            refine HRW.out.mono ?_
            rintro e w5 ⟨L5, c5, rfl, _, hE5, hb5⟩
            have HAL := Lib.hid (r_alike _ _ L5 Lw (onceOf Bs) (onceOf Bs) _ _ c5 cw w5 (onceOf_len Bs) (onceOf_len Bs) (by have := HPS3.out.len; omega) hE5 (HEW4.out.below hb5))
            have HB5 := Lib.hid (HBEL4.out.trans (hb5.mono HBEL4.out.size))
            clear hE5 hb5
            go_wp2_with fail
            refine HAL.out.mono ?_
            rintro e w6 ⟨rfl, nd, rfl⟩
            rw [alikeL_self]
            have HB6 := Lib.hid (below_drewN' HB5.out nd)
            generalize w5.drewN nd = w6 at *
            go_wp2_with fail
            refine (known20 _).mono ?_
            rintro e w7 ⟨rfl, hb7⟩
            have HB7 := Lib.hid (HB6.out.trans (hb7.mono HB6.out.size))
            clear hb7
            go_wp2
            go_ret
            exact ⟨rfl, HB7.out⟩
end Go.Proofs.Ytpliofhphijdkaa
