/-
  One literal: the program's side.
  Condition: a literal has no more than 5000 terms, names are no longer than they can be.
-/
import Derived.Test.YthdjkagodccdbaaM38
namespace Go.Proofs.Ythdjkagodccdbaa
open Go.RowKit Go.Maps

theorem argT_one (L : List Co) (b : Bool) (t : TmP) (c : Co) : (argT L b t c).1 = if fitB L t c = true then 0 else 11 := by
  unfold fitB argT
  repeat' split
  all_goals simp_all
theorem argT_no (L : List Co) (b : Bool) (t : TmP) (c : Co) (h : fitB L t c = false) : argT L b t c = (11, L) := by
  unfold fitB argT at h
  unfold argT
  repeat' split at h
  all_goals simp_all
theorem argT_two (L : List Co) (b : Bool) (t : TmP) (c : Co) (h : fitB L t c = true) : (argT L b t c).2 = if (b && isV t) = true then bindC L ⟨t.s, c.k, c.nl⟩ else L := by
  unfold fitB argT at h
  unfold argT isV
  repeat' split at h
  all_goals simp_all
theorem argsT_go (L : List Co) (b : Bool) (ts : List TmP) (cs : List Co) (k : Nat) (t : TmP) (c : Co) (ht : ts[k]? = some t) (hc : cs[k]? = some c) (h : fitB L t c = true) : argsT b L (ts.drop k) (cs.drop k) = argsT b (if (b && isV t) = true then bindC L ⟨t.s, c.k, c.nl⟩ else L) (ts.drop (k + 1)) (cs.drop (k + 1)) := by
  rw [argsT_step _ _ _ _ k _ _ ht hc, argT_one, h, if_pos rfl, if_pos rfl, argT_two _ _ _ _ h]
theorem argsT_halt (L : List Co) (b : Bool) (ts : List TmP) (cs : List Co) (k : Nat) (t : TmP) (c : Co) (ht : ts[k]? = some t) (hc : cs[k]? = some c) (h : fitB L t c = false) : argsT b L (ts.drop k) (cs.drop k) = (11, L) := by
  rw [argsT_step _ _ _ _ k _ _ ht hc, argT_no _ _ _ _ h]
  exact if_neg (by simp)
theorem KnowAt.mono {base : Nat} {W : World} {g s vb cb : Nat} {ov : Value} {S : List Sc} {ls : List RS} {U : List Sc} {L : List Co} {m m' : Nat} (h : KnowAt base W g s vb cb ov S ls U L m) (hm : m ≤ m') : KnowAt base W g s vb cb ov S ls U L m' :=
  ⟨h.box, h.set, h.vws, h.vls, by obtain ⟨n, D, h1, h2⟩ := h.cls; exact ⟨n, D, Nat.le_trans h1 hm, h2⟩, h.ord, ⟨h.good.nd, Nat.le_trans h.good.len hm, h.good.sz⟩, h.og, h.bg, h.bc, h.bv, h.vc⟩
/-- What a literal's call leaves. -/
def LitIs (base : Nat) (W : World) (g s vb cb : Nat) (ov : Value) (S : List Sc) (ls : List RS) (U : List Sc) (m : Nat) (R : Int × List Co) (e : Ending) (W' : World) : Prop := ∃ ov', e = .returned (.int .i64 R.1) ∧ KnowAt base W' g s vb cb ov' S ls U R.2 m ∧ OnlyK g cb ov ov' W W'

set_option maxRecDepth 100000 in
set_option maxHeartbeats 8000000 in
theorem k_literal {base : Nat} {w0 W : World} {g s vb cb : Nat} {ov : Value} {S : List Sc} {ls : List RS} {U : List Sc} {L : List Co} {m : Nat} (h : KnowAt base W g s vb cb ov S ls U L m) (hf : ∀ x ∈ S, x.cols.length ≤ 900000) (x : LmG) (hw0 : w0.heap.size ≤ base) (hbw : Below w0.heap.size w0 W) (hx : ElsAt TmP.cells 6 w0 x.A x.args) (hm : m + x.args.length ≤ 900000) (hs : ∀ t ∈ x.args, t.s.size ≤ maxLen) (hn : x.s.size ≤ maxLen) (hl : x.args.length ≤ 5000) :
    Calls Try.prog 70 #[.pointer (some ⟨g, 0, none⟩), x.val] W (LitIs base W g s vb cb ov S ls U (m + x.args.length) (litT S U L x.li)) := by
  obtain ⟨n, nm, A, c, args, o⟩ := x
  simp only at hx hm hs hn hl
  show Calls Try.prog 70 #[.pointer (some ⟨g, 0, none⟩), .agg #[.bool n, .string nm, .slice A args.length c, .int .i64 o]] W (LitIs base W g s vb cb ov S ls U (m + args.length) (litT S U L (LmG.li ⟨n, nm, A, c, args, o⟩)))
  obtain ⟨wB, hwB⟩ : ∃ wB, W.alloc (.cells #[.bool n, .string nm, .slice A args.length c, .int .i64 o] 46) = wB := ⟨_, rfl⟩
  have hon : Below W.heap.size W wB := by rw [← hwB]; exact one_new _ _
  have hbox : wB.heap[W.heap.size]? = some (.cells #[.bool n, .string nm, .slice A args.length c, .int .i64 o] 46 (0, 0)) := by rw [← hwB]; exact heap_alloc_new _ _
  have hz : wB.heap.size = W.heap.size + 1 := by rw [← hwB]; exact World.size_alloc _ _
  have HKB := Lib.hid (h.below hon)
  have HW0 := Lib.hid (hbw.trans (hon.mono hbw.size))
  have HX := Lib.hid hx
  have HS := Lib.hid hs
  have HON := Lib.hid hon
  have HBX := Lib.hid hbox
  have HZ := Lib.hid hz
  have HWB := Lib.hid hwB
  have HMT := Lib.hid h.mt
  by_cases ho : o = 0
  · have HREL := Lib.hid (k_relation HKB.out hf nm hn)
    have HLT : Hid (litT S U L (LmG.li ⟨n, nm, A, c, args, o⟩) = match relT S U nm with
      | none => (20, L)
      | some cs => if args.length = cs.length then argsT (!n) L args cs else (9, L)) := Lib.hid (by unfold litT; rw [if_pos ho]; rfl)
    have HO := Lib.hid ho
    have bo : (o != 0) = false := by simpa using ho
    generalize litT S U L (LmG.li ⟨n, nm, A, c, args, o⟩) = R at *
    generalize relT S U nm = rl at *
    obtain ⟨n0, n1, n2, n3⟩ := four_cells hbox
    clear h hf hbw hx hs hn hon hbox hz ho
    subst hwB
    go_enter Try.func70, Try.ntmps70
    go_wp2_with fail
    refine HREL.out.mono ?_
    rintro e w1 ⟨v, rfl, hv, ⟨A1, nn, c1, rfl⟩, hb1⟩
    have hx1 := (hb1.block W.heap.size (by rw [HZ.out]; omega)).trans HBX.out
    clear n0 n1 n2 n3
    obtain ⟨n0, n1, n2, n3⟩ := four_cells hx1
    cases rl with
    | none =>
      have hR : R = (20, L) := HLT.out
      have HFIN := Lib.hid (show LitIs base W g s vb cb ov S ls U (m + args.length) R (.returned (.int .i64 20)) w1 by rw [hR]; exact ⟨ov, rfl, (HKB.out.below hb1).mono (by omega), OnlyK.of_below (HON.out.trans (hb1.mono HON.out.size))⟩)
      clear hb1 hx1 hv
      go_wp2
      go_ret
      exact HFIN.out
    | some cs =>
      have hR : R = if args.length = cs.length then argsT (!n) L args cs else (9, L) := HLT.out
      have hcs := hv cs rfl
      obtain ⟨hcl, A2, c2, e2, -, -, -⟩ := hcs
      injection e2 with e3 e4 e5
      subst e3 e4 e5
      have HCS := Lib.hid (hv cs rfl)
      clear hv
      by_cases hne : args.length = cs.length
      · have b1 : ((args.length : Int) != (cs.length : Int)) = false := by simp [hne]
        rw [if_pos hne] at hR
        have HR := Lib.hid hR
        have HNE := Lib.hid hne
        have HK1 := Lib.hid (HKB.out.below hb1)
        have HB1 := Lib.hid (HON.out.trans (hb1.mono HON.out.size))
        have HX1 := Lib.hid hx1
        have HWW := Lib.hid (HW0.out.trans (hb1.mono HW0.out.size))
        have hz1 := hb1.size
        clear hb1 hx1 hR hne
        go_wp2
        go_loopw [36] (fun i wr => ∃ (k : Nat) (L1 : List Co) (ov1 : Value), i = .int .i64 k ∧ k ≤ args.length ∧ argsT (!n) L1 (args.drop k) (cs.drop k) = R ∧ KnowAt base wr g s vb cb ov1 S ls U L1 (m + k) ∧ OnlyK g cb ov ov1 w1 wr) (fun i _ => args.length - (intOf i).toNat)
        case atStart => exact ⟨0, L, ov, rfl, Nat.zero_le _, by rw [HR.out, List.drop_zero, List.drop_zero], HK1.out, OnlyK.refl _ _ _ _⟩
        case round =>
          obtain ⟨k, L1, ov1, rfl, hk, hR1, hK, hO⟩ := hrel
          have hmt1 : ∀ j, MutK g cb ov j → w0.heap.size ≤ j := fun j hj => Nat.le_trans hw0 (HMT.out j hj).1
          have hbr := HWW.out.trans (hO.below HWW.out.size hmt1)
          have HBR := Lib.hid hbr
          have hlt1 : ∀ j, MutK g cb ov j → j < W.heap.size := fun j hj => (HMT.out j hj).2
          have hbx := (hO.keep W.heap.size (by have := HZ.out; omega) (fun hm2 => by have := hlt1 _ hm2; omega)).trans HX1.out
          have hcr := HCS.out.keep (hO.keepQ (fun j hq _ hm2 => by
            rcases hq with hq | hq
            · have := (HMT.out j hm2).1
              omega
            · have := hlt1 j hm2
              rw [HZ.out] at hq
              omega))
          have HBOX := Lib.hid hbx
          have HK := Lib.hid hK
          have HOK := Lib.hid hO
          have HR1 := Lib.hid hR1
          have HCR := Lib.hid hcr
          clear hbr hbx n0 n1 n2 n3
          by_cases hlt : k < args.length
          · obtain ⟨t, ht⟩ : ∃ t, args[k]? = some t := ⟨_, List.getElem?_eq_getElem hlt⟩
            obtain ⟨cc, hc⟩ : ∃ cc, cs[k]? = some cc := ⟨_, List.getElem?_eq_getElem (by rw [← HNE.out]; exact hlt)⟩
            obtain ⟨ad, rfl, a0, a1, a2, a3, a4, a5⟩ := els_T (HX.out.below HBR.out) ht
            obtain ⟨-, A3, c3, e3, -, -, hcc⟩ := hcr
            injection e3 with e3 e4 e5
            subst e3 e5
            obtain ⟨ac, rfl, hcb, d0, d1, d2⟩ := hcc.col k cc hc
            have htz := HS.out t (List.mem_of_getElem? ht)
            have hgl := hK.gl
            have hwl : W.heap.size < wr.heap.size := (Array.getElem?_eq_some_iff.1 HBOX.out).1
            obtain ⟨tn, ta, ⟨tk, tf, tv, tt⟩⟩ := t
            obtain ⟨cn, ck, cl⟩ := cc
            simp only at a0 a1 a2 a3 a4 a5 d0 d1 d2 htz
            obtain ⟨wT, hwT⟩ : ∃ wT, wr.alloc (.cells #[.string tn, .bool ta, .int .i64 tk, .bool tf, .int .i64 tv, .string tt] 84) = wT := ⟨_, rfl⟩
            have honT : Below wr.heap.size wr wT := by rw [← hwT]; exact one_new _ _
            have hboxT : wT.heap[wr.heap.size]? = some (.cells #[.string tn, .bool ta, .int .i64 tk, .bool tf, .int .i64 tv, .string tt] 84 (0, 0)) := by rw [← hwT]; exact heap_alloc_new _ _
            have HZT : Hid (wT.heap.size = wr.heap.size + 1) := Lib.hid (by rw [← hwT]; exact World.size_alloc _ _)
            have HC : Hid (∀ w, Below wT.heap.size wT w → (w.cell? ⟨wr.heap.size, 0, none⟩ = some (.string tn) ∧ w.cell? ⟨wr.heap.size, 1, none⟩ = some (.bool ta) ∧ w.cell? ⟨wr.heap.size, 2, none⟩ = some (.int .i64 tk) ∧ w.cell? ⟨wr.heap.size, 3, none⟩ = some (.bool tf) ∧ w.cell? ⟨wr.heap.size, 4, none⟩ = some (.int .i64 tv) ∧ w.cell? ⟨wr.heap.size, 5, none⟩ = some (.string tt)) ∧ (w.cell? (ac.add (k * 3)) = some (.string cn) ∧ w.cell? { block := (ac.add (k * 3)).block, off := (ac.add (k * 3)).off + 1 } = some (.int .i64 ck) ∧ w.cell? { block := (ac.add (k * 3)).block, off := (ac.add (k * 3)).off + 2 } = some (.bool cl)) ∧ (w.cell? ⟨W.heap.size, 0, none⟩ = some (.bool n) ∧ w.cell? ⟨W.heap.size, 1, none⟩ = some (.string nm) ∧ w.cell? ⟨W.heap.size, 2, none⟩ = some (.slice (some ad) args.length c) ∧ w.cell? ⟨W.heap.size, 3, none⟩ = some (.int .i64 o))) := Lib.hid fun w hw => by
              have e0 := (hw.block wr.heap.size (by rw [HZT.out]; omega)).trans hboxT
              have hw2 := honT.trans (hw.mono honT.size)
              have e1 := (hw2.block W.heap.size hwl).trans HBOX.out
              obtain ⟨ac', e2, -, e3, e4, e5⟩ := (hcc.keep (Below.keepQ hw2 _)).col k _ hc
              injection e2 with e2
              subst e2
              exact ⟨⟨cell_of_row w _ 0 _ _ (0, 0) e0, cell_of_row w _ 1 _ _ (0, 0) e0, cell_of_row w _ 2 _ _ (0, 0) e0, cell_of_row w _ 3 _ _ (0, 0) e0, cell_of_row w _ 4 _ _ (0, 0) e0, cell_of_row w _ 5 _ _ (0, 0) e0⟩, ⟨e3, e4, e5⟩, four_cells e1⟩
            have HFT : Hid (∀ w, Below wT.heap.size wT w → Calls Try.prog 81 #[.pointer (some ⟨g, 0, none⟩), .agg #[.string tn, .bool ta, .int .i64 tk, .bool tf, .int .i64 tv, .string tt], .agg #[.string cn, .int .i64 ck, .bool cl]] w fun e W' => e = .returned (.bool (fitB L1 ⟨tn, ta, ⟨tk, tf, tv, tt⟩⟩ ⟨cn, ck, cl⟩)) ∧ Below w.heap.size w W') := Lib.hid fun w hw => k_fits (HK.out.below (honT.trans (hw.mono honT.size))) ⟨tn, ta, ⟨tk, tf, tv, tt⟩⟩ htz ⟨cn, ck, cl⟩
            have HTZ := Lib.hid htz
            have HT := Lib.hid ht
            have HCC := Lib.hid hc
            have HONT := Lib.hid honT
            obtain ⟨⟨t0, t1, t2, t3, t4, t5⟩, ⟨c0, c1', c2'⟩, ⟨l0, l1, l2, l3⟩⟩ := HC.out wT (Below.refl _ _)
            have HNT : Hid (¬ MutK g cb ov1 wr.heap.size) := Lib.hid fun hm2 => by have := (hK.mt _ hm2).2; omega
            have HNC : Hid (¬ MutK g cb ov1 (ac.add (k * 3)).block) := Lib.hid fun hm2 => by
              obtain ⟨-, A9, c9, e9, -, -, h9⟩ := HCS.out
              injection e9 with e9 _ _
              subst e9
              obtain ⟨a9, f1, f2, f3⟩ := h9 _ _ (flatC_at cs k _ hc).1
              injection f1 with f1
              subst f1
              rcases f2 with f2 | f2
              · have := (hK.mt _ hm2).1
                omega
              · have h5 := hlt1 _ (hO.mt _ (World.block_lt_of_cell? w1 _ f3) hm2)
                rw [HZ.out] at f2
                omega
            have HMS := Lib.hid (fun (w : World) (hw : Below wT.heap.size wT w) => (honT.trans (hw.mono honT.size) : Below wr.heap.size wr w))
            have HGO : Hid (fitB L1 ⟨tn, ta, ⟨tk, tf, tv, tt⟩⟩ ⟨cn, ck, cl⟩ = true → R = argsT (!n) (if (!n && isV ⟨tn, ta, ⟨tk, tf, tv, tt⟩⟩) = true then bindC L1 ⟨tn, ck, cl⟩ else L1) (args.drop (k + 1)) (cs.drop (k + 1))) := Lib.hid fun h => HR1.out.symm.trans (argsT_go _ _ _ _ k _ _ ht hc h)
            have HHA : Hid (fitB L1 ⟨tn, ta, ⟨tk, tf, tv, tt⟩⟩ ⟨cn, ck, cl⟩ = false → R = (11, L1)) := Lib.hid fun h => HR1.out.symm.trans (argsT_halt _ _ _ _ k _ _ ht hc h)
            have HWI : Hid (∀ w, Calls Try.prog 82 #[.agg #[.string tn, .bool ta, .int .i64 tk, .bool tf, .int .i64 tv, .string tt]] w fun e w' => e = .returned (.bool (isV ⟨tn, ta, ⟨tk, tf, tv, tt⟩⟩)) ∧ Below w.heap.size w w') := Lib.hid fun w => t_isVar ⟨tn, ta, ⟨tk, tf, tv, tt⟩⟩ w
            have HBI : Hid (∀ w, Calls Try.prog 69 #[.agg #[.bool n, .string nm, .slice (some ad) args.length c, .int .i64 o]] w fun e w' => e = .returned (.bool (!n)) ∧ Below w.heap.size w w') := Lib.hid fun w => (t_binds ⟨n, nm, some ad, c, args, o⟩ w).mono fun e w' hh => ⟨by rw [hh.1]; unfold atomB; simp only [HO.out]; rfl, hh.2⟩
            generalize isV ⟨tn, ta, ⟨tk, tf, tv, tt⟩⟩ = iv at *
            generalize fitB L1 ⟨tn, ta, ⟨tk, tf, tv, tt⟩⟩ ⟨cn, ck, cl⟩ = fb at *
            have HWT := Lib.hid hwT
            have hkc : k < cs.length := by have := HNE.out; omega
            have hki : (k : Int) < (cs.length : Int) := by omega
            clear hR1 hK hO htz ht hc honT hboxT hcb hcc hgl hwl hwT HR1
            have hwT := HWT.out
            subst hwT
            clear HWT
            go_wp2
            go_region_held3 (fun w' : World => w'.cell? ⟨wr.heap.size, 0, none⟩ = some (Value.string tn) ∧ w'.cell? ⟨wr.heap.size, 1, none⟩ = some (Value.bool ta) ∧ w'.cell? ⟨wr.heap.size, 2, none⟩ = some (Value.int .i64 tk) ∧ w'.cell? ⟨wr.heap.size, 3, none⟩ = some (Value.bool tf) ∧ w'.cell? ⟨wr.heap.size, 4, none⟩ = some (Value.int .i64 tv) ∧ w'.cell? ⟨wr.heap.size, 5, none⟩ = some (Value.string tt) ∧ w'.cell? (ac.add (k * 3)) = some (Value.string cn) ∧ w'.cell? { block := (ac.add (k * 3)).block, off := (ac.add (k * 3)).off + 1 } = some (Value.int .i64 ck) ∧ w'.cell? { block := (ac.add (k * 3)).block, off := (ac.add (k * 3)).off + 2 } = some (Value.bool cl) ∧ w'.cell? ⟨W.heap.size, 0, none⟩ = some (Value.bool n) ∧ w'.cell? ⟨W.heap.size, 1, none⟩ = some (Value.string nm) ∧ w'.cell? ⟨W.heap.size, 2, none⟩ = some (Value.slice (some ad) args.length c) ∧ w'.cell? ⟨W.heap.size, 3, none⟩ = some (Value.int .i64 o)) (go_keep)
              (first
                | (go_at_call 81; refine (HFT.out _ (Below.refl _ _).drew).mono ?_; rintro e w2 ⟨rfl, hb2⟩; have HB2 := Lib.hid ((Below.refl _ _).drew.trans hb2); obtain ⟨⟨u0, u1, u2, u3, u4, u5⟩, ⟨v0, v1, v2⟩, ⟨m0, m1, m2, m3⟩⟩ := HC.out w2 HB2.out; clear hb2))
            all_goals
              have HB2W := Lib.hid (HMS.out w2 HB2.out)
              have HK2 := Lib.hid (HK.out.below HB2W.out)
              have HO2 := Lib.hid (HOK.out.trans (OnlyK.of_below HB2W.out))
              clear t0 t1 t2 t3 t4 t5 c0 c1' c2' l0 l1 l2 l3
              cases fb with
              | false =>
                have hR := HHA.out rfl
                have HFIN := Lib.hid (show LitIs base W g s vb cb ov S ls U (m + args.length) R (.returned (.int .i64 11)) w2 by rw [hR]; exact ⟨ov1, rfl, HK2.out.mono (by omega), (OnlyK.of_below HB1.out).trans HO2.out⟩)
                clear hR
                go_wp2
                go_ret
                exact HFIN.out
              | true =>
                have HR2 := Lib.hid (HGO.out rfl)
                cases n with
                | true =>
                  go_wp2_with (first | (go_at_call 69; refine (HBI.out _).mono ?_; rintro e w3 ⟨rfl, hb3⟩; have HB3 := Lib.hid hb3; clear hb3))
                  go_roundw
                  case rel => exact ⟨k + 1, L1, ov1, by go_num, by omega, HR2.out.symm, (HK2.out.below HB3.out).mono (by omega), HO2.out.trans (OnlyK.of_below HB3.out)⟩
                  case measure => simp [intOf]; omega
                | false =>
                  cases iv with
                  | false =>
                    go_wp2_with (first | (go_at_call 69; refine (HBI.out _).mono ?_; rintro e w3 ⟨rfl, hb3⟩; have HB3 := Lib.hid hb3; have HB3c := Lib.hid (HB2.out.trans (hb3.mono HB2.out.size)); obtain ⟨⟨u0', u1', u2', u3', u4', u5'⟩, ⟨v0', v1', v2'⟩, ⟨m0', m1', m2', m3'⟩⟩ := HC.out w3 HB3c.out; clear hb3) | (go_at_call 82; refine (HWI.out _).mono ?_; rintro e w4 ⟨rfl, hb4⟩; have HB4 := Lib.hid (HB3.out.trans (hb4.mono HB3.out.size)); have HB4c := Lib.hid (HB3c.out.trans (hb4.mono HB3c.out.size)); clear hb4))
                    go_roundw
                    case rel => exact ⟨k + 1, L1, ov1, by go_num, by omega, HR2.out.symm, (HK2.out.below HB4.out).mono (by omega), HO2.out.trans (OnlyK.of_below HB4.out)⟩
                    case measure => simp [intOf]; omega
                  | true =>
                    go_wp2_with (first | (go_at_call 69; refine (HBI.out _).mono ?_; rintro e w3 ⟨rfl, hb3⟩; have HB3 := Lib.hid hb3; have HB3c := Lib.hid (HB2.out.trans (hb3.mono HB2.out.size)); obtain ⟨⟨u0', u1', u2', u3', u4', u5'⟩, ⟨v0', v1', v2'⟩, ⟨m0', m1', m2', m3'⟩⟩ := HC.out w3 HB3c.out; clear hb3) | (go_at_call 82; refine (HWI.out _).mono ?_; rintro e w4 ⟨rfl, hb4⟩; have HB4 := Lib.hid (HB3.out.trans (hb4.mono HB3.out.size)); have HB4c := Lib.hid (HB3c.out.trans (hb4.mono HB3c.out.size)); obtain ⟨⟨q0, q1, q2, q3, q4, q5⟩, ⟨r0, r1, r2⟩, -⟩ := HC.out w4 HB4c.out; clear hb4))
                    have HK4 := Lib.hid (HK2.out.below HB4.out)
                    have HBN := Lib.hid (k_bind (HK4.out.below (Below.refl _ _).drew) (by omega) tn HTZ.out ⟨cn, ck, cl⟩)
                    clear m0' m1' m2' m3' v0' v1' v2' u0' u1' u2' u3' u4' u5' m0 m1 m2 m3 v0 v1 v2 u0 u1 u2 u3 u4 u5
                    go_region_held3 (fun w' : World => w'.cell? ⟨wr.heap.size, 0, none⟩ = some (Value.string tn) ∧ w'.cell? (ac.add (k * 3)) = some (Value.string cn) ∧ w'.cell? { block := (ac.add (k * 3)).block, off := (ac.add (k * 3)).off + 1 } = some (Value.int .i64 ck) ∧ w'.cell? { block := (ac.add (k * 3)).block, off := (ac.add (k * 3)).off + 2 } = some (Value.bool cl)) (go_keep)
                      (first
                        | (go_at_call 83; refine HBN.out.mono ?_; rintro e w5 ⟨rfl, ov5, hk5, ho5⟩; have HK5 := Lib.hid hk5; have HO5 := Lib.hid ho5; have z0 := (World.cell?_of_block (w := w4) (a := ⟨wr.heap.size, 0, none⟩) (ho5.keep _ (World.block_lt_of_cell? w4 _ q0) HNT.out)).trans q0; have z1 := (World.cell?_of_block (w := w4) (a := ac.add (k * 3)) (ho5.keep _ (World.block_lt_of_cell? w4 _ r0) HNC.out)).trans r0; have z2 := (World.cell?_of_block (w := w4) (a := { block := (ac.add (k * 3)).block, off := (ac.add (k * 3)).off + 1 }) (ho5.keep _ (World.block_lt_of_cell? w4 _ r1) HNC.out)).trans r1; have z3 := (World.cell?_of_block (w := w4) (a := { block := (ac.add (k * 3)).block, off := (ac.add (k * 3)).off + 2 }) (ho5.keep _ (World.block_lt_of_cell? w4 _ r2) HNC.out)).trans r2; clear hk5 ho5))
                    all_goals
                      go_wp2
                      go_roundw
                      case rel => exact ⟨k + 1, bindC L1 ⟨tn, ck, cl⟩, ov5, by go_num, by omega, HR2.out.symm, HK5.out, (HO2.out.trans (OnlyK.of_below HB4.out.drew)).trans HO5.out⟩
                      case measure => simp [intOf]; omega
          · have hkk : k = args.length := by omega
            have hR2 := HR1.out
            rw [argsT_end _ _ _ _ _ (by omega)] at hR2
            have HFIN := Lib.hid (show LitIs base W g s vb cb ov S ls U (m + args.length) R (.returned (.int .i64 0)) wr by rw [← hR2, ← hkk]; exact ⟨ov1, rfl, HK.out, (OnlyK.of_below HB1.out).trans HOK.out⟩)
            clear hR1 hK hO hcr hR2 hkk
            go_wp2
            go_ret
            exact HFIN.out
      · have b1 : ((args.length : Int) != (cs.length : Int)) = true := by rw [bne_iff_ne]; omega
        rw [if_neg hne] at hR
        have HFIN := Lib.hid (show LitIs base W g s vb cb ov S ls U (m + args.length) R (.returned (.int .i64 9)) w1 by rw [hR]; exact ⟨ov, rfl, (HKB.out.below hb1).mono (by omega), OnlyK.of_below (HON.out.trans (hb1.mono HON.out.size))⟩)
        clear hb1 hx1 hne
        go_wp2
        go_ret
        exact HFIN.out
  · have HCMP := Lib.hid (k_comparison HKB.out args A c (by unfold maxLen; omega) (HX.out.below HW0.out) HS.out)
    have HLT : Hid (litT S U L (LmG.li ⟨n, nm, A, c, args, o⟩) = (cmpT L args, L)) := Lib.hid (by unfold litT; rw [if_neg ho])
    have bo : (o != 0) = true := by simpa using ho
    generalize litT S U L (LmG.li ⟨n, nm, A, c, args, o⟩) = R at *
    generalize cmpT L args = q at *
    obtain ⟨n0, n1, n2, n3⟩ := four_cells hbox
    clear h hf hbw hx hs hn hon hbox hz ho
    subst hwB
    go_enter Try.func70, Try.ntmps70
    go_wp2_with fail
    refine HCMP.out.mono ?_
    rintro e w1 ⟨rfl, hb1⟩
    have HFIN := Lib.hid (show LitIs base W g s vb cb ov S ls U (m + args.length) R (.returned (.int .i64 q)) w1 by rw [HLT.out]; exact ⟨ov, rfl, (HKB.out.below hb1).mono (by omega), OnlyK.of_below (HON.out.trans (hb1.mono HON.out.size))⟩)
    clear hb1 n0 n1 n2 n3
    go_wp2
    go_ret
    exact HFIN.out
end Go.Proofs.Ythdjkagodccdbaa
