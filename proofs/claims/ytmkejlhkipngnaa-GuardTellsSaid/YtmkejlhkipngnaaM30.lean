/-
  The document's Free of layer 15: the first variable that a rule asks, but that no atom binds.
  Condition: a rule of which not very much is to be read.
-/
import Derived.Test.YtmkejlhkipngnaaM29
namespace Go.Proofs.Ytmkejlhkipngnaa
open Go.RowKit Go.Maps

set_option maxRecDepth 100000 in
set_option maxHeartbeats 8000000 in
theorem r_Free (r : RuG) (w : World) (hr : r.Ok w) (hsm : r.Sml) :
    Calls Try.prog 8 #[.agg r.cells] w fun e w' => e = .returned (.tuple #[.string (freeX r.pl).1, .int .i64 (freeX r.pl).2.1, .bool (freeX r.pl).2.2]) ∧ Below w.heap.size w w' := by
  obtain ⟨k0, nm, hA, hc, head, ag, ofv, lim, bA, bc, body⟩ := r
  obtain ⟨F, hF⟩ : ∃ F, F = freeX (RuG.pl (⟨k0, nm, hA, hc, head, ag, ofv, lim, bA, bc, body⟩ : RuG)) := ⟨_, rfl⟩
  rw [← hF]
  show Calls Try.prog 8 #[.agg #[.int .i64 k0, .string nm, .slice hA head.length hc, .int .i64 ag, .string ofv, .int .i64 lim, .slice bA body.length bc]] w fun e w' => e = .returned (.tuple #[.string F.1, .int .i64 F.2.1, .bool F.2.2]) ∧ Below w.heap.size w w'
  obtain ⟨b, hb⟩ : ∃ b, b = bndL (body.map LmG.li) := ⟨_, rfl⟩
  have hF2 : F = match (head ++ if 2 ≤ ag ∧ ag ≤ 4 then [ofv] else []).find? (fun s => !hasX s b) with
      | some s => (s, -1, true)
      | none => match bodF b 0 (body.map LmG.li) with
        | some (s, i) => (s, (i : Int), true)
        | none => (⟨#[]⟩, 0, false) := by rw [hF, hb]; rfl
  have hbl : b.length ≤ 205000 := by rw [hb]; exact body_small hsm.2.1 (fun x hx => (hsm.2.2.2.2 x hx).1)
  have hon := one_new w (.cells #[.int .i64 k0, .string nm, .slice hA head.length hc, .int .i64 ag, .string ofv, .int .i64 lim, .slice bA body.length bc] 25)
  have hok0 := hr.below hon
  have hz0 : (w.alloc (.cells #[.int .i64 k0, .string nm, .slice hA head.length hc, .int .i64 ag, .string ofv, .int .i64 lim, .slice bA body.length bc] 25)).heap.size = w.heap.size + 1 := World.size_alloc _ _
  have hpb := r_Bound (⟨k0, nm, hA, hc, head, ag, ofv, lim, bA, bc, body⟩ : RuG) (w.alloc (.cells #[.int .i64 k0, .string nm, .slice hA head.length hc, .int .i64 ag, .string ofv, .int .i64 lim, .slice bA body.length bc] 25)) hok0 hsm
  have HPB : Hid (Calls Try.prog 13 #[.agg #[.int .i64 k0, .string nm, .slice hA head.length hc, .int .i64 ag, .string ofv, .int .i64 lim, .slice bA body.length bc]] (w.alloc (.cells #[.int .i64 k0, .string nm, .slice hA head.length hc, .int .i64 ag, .string ofv, .int .i64 lim, .slice bA body.length bc] 25)) fun e w' => ∃ v, e = .returned v ∧ OwnSt w' (w.alloc (.cells #[.int .i64 k0, .string nm, .slice hA head.length hc, .int .i64 ag, .string ofv, .int .i64 lim, .slice bA body.length bc] 25)).heap.size v b ∧ Below (w.alloc (.cells #[.int .i64 k0, .string nm, .slice hA head.length hc, .int .i64 ag, .string ofv, .int .i64 lim, .slice bA body.length bc] 25)).heap.size (w.alloc (.cells #[.int .i64 k0, .string nm, .slice hA head.length hc, .int .i64 ag, .string ofv, .int .i64 lim, .slice bA body.length bc] 25)) w') := Lib.hid (by rw [hb]; exact hpb)
  have HB := Lib.hid hb
  have HF2 := Lib.hid hF2
  have HON := Lib.hid hon
  have HOK0 := Lib.hid hok0
  have HSM := Lib.hid hsm
  have HBX := Lib.hid (heap_alloc_new w (.cells #[.int .i64 k0, .string nm, .slice hA head.length hc, .int .i64 ag, .string ofv, .int .i64 lim, .slice bA body.length bc] 25))
  have hsbl := hsm.2.1
  have hshl := hsm.1
  simp only at hsbl hshl
  clear hpb hr hF hF2 hb hon hok0 hsm
  go_enter Try.func8, Try.ntmps8
  go_wp2_with fail
  refine HPB.out.mono ?_
  rintro e w2 ⟨v2, rfl, hown2, hb2⟩
  obtain ⟨A2, c2, hv2, he2⟩ := OwnF.els hown2
  subst hv2
  have hsz2 := hb2.size
  rw [hz0] at hsz2
  have HE2 := Lib.hid he2
  have HOK2 := Lib.hid (HOK0.out.below hb2)
  have HBX2 := Lib.hid ((hb2.block w.heap.size (by omega)).trans HBX.out)
  have HON2 := Lib.hid (HON.out.trans (hb2.mono (by omega)))
  have HHV := Lib.hid (fun (s : ByteArray) (W : World) (hW : Below w2.heap.size w2 W) => r_has15 b A2 c2 s W (by omega) (he2.below hW))
  clear hown2 he2 hb2 HPB HBX HOK0 HON hz0
  go_wp2
  go_loopw [2, 3, 4, 6] (fun v2 v3 v4 i wr => ∃ k : Nat, v2 = .string ⟨#[]⟩ ∧ v3 = .int .i64 0 ∧ v4 = .bool false ∧ i = .int .i64 k ∧ k ≤ head.length ∧ Hid (head.find? (fun s => !hasX s b) = (head.drop k).find? (fun s => !hasX s b)) ∧ Below w2.heap.size w2 wr) (fun _ _ _ i _ => head.length - (intOf i).toNat)
  case atStart => exact ⟨0, rfl, rfl, rfl, rfl, Nat.zero_le _, Lib.hid rfl, Below.refl _ _⟩
  case round =>
    obtain ⟨k, rfl, rfl, rfl, rfl, hk, HFD, hbr⟩ := hrel
    have HBR := Lib.hid hbr
    obtain ⟨_, _, n2, n3, n4, _, n6⟩ := box7g_of ((hbr.block w.heap.size (by omega)).trans HBX2.out)
    by_cases hlt : k < head.length
    · obtain ⟨x, hx⟩ : ∃ x, head[k]? = some x := ⟨_, List.getElem?_eq_getElem hlt⟩
      obtain ⟨a, hAe, c0⟩ := els_S (HOK2.out.1.below hbr) hx
      simp only at hAe
      have hfd := find_drop (fun s => !hasX s b) head k x hx
      rw [← HFD.out] at hfd
      have HFN := Lib.hid hfd
      have HHX := Lib.hid (HHV.out x wr hbr)
      obtain ⟨q, hq⟩ : ∃ q, hasX x b = q := ⟨_, rfl⟩
      rw [hq] at HHX
      have HQ := Lib.hid hq
      subst hAe
      clear hx hfd hq hbr
      cases q with
      | true =>
        rw [HQ.out] at HFN
        go_wp2_with (go_at_call 19; refine HHX.out.mono ?_; rintro e w5 ⟨rfl, hb5⟩; have HB5 := Lib.hid (HBR.out.trans (hb5.mono HBR.out.size)); clear hb5)
        go_roundw
        case rel => exact ⟨k + 1, rfl, rfl, rfl, by go_num, by omega, Lib.hid (by rw [HFN.out]; rfl), HB5.out⟩
        case measure => simp [intOf]; omega
      | false =>
        rw [HQ.out] at HFN
        have hff : F = (x, -1, true) := by rw [HF2.out, List.find?_append, HFN.out]; rfl
        have HFF := Lib.hid hff
        clear hff
        go_wp2_with (go_at_call 19; refine HHX.out.mono ?_; rintro e w5 ⟨rfl, hb5⟩; have HB5 := Lib.hid (HBR.out.trans (hb5.mono HBR.out.size)); have n2' := (hb5.cell (World.block_lt_of_cell? wr _ n2)).trans n2; have c0' := (hb5.cell (World.block_lt_of_cell? wr _ c0)).trans c0; clear hb5)
        go_ret3
        rw [HFF.out]
        exact ⟨rfl, HON2.out.trans (HB5.out.mono (by omega))⟩
    · have hnone : head.find? (fun s => !hasX s b) = none := by rw [HFD.out, List.drop_eq_nil_of_le (by omega)]; rfl
      have HNONE := Lib.hid hnone
      obtain ⟨Z, hZ⟩ : ∃ Z, ((decide (2 ≤ ag) && decide (ag ≤ 4)) && !hasX ofv b) = Z := ⟨_, rfl⟩
      have hF3 : F = if Z then (ofv, -1, true) else match bodF b 0 (body.map LmG.li) with
          | some (s, i) => (s, (i : Int), true)
          | none => (⟨#[]⟩, 0, false) := by
        rw [HF2.out, List.find?_append, HNONE.out, ← hZ]
        by_cases h2 : 2 ≤ ag
        · by_cases h4 : ag ≤ 4
          · rw [if_pos ⟨h2, h4⟩, decide_eq_true h2, decide_eq_true h4, List.find?_cons]
            cases hasX ofv b <;> rfl
          · rw [if_neg (fun h => h4 h.2), decide_eq_false h4]
            simp
        · rw [if_neg (fun h => h2 h.1), decide_eq_false h2]
          simp
      have HF3 := Lib.hid hF3
      have HHX := Lib.hid (HHV.out ofv wr hbr)
      obtain ⟨q, hq⟩ : ∃ q, hasX ofv b = q := ⟨_, rfl⟩
      rw [hq] at HHX hZ
      have HZ := Lib.hid hZ
      clear hnone hq hbr hF3 hZ
      go_upto_region 7 with fail
      go_cut [46] from 32 (fun u wx => u = .bool Z ∧ Below w2.heap.size w2 wx)
      case first =>
        by_cases h2 : 2 ≤ ag
        · have b2 : decide ((2 : Int) ≤ ag) = true := decide_eq_true h2
          by_cases h4 : ag ≤ 4
          · have b4 : decide (ag ≤ (4 : Int)) = true := decide_eq_true h4
            have hz : (!q) = Z := by rw [← HZ.out, b2, b4]; rfl
            clear h2 h4
            cases q with
            | true =>
              obtain rfl : false = Z := hz
              go_wp2_with (go_at_call 19; refine HHX.out.mono ?_; rintro e w5 ⟨rfl, hb5⟩; have HB5 := Lib.hid (HBR.out.trans (hb5.mono HBR.out.size)); clear hb5)
              go_meet
              case rel => exact ⟨rfl, HB5.out⟩
            | false =>
              obtain rfl : true = Z := hz
              go_wp2_with (go_at_call 19; refine HHX.out.mono ?_; rintro e w5 ⟨rfl, hb5⟩; have HB5 := Lib.hid (HBR.out.trans (hb5.mono HBR.out.size)); clear hb5)
              go_meet
              case rel => exact ⟨rfl, HB5.out⟩
          · have b4 : decide (ag ≤ (4 : Int)) = false := decide_eq_false h4
            obtain rfl : false = Z := by rw [← HZ.out, b2, b4]; rfl
            clear h2 h4
            go_wp2_with fail
            go_meet
            case rel => exact ⟨rfl, HBR.out⟩
        · have b2 : decide ((2 : Int) ≤ ag) = false := decide_eq_false h2
          obtain rfl : false = Z := by rw [← HZ.out, b2]; rfl
          clear h2
          go_wp2_with fail
          go_meet
          case rel => exact ⟨rfl, HBR.out⟩
      case rest =>
        obtain ⟨rfl, hbc⟩ := hcut
        have HB5 := Lib.hid hbc
        clear HHX HZ HBR
        cases Z with
        | true =>
          obtain ⟨_, _, _, _, n4, _, _⟩ := box7g_of ((hbc.block w.heap.size (by omega)).trans HBX2.out)
          have hff : F = (ofv, -1, true) := HF3.out
          have HFF := Lib.hid hff
          clear hff hbc
          go_wp2
          go_ret3
          rw [HFF.out]
          exact ⟨rfl, HON2.out.trans (HB5.out.mono (by omega))⟩
        | false =>
          have hF4 : F = match bodF b 0 (body.map LmG.li) with
            | some (s, i) => (s, (i : Int), true)
            | none => (⟨#[]⟩, 0, false) := HF3.out
          have HF3 := Lib.hid hF4
          clear hF4 hbc n2 n3 n4 n6
          go_wp2
          go_loopw [2, 3, 4, 7] (fun v2 v3 v4 i wx => ∃ k : Nat, v2 = .string ⟨#[]⟩ ∧ v3 = .int .i64 0 ∧ v4 = .bool false ∧ i = .int .i64 k ∧ k ≤ body.length ∧ Hid (bodF b 0 (body.map LmG.li) = bodF b k ((body.map LmG.li).drop k)) ∧ Below w2.heap.size w2 wx) (fun _ _ _ i _ => body.length - (intOf i).toNat)
          case atStart => exact ⟨0, rfl, rfl, rfl, rfl, Nat.zero_le _, Lib.hid rfl, HB5.out⟩
          case round =>
            obtain ⟨k, rfl, rfl, rfl, rfl, hk, HFX, hbx⟩ := hrel
            have HBX5 := Lib.hid hbx
            obtain ⟨_, _, _, _, _, _, n6⟩ := box7g_of ((hbx.block w.heap.size (by omega)).trans HBX2.out)
            by_cases hlt : k < body.length
            · obtain ⟨x, hx⟩ : ∃ x, body[k]? = some x := ⟨_, List.getElem?_eq_getElem hlt⟩
              have hxm := List.mem_of_getElem? hx
              have hlx : (body.map LmG.li)[k]? = some x.li := by rw [List.getElem?_map, hx]; rfl
              have hdr : (body.map LmG.li).drop k = x.li :: (body.map LmG.li).drop (k + 1) := by
                obtain ⟨h1, h2⟩ := List.getElem?_eq_some_iff.1 hlx
                rw [List.drop_eq_getElem_cons h1, h2]
              have HXX := Lib.hid hx
              have hx5l := (HSM.out.2.2.2.2 x hxm).1
              have HT6 := Lib.hid (HOK2.out.2.2 x hxm)
              have HBI := Lib.hid (r_atom15 x)
              obtain ⟨q, hq⟩ : ∃ q, atomB x.li = q := ⟨_, rfl⟩
              rw [hq] at HBI
              have hat : q = true → x.args.find? (badT b) = none := fun h => by
                rw [HB.out]
                exact atom_bound (List.mem_of_getElem? hlx) (by rw [hq, h])
              obtain ⟨yn, ys, yA, yc, yargs, yo⟩ := x
              have HAT : Hid (q = true → yargs.find? (badT b) = none) := Lib.hid hat
              have hx5l : yargs.length ≤ 5000 := hx5l
              have HT6 : Hid (ElsAt TmP.cells 6 w2 yA yargs) := HT6
              have HDR : Hid ((body.map LmG.li).drop k = ⟨yn, ys, yargs, yo⟩ :: (body.map LmG.li).drop (k + 1)) := Lib.hid hdr
              have HBI : Hid (∀ W, Calls Try.prog 20 #[.agg #[.bool yn, .string ys, .slice yA yargs.length yc, .int .i64 yo]] W fun e w' => e = .returned (.bool q) ∧ Below W.heap.size W w') := HBI
              obtain ⟨w9, hw9⟩ : ∃ w9, w9 = wr := ⟨_, rfl⟩
              have HW9 := Lib.hid hw9
              clear hbx hx hxm hlx hdr hq hat hw9
              go_wp2
              go_loopw [2, 3, 4, 8] (fun v2 v3 v4 i wx => ∃ j : Nat, v2 = .string ⟨#[]⟩ ∧ v3 = .int .i64 0 ∧ v4 = .bool false ∧ i = .int .i64 j ∧ j ≤ yargs.length ∧ Hid (yargs.find? (badT b) = (yargs.drop j).find? (badT b) ∧ (q = false ∨ j = 0)) ∧ Below w2.heap.size w2 wx) (fun _ _ _ i _ => yargs.length - (intOf i).toNat)
              case atStart => exact ⟨0, rfl, rfl, rfl, rfl, Nat.zero_le _, Lib.hid ⟨rfl, .inr rfl⟩, HBX5.out⟩
              case round =>
                obtain ⟨j, rfl, rfl, rfl, rfl, hj, HFJ, hbj⟩ := hrel
                have HBJ := Lib.hid hbj
                obtain ⟨_, _, _, _, _, _, n6⟩ := box7g_of ((hbj.block w.heap.size (by omega)).trans HBX2.out)
                obtain ⟨a, hAe, a0, a1, a2, a3⟩ := els_L (HOK2.out.below hbj).2.1 HXX.out
                simp only at hAe a0 a1 a2 a3
                have hta := HT6.out.below hbj
                subst hAe
                by_cases hlt2 : j < yargs.length
                · cases q with
                  | true =>
                    have hno := HAT.out rfl
                    have hnx : bodF b 0 (body.map LmG.li) = bodF b (k + 1) ((body.map LmG.li).drop (k + 1)) := by rw [HFX.out, HDR.out, bodF_skip b k _ _ hno]
                    have HNX := Lib.hid hnx
                    clear hbj hta hno hnx
                    go_wp2_with (go_at_call 20; refine (HBI.out _).mono ?_; rintro e w6 ⟨rfl, hb6⟩; have HB6 := Lib.hid hb6; have n6b := (hb6.cell (World.block_lt_of_cell? wr _ n6)).trans n6; have a0b := (hb6.cell (World.block_lt_of_cell? wr _ a0)).trans a0; have a1b := (hb6.cell (World.block_lt_of_cell? wr _ a1)).trans a1; have a2b := (hb6.cell (World.block_lt_of_cell? wr _ a2)).trans a2; have a3b := (hb6.cell (World.block_lt_of_cell? wr _ a3)).trans a3;  clear hb6)
                    go_roundw
                    case rel => exact ⟨k + 1, rfl, rfl, rfl, by go_num, by omega, HNX, HBJ.out.trans (HB6.out.mono HBJ.out.size)⟩
                    case measure => simp [intOf]; omega
                  | false =>
                    obtain ⟨y, hy⟩ : ∃ y, yargs[j]? = some y := ⟨_, List.getElem?_eq_getElem hlt2⟩
                    obtain ⟨a', hYe, b0, b1, b2', b3, b4', b5⟩ := els_T hta hy
                    have hfd := find_drop (badT b) yargs j y hy
                    rw [← HFJ.out.1] at hfd
                    obtain ⟨zs, za, ⟨zk, zf, zn, zt⟩⟩ := y
                    simp only at b0 b1 b2' b3 b4' b5
                    have HFN := Lib.hid hfd
                    have HBD : Hid (badT b ⟨zs, za, ⟨zk, zf, zn, zt⟩⟩ = ((!za && !(zs.toList == [])) && !hasX zs b)) := Lib.hid rfl
                    rw [HBD.out] at HFN
                    subst hYe
                    clear hbj hta hy hfd HBD
                    cases za with
                    | true =>
                      have HFN2 : Hid (yargs.find? (badT b) = (yargs.drop (j + 1)).find? (badT b)) := Lib.hid (by rw [HFN.out]; rfl)
                      go_wp2_with (go_at_call 20; refine (HBI.out _).mono ?_; rintro e w6 ⟨rfl, hb6⟩; have HB6 := Lib.hid hb6; have n6b := (hb6.cell (World.block_lt_of_cell? wr _ n6)).trans n6; have a0b := (hb6.cell (World.block_lt_of_cell? wr _ a0)).trans a0; have a1b := (hb6.cell (World.block_lt_of_cell? wr _ a1)).trans a1; have a2b := (hb6.cell (World.block_lt_of_cell? wr _ a2)).trans a2; have a3b := (hb6.cell (World.block_lt_of_cell? wr _ a3)).trans a3; have b0b := (hb6.cell (World.block_lt_of_cell? wr _ b0)).trans b0; have b1b := (hb6.cell (World.block_lt_of_cell? wr _ b1)).trans b1; have b2b := (hb6.cell (World.block_lt_of_cell? wr _ b2')).trans b2'; have b3b := (hb6.cell (World.block_lt_of_cell? wr _ b3)).trans b3; have b4b := (hb6.cell (World.block_lt_of_cell? wr _ b4')).trans b4'; have b5b := (hb6.cell (World.block_lt_of_cell? wr _ b5)).trans b5; clear hb6)
                      have HW3 := Lib.hid (HB6.out.trans ((one_new w6 (.cells #[.string zs, .bool true, .int .i64 zk, .bool zf, .int .i64 zn, .string zt] 38)).mono HB6.out.size))
                      go_roundw
                      case rel => exact ⟨j + 1, rfl, rfl, rfl, by go_num, by omega, Lib.hid ⟨HFN2.out, .inl trivial⟩, HBJ.out.trans (HW3.out.mono HBJ.out.size)⟩
                      case measure => simp [intOf]; omega
                    | false =>
                      rcases Bool.eq_false_or_eq_true (zs.toList == []) with hs | hs
                      · have HFN2 : Hid (yargs.find? (badT b) = (yargs.drop (j + 1)).find? (badT b)) := Lib.hid (by rw [HFN.out, hs]; rfl)
                        have hsn : (zs.toList != []) = false := by rw [bne, hs]; rfl
                        go_wp2_with (go_at_call 20; refine (HBI.out _).mono ?_; rintro e w6 ⟨rfl, hb6⟩; have HB6 := Lib.hid hb6; have n6b := (hb6.cell (World.block_lt_of_cell? wr _ n6)).trans n6; have a0b := (hb6.cell (World.block_lt_of_cell? wr _ a0)).trans a0; have a1b := (hb6.cell (World.block_lt_of_cell? wr _ a1)).trans a1; have a2b := (hb6.cell (World.block_lt_of_cell? wr _ a2)).trans a2; have a3b := (hb6.cell (World.block_lt_of_cell? wr _ a3)).trans a3; have b0b := (hb6.cell (World.block_lt_of_cell? wr _ b0)).trans b0; have b1b := (hb6.cell (World.block_lt_of_cell? wr _ b1)).trans b1; have b2b := (hb6.cell (World.block_lt_of_cell? wr _ b2')).trans b2'; have b3b := (hb6.cell (World.block_lt_of_cell? wr _ b3)).trans b3; have b4b := (hb6.cell (World.block_lt_of_cell? wr _ b4')).trans b4'; have b5b := (hb6.cell (World.block_lt_of_cell? wr _ b5)).trans b5; clear hb6)
                        have HW3 := Lib.hid (HB6.out.trans ((one_new w6 (.cells #[.string zs, .bool false, .int .i64 zk, .bool zf, .int .i64 zn, .string zt] 38)).mono HB6.out.size))
                        go_roundw
                        case rel => exact ⟨j + 1, rfl, rfl, rfl, by go_num, by omega, Lib.hid ⟨HFN2.out, .inl trivial⟩, HBJ.out.trans (HW3.out.mono HBJ.out.size)⟩
                        case measure => simp [intOf]; omega
                      · have hsn : (zs.toList != []) = true := by rw [bne, hs]; rfl
                        obtain ⟨hh, hhh⟩ : ∃ hh, hasX zs b = hh := ⟨_, rfl⟩
                        have HHZ := Lib.hid (HHV.out zs)
                        rw [hhh] at HHZ HFN
                        rw [hs] at HFN
                        clear hhh
                        cases hh with
                        | true =>
                          have HFN2 : Hid (yargs.find? (badT b) = (yargs.drop (j + 1)).find? (badT b)) := Lib.hid (by rw [HFN.out]; rfl)
                          go_wp2_with (first
                            | (go_at_call 20; refine (HBI.out _).mono ?_; rintro e w6 ⟨rfl, hb6⟩; have HB6 := Lib.hid hb6; have n6b := (hb6.cell (World.block_lt_of_cell? wr _ n6)).trans n6; have a0b := (hb6.cell (World.block_lt_of_cell? wr _ a0)).trans a0; have a1b := (hb6.cell (World.block_lt_of_cell? wr _ a1)).trans a1; have a2b := (hb6.cell (World.block_lt_of_cell? wr _ a2)).trans a2; have a3b := (hb6.cell (World.block_lt_of_cell? wr _ a3)).trans a3; have b0b := (hb6.cell (World.block_lt_of_cell? wr _ b0)).trans b0; have b1b := (hb6.cell (World.block_lt_of_cell? wr _ b1)).trans b1; have b2b := (hb6.cell (World.block_lt_of_cell? wr _ b2')).trans b2'; have b3b := (hb6.cell (World.block_lt_of_cell? wr _ b3)).trans b3; have b4b := (hb6.cell (World.block_lt_of_cell? wr _ b4')).trans b4'; have b5b := (hb6.cell (World.block_lt_of_cell? wr _ b5)).trans b5; clear hb6)
                            | (go_at_call 19; refine (HHZ.out _ (HBJ.out.trans ((HB6.out.trans ((one_new w6 (.cells #[.string zs, .bool false, .int .i64 zk, .bool zf, .int .i64 zn, .string zt] 38)).mono HB6.out.size)).mono HBJ.out.size))).mono ?_; rintro e w7 ⟨rfl, hb7⟩; have HW3 := Lib.hid ((HB6.out.trans ((one_new w6 (.cells #[.string zs, .bool false, .int .i64 zk, .bool zf, .int .i64 zn, .string zt] 38)).mono HB6.out.size)).trans (hb7.mono (Nat.le_trans HB6.out.size (by simp)))); clear hb7))
                          go_roundw
                          case rel => exact ⟨j + 1, rfl, rfl, rfl, by go_num, by omega, Lib.hid ⟨HFN2.out, .inl trivial⟩, HBJ.out.trans (HW3.out.mono HBJ.out.size)⟩
                          case measure => simp [intOf]; omega
                        | false =>
                          have hff : F = (zs, (k : Int), true) := by
                            rw [HF3.out, HFX.out, HDR.out, bodF_hit b k _ _ ⟨zs, false, ⟨zk, zf, zn, zt⟩⟩ (by rw [HFN.out]; rfl)]
                          have HFF := Lib.hid hff
                          clear hff
                          go_wp2_with (first
                            | (go_at_call 20; refine (HBI.out _).mono ?_; rintro e w6 ⟨rfl, hb6⟩; have HB6 := Lib.hid hb6; have n6b := (hb6.cell (World.block_lt_of_cell? wr _ n6)).trans n6; have a0b := (hb6.cell (World.block_lt_of_cell? wr _ a0)).trans a0; have a1b := (hb6.cell (World.block_lt_of_cell? wr _ a1)).trans a1; have a2b := (hb6.cell (World.block_lt_of_cell? wr _ a2)).trans a2; have a3b := (hb6.cell (World.block_lt_of_cell? wr _ a3)).trans a3; have b0b := (hb6.cell (World.block_lt_of_cell? wr _ b0)).trans b0; have b1b := (hb6.cell (World.block_lt_of_cell? wr _ b1)).trans b1; have b2b := (hb6.cell (World.block_lt_of_cell? wr _ b2')).trans b2'; have b3b := (hb6.cell (World.block_lt_of_cell? wr _ b3)).trans b3; have b4b := (hb6.cell (World.block_lt_of_cell? wr _ b4')).trans b4'; have b5b := (hb6.cell (World.block_lt_of_cell? wr _ b5)).trans b5; clear hb6)
                            | (go_at_call 19; refine (HHZ.out _ (HBJ.out.trans ((HB6.out.trans ((one_new w6 (.cells #[.string zs, .bool false, .int .i64 zk, .bool zf, .int .i64 zn, .string zt] 38)).mono HB6.out.size)).mono HBJ.out.size))).mono ?_; rintro e w7 ⟨rfl, hb7⟩; have HW3 := Lib.hid ((HB6.out.trans ((one_new w6 (.cells #[.string zs, .bool false, .int .i64 zk, .bool zf, .int .i64 zn, .string zt] 38)).mono HB6.out.size)).trans (hb7.mono (Nat.le_trans HB6.out.size (by simp)))); have m0 := cell_of_row _ w6.heap.size 0 _ _ (0, 0) ((hb7.block w6.heap.size (by simp)).trans (heap_alloc_new w6 (.cells #[.string zs, .bool false, .int .i64 zk, .bool zf, .int .i64 zn, .string zt] 38))); clear hb7))
                          go_ret3
                          rw [HFF.out]
                          exact ⟨rfl, HON2.out.trans ((HBJ.out.trans (HW3.out.mono HBJ.out.size)).mono (by omega))⟩
                · have hno : yargs.find? (badT b) = none := by rw [HFJ.out.1, List.drop_eq_nil_of_le (by omega)]; rfl
                  have hnx : bodF b 0 (body.map LmG.li) = bodF b (k + 1) ((body.map LmG.li).drop (k + 1)) := by rw [HFX.out, HDR.out, bodF_skip b k _ _ hno]
                  have HNX := Lib.hid hnx
                  clear hbj hta hno hnx
                  go_wp2
                  go_roundw
                  case rel => exact ⟨k + 1, rfl, rfl, rfl, by go_num, by omega, HNX, HBJ.out⟩
                  case measure => simp [intOf]; omega
            · have hff : F = (⟨#[]⟩, 0, false) := by
                rw [HF3.out, HFX.out, List.drop_eq_nil_of_le (by rw [List.length_map]; omega)]
                rfl
              have HFF := Lib.hid hff
              clear hff hbx
              go_wp2
              go_ret3
              rw [HFF.out]
              exact ⟨rfl, HON2.out.trans (HBX5.out.mono (by omega))⟩
end Go.Proofs.Ytmkejlhkipngnaa
