/-
  The document's Bound of layer 15: the variables that atoms bind.
  Condition: a rule of which not very much is to be read.
  The first variable that a rule asks, but that no atom binds, as a plain function; told of package guard: what a rule asks by what it tells.
  Condition: a rule of which not very much is to be read.
-/
import Derived.Test.YtmkejlhkipngnaaM27
namespace Go.Proofs.Ytmkejlhkipngnaa
section
open Go.RowKit Go.Maps

theorem OwnF.els {w : World} {base : Nat} {v : Value} {l : List ByteArray} (h : OwnSt w base v l) : ∃ A c, v = .slice A l.length c ∧ ElsAt strC 1 w A l := by
  rcases h.slice el_Str with ⟨rfl, rfl⟩ | ⟨g, c, rfl, _, _, _, he⟩
  · exact ⟨none, 0, rfl, fun i x hi => by simp at hi⟩
  · exact ⟨_, c, rfl, he⟩

set_option maxRecDepth 100000 in
set_option maxHeartbeats 4000000 in
theorem r_Bound (r : RuG) (w : World) (hr : r.Ok w) (hsm : r.Sml) :
    Calls Try.prog 13 #[.agg r.cells] w fun e w' => ∃ v, e = .returned v ∧ OwnSt w' w.heap.size v (bndL (r.body.map LmG.li)) ∧ Below w.heap.size w w' := by
  have hon := one_new w (.cells r.cells 25)
  have hok0 := hr.below hon
  have h0 := heap_alloc_new w (.cells r.cells 25)
  obtain ⟨B, hB⟩ : ∃ B, B = bndL (r.body.map LmG.li) := ⟨_, rfl⟩
  rw [← hB]
  have HB := Lib.hid hB
  have HOK := Lib.hid hok0
  have HON := Lib.hid hon
  have H0 := Lib.hid h0
  have HSM := Lib.hid hsm
  have hbl := hsm.2.1
  clear hr hon hok0 h0 hB hsm
  obtain ⟨k0, nm, hA, hc, head, ag, ofv, lim, bA, bc, body⟩ := r
  simp only at hbl
  have HBD := Lib.hid (show B = bndL (body.map LmG.li) from HB.out)
  have HS2 : Hid (∀ x ∈ body, x.args.length ≤ 5000 ∧ ∀ t ∈ x.args, t.s.size ≤ maxLen) := Lib.hid HSM.out.2.2.2.2
  have HL : Hid (LgsAt (w.alloc (.cells #[.int .i64 k0, .string nm, .slice hA head.length hc, .int .i64 ag, .string ofv, .int .i64 lim, .slice bA body.length bc] 25)) bA body) := Lib.hid HOK.out.2
  have HN : Hid (Below w.heap.size w (w.alloc (.cells #[.int .i64 k0, .string nm, .slice hA head.length hc, .int .i64 ag, .string ofv, .int .i64 lim, .slice bA body.length bc] 25))) := Lib.hid HON.out
  have HBX : Hid ((w.alloc (.cells #[.int .i64 k0, .string nm, .slice hA head.length hc, .int .i64 ag, .string ofv, .int .i64 lim, .slice bA body.length bc] 25)).heap[w.heap.size]? = some (.cells #[.int .i64 k0, .string nm, .slice hA head.length hc, .int .i64 ag, .string ofv, .int .i64 lim, .slice bA body.length bc] 25 (0, 0))) := Lib.hid H0.out
  obtain ⟨W0, hW0⟩ : ∃ W0, W0 = (w.alloc (.cells #[.int .i64 k0, .string nm, .slice hA head.length hc, .int .i64 ag, .string ofv, .int .i64 lim, .slice bA body.length bc] 25)) := ⟨_, rfl⟩
  obtain ⟨mb, hmb⟩ : ∃ mb, mb = w.heap.size + 1 := ⟨_, rfl⟩
  have hz0 : W0.heap.size = mb := by rw [hW0, hmb]; exact World.size_alloc _ _
  rw [← hW0] at HL HN HBX
  have HZ0 := Lib.hid hz0
  have HMB := Lib.hid hmb
  have HW0 := Lib.hid hW0
  have hst0 : OwnSt W0 mb (.slice none 0 0) [] := OwnF.nil _ _
  have HST0 := Lib.hid hst0
  clear HB HSM HOK HON H0 hst0 hz0 hmb hW0
  go_enter Try.func13, Try.ntmps13
  go_wp2
  go_loopw [3, 4] (fun v i wr => ∃ (k : Nat), i = .int .i64 k ∧ k ≤ body.length ∧ OwnSt wr mb v (((body.map LmG.li).take k).foldl stepL []) ∧ Below mb W0 wr) (fun _ i _ => body.length - (intOf i).toNat)
  case atStart => exact ⟨0, rfl, Nat.zero_le _, by rw [← HW0.out]; simpa using HST0.out, by rw [← HW0.out]; exact Below.refl _ _⟩
  case round =>
    obtain ⟨k, rfl, hk, hown, hbl0⟩ := hrel
    have hlen : (((body.map LmG.li).take k).foldl stepL []).length ≤ 205000 := by
      have h1 := foldL_len ((body.map LmG.li).take k) [] (fun x hx => by
        obtain ⟨y, hy, rfl⟩ := List.mem_map.1 (List.mem_of_mem_take hx)
        exact (HS2.out y hy).1)
      rw [List.length_take, List.length_map] at h1
      have h2 : min k body.length ≤ 41 := by omega
      have h3 : min k body.length * 5000 ≤ 41 * 5000 := Nat.mul_le_mul_right _ h2
      simp only [List.length_nil, Nat.zero_add] at h1
      omega
    have hsz : mb ≤ wr.heap.size := by have := hbl0.size; rw [HZ0.out] at this; exact this
    have n6 := cell_of_row _ w.heap.size 6 _ _ (0, 0) ((hbl0.block w.heap.size (by rw [HMB.out]; omega)).trans HBX.out)
    obtain ⟨out, hout⟩ : ∃ out, ((body.map LmG.li).take k).foldl stepL [] = out := ⟨_, rfl⟩
    rw [hout] at hown hlen
    have HOWN := Lib.hid hown
    have HBL := Lib.hid hbl0
    by_cases hlt : k < body.length
    · obtain ⟨x, hx⟩ : ∃ x, body[k]? = some x := ⟨_, List.getElem?_eq_getElem hlt⟩
      have hxm := List.mem_of_getElem? hx
      have hnext : ((body.map LmG.li).take (k + 1)).foldl stepL [] = stepL out x.li := by rw [fold_next stepL _ k x.li [] (by rw [List.getElem?_map, hx]; rfl), hout]
      have HT := Lib.hid (HL.out.2 x hxm)
      have hx5 := HS2.out x hxm
      have HX5 := Lib.hid hx5.2
      have hx5l := hx5.1
      have HNX := Lib.hid hnext
      have HXX := Lib.hid hx
      have HBI := Lib.hid (r_atom15 x)
      obtain ⟨q, hq⟩ : ∃ q, atomB x.li = q := ⟨_, rfl⟩
      have HQ := Lib.hid hq
      rw [hq] at HBI
      clear hx hxm hnext hx5 hq hout
      obtain ⟨yn, ys, yA, yc, yargs, yo⟩ := x
      have HBI : Hid (∀ W, Calls Try.prog 20 #[.agg #[.bool yn, .string ys, .slice yA yargs.length yc, .int .i64 yo]] W fun e w' => e = .returned (.bool q) ∧ Below W.heap.size W w') := HBI
      have hx5l : yargs.length ≤ 5000 := hx5l
      have HX5 : Hid (∀ t ∈ yargs, t.s.size ≤ maxLen) := HX5
      have HT : Hid (ElsAt TmP.cells 6 W0 yA yargs) := HT
      have HFOLD : Hid (stepL out (LmG.li ⟨yn, ys, yA, yc, yargs, yo⟩) = if q = true then yargs.foldl stepT out else out) := Lib.hid (by unfold stepL; rw [HQ.out])
      obtain ⟨wo, hwo⟩ : ∃ wo, wo = wr := ⟨_, rfl⟩
      have HWO := Lib.hid hwo
      clear hown hbl0 hwo
      go_wp2
      go_loopw [3, 5] (fun v i wr => ∃ (j : Nat) (o2 : List ByteArray), i = .int .i64 j ∧ j ≤ yargs.length ∧ o2.length ≤ 205000 + j ∧ Hid (o2 = (yargs.take j).foldl stepT out ∧ (q = true ∨ j = 0)) ∧ OwnSt wr mb v o2 ∧ Below mb W0 wr) (fun _ i _ => yargs.length - (intOf i).toNat)
      case atStart => exact ⟨0, out, rfl, Nat.zero_le _, by omega, Lib.hid ⟨rfl, .inr rfl⟩, by first | exact HOWN.out | (rw [← HWO.out]; exact HOWN.out), by first | exact HBL.out | (rw [← HWO.out]; exact HBL.out)⟩
      case round =>
        obtain ⟨j, o2, rfl, hj, ho2, HO2, hown, hbl1⟩ := hrel
        have hszr : mb ≤ wr.heap.size := by have := hbl1.size; rw [HZ0.out] at this; exact this
        have n6 := cell_of_row _ w.heap.size 6 _ _ (0, 0) ((hbl1.block w.heap.size (by rw [HMB.out]; omega)).trans HBX.out)
        have HOW := Lib.hid hown
        have HBW := Lib.hid hbl1
        have hl1 := (HL.out.below (by rw [HZ0.out]; exact hbl1)).1
        obtain ⟨a, rfl, a0, a1, a2, a3⟩ := els_L hl1 HXX.out
        simp only at a0 a1 a2 a3
        have hta := HT.out.below (by rw [HZ0.out]; exact hbl1)
        obtain ⟨oA, oc, hv⟩ := hown.shape
        subst hv
        by_cases hlt2 : j < yargs.length
        · cases q with
          | false =>
            have hz : o2 = out := by
              rcases HO2.out.2 with h | h
              · cases h
              · rw [HO2.out.1, h]; rfl
            have HZ := Lib.hid hz
            clear hown hbl1 hl1 hta hz
            go_wp2_with (go_at_call 20; refine (HBI.out _).mono ?_; rintro e w2 ⟨rfl, hb2⟩; have HB2 := Lib.hid hb2; clear hb2)
            go_roundw
            case rel => exact ⟨k + 1, by go_num, by omega, by rw [HNX.out, HFOLD.out, if_neg Bool.false_ne_true, ← HZ.out]; exact HOW.out.below HB2.out, HBW.out.trans (HB2.out.mono hszr)⟩
            case measure => simp [intOf]; omega
          | true =>
            obtain ⟨y, hy⟩ : ∃ y, yargs[j]? = some y := ⟨_, List.getElem?_eq_getElem hlt2⟩
            have hstep : (yargs.take (j + 1)).foldl stepT out = stepT o2 y := by rw [fold_next stepT yargs j y out hy, HO2.out.1]
            have HSTEP := Lib.hid hstep
            obtain ⟨a', rfl, b0, b1, b2, b3, b4, b5⟩ := els_T hta hy
            obtain ⟨zs, za, ⟨zk, zf, zn, zt⟩⟩ := y
            simp only at b0 b1 b2 b3 b4 b5
            have HHV : Hid (∀ W, Below wr.heap.size wr W → Calls Try.prog 19 #[.slice oA o2.length oc, .string zs] W fun e W' => e = .returned (.bool (hasX zs o2)) ∧ Below W.heap.size W W') := Lib.hid fun W hW => by
              obtain ⟨A2, c2, hv2, he2⟩ := OwnF.els (HOW.out.below hW)
              injection hv2 with e1 _ e3
              subst e1 e3
              exact r_has15 o2 _ _ zs W (by omega) he2
            have HIS : Hid (isV ⟨zs, za, ⟨zk, zf, zn, zt⟩⟩ = (!za && !(zs.toList == []))) := Lib.hid rfl
            have HST : Hid (stepT o2 ⟨zs, za, ⟨zk, zf, zn, zt⟩⟩ = if (isV ⟨zs, za, ⟨zk, zf, zn, zt⟩⟩ && !hasX zs o2) = true then o2 ++ [zs] else o2) := Lib.hid rfl
            clear hown hbl1 hl1 hta hy hstep
            cases za with
            | true =>
              have hno : stepT o2 ⟨zs, true, ⟨zk, zf, zn, zt⟩⟩ = o2 := by rw [HST.out, HIS.out]; rfl
              have HNO := Lib.hid hno
              clear hno
              go_wp2_with (go_at_call 20; refine (HBI.out _).mono ?_; rintro e w2 ⟨rfl, hb2⟩; have HB2 := Lib.hid hb2; have n6b := (hb2.cell (World.block_lt_of_cell? wr _ n6)).trans n6; have a0b := (hb2.cell (World.block_lt_of_cell? wr _ a0)).trans a0; have a1b := (hb2.cell (World.block_lt_of_cell? wr _ a1)).trans a1; have a2b := (hb2.cell (World.block_lt_of_cell? wr _ a2)).trans a2; have a3b := (hb2.cell (World.block_lt_of_cell? wr _ a3)).trans a3; have b0b := (hb2.cell (World.block_lt_of_cell? wr _ b0)).trans b0; have b1b := (hb2.cell (World.block_lt_of_cell? wr _ b1)).trans b1; have b2b := (hb2.cell (World.block_lt_of_cell? wr _ b2)).trans b2; have b3b := (hb2.cell (World.block_lt_of_cell? wr _ b3)).trans b3; have b4b := (hb2.cell (World.block_lt_of_cell? wr _ b4)).trans b4; have b5b := (hb2.cell (World.block_lt_of_cell? wr _ b5)).trans b5; clear hb2)
              have HW3 := Lib.hid (HB2.out.trans ((one_new w2 (.cells #[.string zs, .bool true, .int .i64 zk, .bool zf, .int .i64 zn, .string zt] 38)).mono HB2.out.size))
              go_roundw
              case rel => exact ⟨j + 1, o2, by go_num, by omega, by omega, Lib.hid ⟨by rw [HSTEP.out, HNO.out], .inl trivial⟩, HOW.out.below HW3.out, HBW.out.trans (HW3.out.mono hszr)⟩
              case measure => simp [intOf]; omega
            | false =>
              rcases Bool.eq_false_or_eq_true (zs.toList == []) with hs | hs
              · have hno : stepT o2 ⟨zs, false, ⟨zk, zf, zn, zt⟩⟩ = o2 := by rw [HST.out, HIS.out, hs]; rfl
                have HNO := Lib.hid hno
                have hsn : (zs.toList != []) = false := by rw [bne, hs]; rfl
                clear hno
                go_wp2_with (go_at_call 20; refine (HBI.out _).mono ?_; rintro e w2 ⟨rfl, hb2⟩; have HB2 := Lib.hid hb2; have n6b := (hb2.cell (World.block_lt_of_cell? wr _ n6)).trans n6; have a0b := (hb2.cell (World.block_lt_of_cell? wr _ a0)).trans a0; have a1b := (hb2.cell (World.block_lt_of_cell? wr _ a1)).trans a1; have a2b := (hb2.cell (World.block_lt_of_cell? wr _ a2)).trans a2; have a3b := (hb2.cell (World.block_lt_of_cell? wr _ a3)).trans a3; have b0b := (hb2.cell (World.block_lt_of_cell? wr _ b0)).trans b0; have b1b := (hb2.cell (World.block_lt_of_cell? wr _ b1)).trans b1; have b2b := (hb2.cell (World.block_lt_of_cell? wr _ b2)).trans b2; have b3b := (hb2.cell (World.block_lt_of_cell? wr _ b3)).trans b3; have b4b := (hb2.cell (World.block_lt_of_cell? wr _ b4)).trans b4; have b5b := (hb2.cell (World.block_lt_of_cell? wr _ b5)).trans b5; clear hb2)
                have HW3 := Lib.hid (HB2.out.trans ((one_new w2 (.cells #[.string zs, .bool false, .int .i64 zk, .bool zf, .int .i64 zn, .string zt] 38)).mono HB2.out.size))
                go_roundw
                case rel => exact ⟨j + 1, o2, by go_num, by omega, by omega, Lib.hid ⟨by rw [HSTEP.out, HNO.out], .inl trivial⟩, HOW.out.below HW3.out, HBW.out.trans (HW3.out.mono hszr)⟩
                case measure => simp [intOf]; omega
              · have hsn : (zs.toList != []) = true := by rw [bne, hs]; rfl
                obtain ⟨hh, hhh⟩ : ∃ hh, hasX zs o2 = hh := ⟨_, rfl⟩
                rw [hhh] at HHV HST
                rw [HIS.out, hs] at HST
                clear hhh
                cases hh with
                | true =>
                  have HNO : Hid (stepT o2 ⟨zs, false, ⟨zk, zf, zn, zt⟩⟩ = o2) := HST
                  go_wp2_with (first
                    | (go_at_call 20; refine (HBI.out _).mono ?_; rintro e w2 ⟨rfl, hb2⟩; have HB2 := Lib.hid hb2; have n6b := (hb2.cell (World.block_lt_of_cell? wr _ n6)).trans n6; have a0b := (hb2.cell (World.block_lt_of_cell? wr _ a0)).trans a0; have a1b := (hb2.cell (World.block_lt_of_cell? wr _ a1)).trans a1; have a2b := (hb2.cell (World.block_lt_of_cell? wr _ a2)).trans a2; have a3b := (hb2.cell (World.block_lt_of_cell? wr _ a3)).trans a3; have b0b := (hb2.cell (World.block_lt_of_cell? wr _ b0)).trans b0; have b1b := (hb2.cell (World.block_lt_of_cell? wr _ b1)).trans b1; have b2b := (hb2.cell (World.block_lt_of_cell? wr _ b2)).trans b2; have b3b := (hb2.cell (World.block_lt_of_cell? wr _ b3)).trans b3; have b4b := (hb2.cell (World.block_lt_of_cell? wr _ b4)).trans b4; have b5b := (hb2.cell (World.block_lt_of_cell? wr _ b5)).trans b5; clear hb2)
                    | (go_at_call 19; refine (HHV.out _ (HB2.out.trans ((one_new w2 (.cells #[.string zs, .bool false, .int .i64 zk, .bool zf, .int .i64 zn, .string zt] 38)).mono HB2.out.size))).mono ?_; rintro e w4 ⟨rfl, hb4⟩; have HW3 := Lib.hid ((HB2.out.trans ((one_new w2 (.cells #[.string zs, .bool false, .int .i64 zk, .bool zf, .int .i64 zn, .string zt] 38)).mono HB2.out.size)).trans (hb4.mono (Nat.le_trans HB2.out.size (by simp)))); clear hb4))
                  go_roundw
                  case rel => exact ⟨j + 1, o2, by go_num, by omega, by omega, Lib.hid ⟨by rw [HSTEP.out, HNO.out], .inl trivial⟩, HOW.out.below HW3.out, HBW.out.trans (HW3.out.mono hszr)⟩
                  case measure => simp [intOf]; omega
                | false =>
                  have HYE : Hid (stepT o2 ⟨zs, false, ⟨zk, zf, zn, zt⟩⟩ = o2 ++ [zs]) := HST
                  have q3 : o2.length ≤ 1000000 := by omega
                  go_wp2_with (first
                    | (go_at_call 20; refine (HBI.out _).mono ?_; rintro e w2 ⟨rfl, hb2⟩; have HB2 := Lib.hid hb2; have n6b := (hb2.cell (World.block_lt_of_cell? wr _ n6)).trans n6; have a0b := (hb2.cell (World.block_lt_of_cell? wr _ a0)).trans a0; have a1b := (hb2.cell (World.block_lt_of_cell? wr _ a1)).trans a1; have a2b := (hb2.cell (World.block_lt_of_cell? wr _ a2)).trans a2; have a3b := (hb2.cell (World.block_lt_of_cell? wr _ a3)).trans a3; have b0b := (hb2.cell (World.block_lt_of_cell? wr _ b0)).trans b0; have b1b := (hb2.cell (World.block_lt_of_cell? wr _ b1)).trans b1; have b2b := (hb2.cell (World.block_lt_of_cell? wr _ b2)).trans b2; have b3b := (hb2.cell (World.block_lt_of_cell? wr _ b3)).trans b3; have b4b := (hb2.cell (World.block_lt_of_cell? wr _ b4)).trans b4; have b5b := (hb2.cell (World.block_lt_of_cell? wr _ b5)).trans b5; clear hb2)
                    | (go_at_call 19; refine (HHV.out _ (HB2.out.trans ((one_new w2 (.cells #[.string zs, .bool false, .int .i64 zk, .bool zf, .int .i64 zn, .string zt] 38)).mono HB2.out.size))).mono ?_; rintro e w4 ⟨rfl, hb4⟩; have HW3 := Lib.hid ((HB2.out.trans ((one_new w2 (.cells #[.string zs, .bool false, .int .i64 zk, .bool zf, .int .i64 zn, .string zt] 38)).mono HB2.out.size)).trans (hb4.mono (Nat.le_trans HB2.out.size (by simp)))); have m0 := cell_of_row _ w2.heap.size 0 _ _ (0, 0) ((hb4.block w2.heap.size (by simp)).trans (heap_alloc_new w2 (.cells #[.string zs, .bool false, .int .i64 zk, .bool zf, .int .i64 zn, .string zt] 38))); have q2 := lit_F strC w4 zs #[.string zs] 9 rfl; have HOX := Lib.hid ((HOW.out.below HW3.out).alloc (.cells #[.string zs] 9)); have q4 : mb ≤ (w4.alloc (.cells #[.string zs] 9)).heap.size := (by rw [World.size_alloc]; have := HW3.out.size; omega); clear hb4)
                    | (at_builtin; refine wp_append_F el_Str _ rfl (.tmp 57) (.tmp 60) rfl mb (.slice oA o2.length oc) o2 zs rfl (by exact HOX.out) ⟨w4.heap.size, 0, none⟩ 1 rfl q2 q3 q4 ?_; intro v' w7 hown' hb7 hgrow hor; obtain ⟨A7, c7, hv7⟩ := hown'.shape; rw [List.length_append, List.length_singleton] at hv7; subst hv7))
                  have hsz4 : mb ≤ w4.heap.size := by have := HW3.out.size; omega
                  have hb47 : Below mb w4 w7 := ((one_new w4 (.cells #[.string zs] 9)).mono hsz4).trans hb7
                  go_roundw
                  case rel => exact ⟨j + 1, o2 ++ [zs], by go_num, by omega, by rw [List.length_append]; simp; omega, Lib.hid ⟨by rw [HSTEP.out, HYE.out], .inl trivial⟩, hown', (HBW.out.trans (HW3.out.mono hszr)).trans hb47⟩
                  case measure => simp [intOf]; omega
        · have hfin : stepL out (LmG.li ⟨yn, ys, yA, yc, yargs, yo⟩) = o2 := by
            rw [HFOLD.out]
            rcases HO2.out.2 with h | h
            · rw [if_pos h, HO2.out.1, List.take_of_length_le (by omega)]
            · have hnil : yargs = [] := List.eq_nil_of_length_eq_zero (by omega)
              rw [HO2.out.1, hnil]
              cases q <;> simp
          have HFIN := Lib.hid hfin
          clear hown hbl1 hl1 hta hfin
          go_wp2
          go_roundw
          case rel => exact ⟨k + 1, by go_num, by omega, by rw [HNX.out, HFIN.out]; exact HOW.out, HBW.out⟩
          case measure => simp [intOf]; omega
    · have he : (((body.map LmG.li).take k)).foldl stepL [] = bndL (body.map LmG.li) := by
        rw [List.take_of_length_le (by rw [List.length_map]; omega)]
        rfl
      have hoB : out = B := by rw [HBD.out, ← he, hout]
      have HOB := Lib.hid hoB
      obtain ⟨oA, oc, hv⟩ := hown.shape
      subst hv
      clear hown hbl0 hout he hoB
      go_wp2
      go_ret
      exact ⟨_, rfl, by rw [← HOB.out]; exact HOWN.out.lower (by rw [HMB.out]; omega), HN.out.trans (HBL.out.mono (by rw [HMB.out]; omega))⟩
end
end Go.Proofs.Ytmkejlhkipngnaa
namespace Go.Proofs.Ytmkejlhkipngnaa
section
open Go.RowKit Go.Maps

/-- What a rule asks by what it tells. -/
def toldL (x : RuP) : List ByteArray := x.head ++ if 2 ≤ x.ag ∧ x.ag ≤ 4 then [x.ofv] else []
def badT (b : List ByteArray) (t : TmP) : Bool := isV t && !hasX t.s b
/-- The first term of a body's that is not bound, and where. -/
def bodF (b : List ByteArray) : Nat → List LiP → Option (ByteArray × Nat)
  | _, [] => none
  | i, x :: xs => match x.args.find? (badT b) with
    | some t => some (t.s, i)
    | none => bodF b (i + 1) xs
def freeX (x : RuP) : ByteArray × Int × Bool := match (toldL x).find? (fun s => !hasX s (bndL x.body)) with
  | some s => (s, -1, true)
  | none => match bodF (bndL x.body) 0 x.body with
    | some (s, i) => (s, (i : Int), true)
    | none => (⟨#[]⟩, 0, false)

theorem stepT_mono {s : ByteArray} {out : List ByteArray} (t : TmP) (h : hasX s out = true) : hasX s (stepT out t) = true := by
  unfold stepT
  split
  · rw [hasX_app, h, Bool.or_true]
  · exact h
theorem foldT_mono {s : ByteArray} : ∀ (l : List TmP) (out : List ByteArray), hasX s out = true → hasX s (l.foldl stepT out) = true
  | [], _, h => h
  | t :: l, out, h => foldT_mono l (stepT out t) (stepT_mono t h)
theorem foldT_mem {t : TmP} (hv : isV t = true) : ∀ (l : List TmP) (out : List ByteArray), t ∈ l → hasX t.s (l.foldl stepT out) = true
  | [], _, h => absurd h List.not_mem_nil
  | u :: l, out, h => by
    rcases List.mem_cons.1 h with rfl | h
    · refine foldT_mono l _ ?_
      unfold stepT
      rw [hv, Bool.true_and]
      cases hh : hasX t.s out with
      | true => rw [if_neg (by simp)]; exact hh
      | false => rw [if_pos (by simp), hasX_app]; simp
    · exact foldT_mem hv l (stepT out u) h
theorem stepL_mono {s : ByteArray} {out : List ByteArray} (x : LiP) (h : hasX s out = true) : hasX s (stepL out x) = true := by
  unfold stepL
  split
  · exact foldT_mono _ _ h
  · exact h
theorem foldL_mono {s : ByteArray} : ∀ (l : List LiP) (out : List ByteArray), hasX s out = true → hasX s (l.foldl stepL out) = true
  | [], _, h => h
  | x :: l, out, h => foldL_mono l (stepL out x) (stepL_mono x h)
theorem foldL_mem {x : LiP} (ha : atomB x = true) {t : TmP} (ht : t ∈ x.args) (hv : isV t = true) : ∀ (l : List LiP) (out : List ByteArray), x ∈ l → hasX t.s (l.foldl stepL out) = true
  | [], _, h => absurd h List.not_mem_nil
  | y :: l, out, h => by
    rcases List.mem_cons.1 h with rfl | h
    · refine foldL_mono l _ ?_
      unfold stepL
      rw [if_pos ha]
      exact foldT_mem hv _ _ ht
    · exact foldL_mem ha ht hv l (stepL out y) h
/-- In an atom all is bound. -/
theorem atom_bound {l : List LiP} {x : LiP} (hx : x ∈ l) (ha : atomB x = true) : x.args.find? (badT (bndL l)) = none := by
  rw [List.find?_eq_none]
  intro t ht
  unfold badT
  cases hv : isV t with
  | false => simp
  | true =>
    have := foldL_mem ha ht hv l [] hx
    unfold bndL
    rw [this]
    simp
theorem bodF_skip (b : List ByteArray) (i : Nat) (x : LiP) (xs : List LiP) (h : x.args.find? (badT b) = none) : bodF b i (x :: xs) = bodF b (i + 1) xs := by
  rw [bodF, h]
theorem bodF_hit (b : List ByteArray) (i : Nat) (x : LiP) (xs : List LiP) (t : TmP) (h : x.args.find? (badT b) = some t) : bodF b i (x :: xs) = some (t.s, i) := by
  rw [bodF, h]
theorem find_drop {α : Type} (p : α → Bool) (l : List α) (k : Nat) (x : α) (h : l[k]? = some x) : (l.drop k).find? p = if p x = true then some x else (l.drop (k + 1)).find? p := by
  obtain ⟨h1, h2⟩ := List.getElem?_eq_some_iff.1 h
  rw [List.drop_eq_getElem_cons h1, h2, List.find?_cons]
  cases p x <;> rfl

set_option maxRecDepth 10000 in
theorem wp_append_S {ops : Array Oper} {rest : List Oper} {o : Oper} {a : Act} {Q : Exit → Act → World → Prop} (w : World) (hgd : o.guard = none) (s x : Operand)
    (ho : o.op = .call { callee := .builtin .append, args := #[s, x], argTypes := #[22, 22] })
    (base : Nat) (v : Value) (xs ys : List ByteArray) (hs : a.eval s = v) (hown : OwnSt w base v xs)
    (A : Option Addr) (m c : Nat) (hx : a.eval x = .slice A m c) (hm : m = ys.length) (hr : ElsAt strC 1 w A ys)
    (hroom : xs.length + ys.length ≤ 3000000) (hbase : base ≤ w.heap.size)
    (h : ∀ v' w', OwnSt w' base v' (xs ++ ys) → Below base w w' → wpList Try.prog ops Q rest (a.put o.dst v') w') : wpList Try.prog ops Q (o :: rest) a w := by
  obtain ⟨z, hz0, hzc⟩ := el_Str.info
  obtain ⟨i, hi, hz, hsize, hby⟩ := info_parts hz0
  refine wpList_plain hgd fun K hK => ?_
  have hrun : ∃ v' w', (Builtin.append_ #[22, 22] o.type #[v, .slice A m c]).run Try.prog w = .ok v' w' ∧ OwnSt w' base v' (xs ++ ys) ∧ w.grownBy w' v.ownBlock := by
    cases A with
    | none =>
      have hy : ys = [] := by
        cases ys with
        | nil => rfl
        | cons y ys =>
          obtain ⟨a, ha, _⟩ := hr 0 y rfl
          cases ha
      subst hy
      subst hm
      refine ⟨v, w, ?_, by simpa using hown, World.grownBy.refl _ _⟩
      rcases hown.2 with ⟨rfl, _⟩ | ⟨g, cap, cur, rfl, _, _, hnc, _⟩
      · simp [Builtin.append_, run_underlying Try.underlying22, sizeOf, typeInfo, hi, Builtin.lenOf, Builtin.firstCells]
      · simp [Builtin.append_, run_underlying Try.underlying22, sizeOf, typeInfo, hi, Builtin.lenOf, Builtin.firstCells, hnc, storeCells]
    | some ad =>
      obtain ⟨v', w', h1, h2, h3, _⟩ := run_append_own_at (P := Try.prog) w base 22 o.type 9 i _ 1 16 Try.underlying22 hi hz hsize hby hzc (by omega) v xs.length (xs.flatMap strC) hown ad m c (ys.flatMap strC)
        (by rw [flatF_len el_Str.len, hm]) (fun j u hj => by
          have hjl : j < ys.length := by
            have := (List.getElem?_eq_some_iff.1 hj).1
            rw [flatF_len el_Str.len] at this
            omega
          have h1 := flatF_at el_Str.len ys j ys[j] (List.getElem?_eq_getElem hjl) 0 _ rfl
          rw [Nat.mul_one, Nat.add_zero, hj] at h1
          injection h1 with h1
          subst h1
          obtain ⟨a', ha', hc'⟩ := els_S hr (List.getElem?_eq_getElem hjl)
          injection ha' with ha'
          subst ha'
          exact hc') (fun u hu => by
          obtain ⟨y, _, hy⟩ := List.mem_flatMap.1 hu
          exact el_Str.one y u hy) (by unfold maxLen; omega) (by omega) hbase
      refine ⟨v', w', h1, ?_, h3⟩
      unfold OwnSt OwnF
      rw [List.flatMap_append, List.length_append, ← hm]
      exact h2
  obtain ⟨v', w', hrun, h2, h3⟩ := hrun
  unfold Oper.wp execOp
  simp only [ho, resolve, invoke, builtin, Sem.run_bind, Sem.run_pure, Result.andThen_ok, List.map_toArray, List.map_cons, List.map_nil, hs, hx, hrun]
  exact hK _ _ (h v' w' h2 ((Below.refl _ _).grown h3 hbase (fun k hk => (hown.lt k hk).1)))

/-- A slice of no texts that was made. -/
theorem own_none (w : World) (g : Nat) (hg : g = w.heap.size) : OwnSt (w.alloc (.cells #[] 9)) g (.slice (some ⟨g, 0, none⟩) 0 0) [] := by
  subst hg
  refine ⟨rfl, Or.inr ⟨w.heap.size, 0, #[], rfl, Nat.le_refl _, heap_alloc_new w _, Nat.le_refl _, by unfold maxLen; omega, rfl, rfl⟩⟩

set_option maxRecDepth 100000 in
set_option maxHeartbeats 2000000 in
theorem p_told (r : RuG) (w : World) (hr : r.Ok w) (hsm : r.Sml) :
    Calls Try.prog 16 #[.agg r.cells] w fun e w' => ∃ v, e = .returned v ∧ OwnSt w' w.heap.size v (r.head ++ if 2 ≤ r.ag ∧ r.ag ≤ 4 then [r.ofv] else []) ∧ Below w.heap.size w w' := by
  have hon := one_new w (.cells r.cells 25)
  have hhd := (hr.below hon).1
  have h0 := heap_alloc_new w (.cells r.cells 25)
  have hl := hsm.1
  obtain ⟨k0, nm, hA, hc, head, ag, ofv, lim, bA, bc, body⟩ := r
  simp only at hl hhd h0
  obtain ⟨T, hT⟩ : ∃ T : List ByteArray, T = head ++ if 2 ≤ ag ∧ ag ≤ 4 then [ofv] else [] := ⟨_, rfl⟩
  have HT := Lib.hid hT
  show Calls Try.prog 16 #[.agg #[.int .i64 k0, .string nm, .slice hA head.length hc, .int .i64 ag, .string ofv, .int .i64 lim, .slice bA body.length bc]] w fun e w' => ∃ v, e = .returned v ∧ OwnSt w' w.heap.size v (head ++ if 2 ≤ ag ∧ ag ≤ 4 then [ofv] else []) ∧ Below w.heap.size w w'
  rw [← hT]
  clear hT
  have H0 := Lib.hid h0
  have HHD := Lib.hid hhd
  have HON := Lib.hid hon
  have n2 := cell_of_row _ w.heap.size 2 _ _ (0, 0) h0
  have hb1 := one_new (w.alloc (.cells #[.int .i64 k0, .string nm, .slice hA head.length hc, .int .i64 ag, .string ofv, .int .i64 lim, .slice bA body.length bc] 25)) (.cells #[] 9)
  have h1 := (hb1.block w.heap.size (by simp)).trans h0
  have m2 := cell_of_row _ w.heap.size 2 _ _ (0, 0) h1
  have HB1 := Lib.hid hb1
  have HO1 := Lib.hid (own_none (w.alloc (.cells #[.int .i64 k0, .string nm, .slice hA head.length hc, .int .i64 ag, .string ofv, .int .i64 lim, .slice bA body.length bc] 25)) (w.heap.size + 1) (World.size_alloc _ _).symm)
  have H1 := Lib.hid h1
  have HHD1 := Lib.hid (HHD.out.below hb1)
  have HW : Hid (Below (w.heap.size + 1) (w.alloc (.cells #[.int .i64 k0, .string nm, .slice hA head.length hc, .int .i64 ag, .string ofv, .int .i64 lim, .slice bA body.length bc] 25)) ((w.alloc (.cells #[.int .i64 k0, .string nm, .slice hA head.length hc, .int .i64 ag, .string ofv, .int .i64 lim, .slice bA body.length bc] 25)).alloc (.cells #[] 9))) := Lib.hid (hb1.mono (by simp))
  clear hr hon hhd h0 hsm hb1 h1
  go_enter Try.func16, Try.ntmps16
  have q3 : head.length ≤ 1000000 := by omega
  by_cases h2 : ag = 2
  · have b2 : (ag == 2) = true := by simpa using h2
    have HPOS : Hid (2 ≤ ag ∧ ag ≤ 4) := Lib.hid (by omega)
    clear h2
    go_wp2_with (first | (at_builtin; refine wp_append_S _ rfl (.tmp 4) (.tmp 6) rfl (w.heap.size + 1) _ [] head rfl (by exact HO1.out) hA _ hc rfl rfl (by exact HHD1.out) (by simp; omega) (by simp) ?_; intro v' w5 hown' hb5; obtain ⟨A5, c5, hv5⟩ := hown'.shape; rw [List.nil_append] at hv5; subst hv5; have h5 := (hb5.block w.heap.size (by omega)).trans H1.out; have c3 := cell_of_row _ w.heap.size 3 _ _ (0, 0) h5; have c4 := cell_of_row _ w.heap.size 4 _ _ (0, 0) h5; have HOW5 := Lib.hid hown'; have HB5 := Lib.hid (HW.out.trans hb5); have q1 := hown'.alloc (.cells #[.string ofv] 9); rw [List.nil_append] at q1; have q2 := lit_F strC w5 ofv #[.string ofv] 9 rfl; have q4 : w.heap.size + 1 ≤ (w5.alloc (.cells #[.string ofv] 9)).heap.size := (by have := HB5.out.size; rw [World.size_alloc] at this; rw [World.size_alloc]; omega); clear h5 hown' hb5) | (at_builtin; refine wp_append_F el_Str _ rfl (.tmp 14) (.tmp 17) rfl (w.heap.size + 1) (.slice A5 head.length c5) head ofv rfl q1 ⟨w5.heap.size, 0, none⟩ 1 rfl q2 q3 q4 ?_; intro v' w7 hown' hb7 hgrow hor; obtain ⟨A7, c7, hv7⟩ := hown'.shape; rw [List.length_append, List.length_singleton] at hv7; subst hv7))
    go_ret
    refine ⟨_, rfl, ?_, HON.out.trans ((HB5.out.trans (((one_new w5 _).mono (by have := HB5.out.size; simp at this; omega)).trans hb7)).mono (by omega))⟩
    rw [HT.out, if_pos HPOS.out]
    exact OwnF.lower hown' (by omega)
  · have b2 : (ag == 2) = false := by simpa using h2
    by_cases h3 : ag = 3
    · have b3 : (ag == 3) = true := by simpa using h3
      have HPOS : Hid (2 ≤ ag ∧ ag ≤ 4) := Lib.hid (by omega)
      clear h3
      go_wp2_with (first | (at_builtin; refine wp_append_S _ rfl (.tmp 4) (.tmp 6) rfl (w.heap.size + 1) _ [] head rfl (by exact HO1.out) hA _ hc rfl rfl (by exact HHD1.out) (by simp; omega) (by simp) ?_; intro v' w5 hown' hb5; obtain ⟨A5, c5, hv5⟩ := hown'.shape; rw [List.nil_append] at hv5; subst hv5; have h5 := (hb5.block w.heap.size (by omega)).trans H1.out; have c3 := cell_of_row _ w.heap.size 3 _ _ (0, 0) h5; have c4 := cell_of_row _ w.heap.size 4 _ _ (0, 0) h5; have HOW5 := Lib.hid hown'; have HB5 := Lib.hid (HW.out.trans hb5); have q1 := hown'.alloc (.cells #[.string ofv] 9); rw [List.nil_append] at q1; have q2 := lit_F strC w5 ofv #[.string ofv] 9 rfl; have q4 : w.heap.size + 1 ≤ (w5.alloc (.cells #[.string ofv] 9)).heap.size := (by have := HB5.out.size; rw [World.size_alloc] at this; rw [World.size_alloc]; omega); clear h5 hown' hb5) | (at_builtin; refine wp_append_F el_Str _ rfl (.tmp 14) (.tmp 17) rfl (w.heap.size + 1) (.slice A5 head.length c5) head ofv rfl q1 ⟨w5.heap.size, 0, none⟩ 1 rfl q2 q3 q4 ?_; intro v' w7 hown' hb7 hgrow hor; obtain ⟨A7, c7, hv7⟩ := hown'.shape; rw [List.length_append, List.length_singleton] at hv7; subst hv7))
      go_ret
      refine ⟨_, rfl, ?_, HON.out.trans ((HB5.out.trans (((one_new w5 _).mono (by have := HB5.out.size; simp at this; omega)).trans hb7)).mono (by omega))⟩
      rw [HT.out, if_pos HPOS.out]
      exact OwnF.lower hown' (by omega)
    · have b3 : (ag == 3) = false := by simpa using h3
      by_cases h4 : ag = 4
      · have b4 : (ag == 4) = true := by simpa using h4
        have HPOS : Hid (2 ≤ ag ∧ ag ≤ 4) := Lib.hid (by omega)
        clear h4
        go_wp2_with (first | (at_builtin; refine wp_append_S _ rfl (.tmp 4) (.tmp 6) rfl (w.heap.size + 1) _ [] head rfl (by exact HO1.out) hA _ hc rfl rfl (by exact HHD1.out) (by simp; omega) (by simp) ?_; intro v' w5 hown' hb5; obtain ⟨A5, c5, hv5⟩ := hown'.shape; rw [List.nil_append] at hv5; subst hv5; have h5 := (hb5.block w.heap.size (by omega)).trans H1.out; have c3 := cell_of_row _ w.heap.size 3 _ _ (0, 0) h5; have c4 := cell_of_row _ w.heap.size 4 _ _ (0, 0) h5; have HOW5 := Lib.hid hown'; have HB5 := Lib.hid (HW.out.trans hb5); have q1 := hown'.alloc (.cells #[.string ofv] 9); rw [List.nil_append] at q1; have q2 := lit_F strC w5 ofv #[.string ofv] 9 rfl; have q4 : w.heap.size + 1 ≤ (w5.alloc (.cells #[.string ofv] 9)).heap.size := (by have := HB5.out.size; rw [World.size_alloc] at this; rw [World.size_alloc]; omega); clear h5 hown' hb5) | (at_builtin; refine wp_append_F el_Str _ rfl (.tmp 14) (.tmp 17) rfl (w.heap.size + 1) (.slice A5 head.length c5) head ofv rfl q1 ⟨w5.heap.size, 0, none⟩ 1 rfl q2 q3 q4 ?_; intro v' w7 hown' hb7 hgrow hor; obtain ⟨A7, c7, hv7⟩ := hown'.shape; rw [List.length_append, List.length_singleton] at hv7; subst hv7))
        go_ret
        refine ⟨_, rfl, ?_, HON.out.trans ((HB5.out.trans (((one_new w5 _).mono (by have := HB5.out.size; simp at this; omega)).trans hb7)).mono (by omega))⟩
        rw [HT.out, if_pos HPOS.out]
        exact OwnF.lower hown' (by omega)
      · have b4 : (ag == 4) = false := by simpa using h4
        go_wp2_with (at_builtin; refine wp_append_S _ rfl (.tmp 4) (.tmp 6) rfl (w.heap.size + 1) _ [] head rfl (by exact HO1.out) hA _ hc rfl rfl (by exact HHD1.out) (by simp; omega) (by simp) ?_; intro v' w5 hown' hb5; obtain ⟨A5, c5, hv5⟩ := hown'.shape; rw [List.nil_append] at hv5; subst hv5; have h5 := (hb5.block w.heap.size (by omega)).trans H1.out; have c3 := cell_of_row _ w.heap.size 3 _ _ (0, 0) h5; have c4 := cell_of_row _ w.heap.size 4 _ _ (0, 0) h5; have HOW5 := Lib.hid hown'; have HB5 := Lib.hid (HW.out.trans hb5); have q1 := hown'.alloc (.cells #[.string ofv] 9); rw [List.nil_append] at q1; have q2 := lit_F strC w5 ofv #[.string ofv] 9 rfl; have q4 : w.heap.size + 1 ≤ (w5.alloc (.cells #[.string ofv] 9)).heap.size := (by have := HB5.out.size; rw [World.size_alloc] at this; rw [World.size_alloc]; omega); clear h5 hown' hb5)
        go_ret
        refine ⟨_, rfl, ?_, HON.out.trans (HB5.out.mono (by omega))⟩
        rw [HT.out, if_neg (by omega), List.append_nil]
        have h := HOW5.out
        rw [List.nil_append] at h
        exact OwnF.lower h (by omega)
end
end Go.Proofs.Ytmkejlhkipngnaa
