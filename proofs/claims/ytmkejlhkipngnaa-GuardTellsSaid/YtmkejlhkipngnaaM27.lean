/-
  Bound of package guard: the variables that atoms bind.
  Condition: a rule of which not very much is to be read.
-/
import Derived.Test.YtmkejlhkipngnaaM26
namespace Go.Proofs.Ytmkejlhkipngnaa
open Go.RowKit Go.Maps

theorem OwnF.ne_map {α : Type} {E : TypeId} {f : α → List Value} {n : Nat} {w : World} {base : Nat} {v : Value} {l : List α} {b m : Nat} {ss : List ByteArray} (h : OwnF E f n w base v l) (hs : SetG w b ss m) : ∀ k, v.ownBlock = some k → k ≠ b := by
  intro k hk e
  subst e
  obtain ⟨n, D, _, ⟨es, clock, e1, _⟩, _⟩ := hs
  rcases h.2 with ⟨hn, _⟩ | ⟨g, cap, cur, hv, _, hh, _⟩
  · rw [hn] at hk; cases hk
  · rw [hv] at hk
    have e' : g = k := by injection hk
    rw [e', e1] at hh
    cases hh
theorem SetG.grown {W W' : World} {b m : Nat} {ss : List ByteArray} {v : Value} (h : SetG W b ss m) (hg : W.grownBy W' v.ownBlock) (hne : ∀ k, v.ownBlock = some k → k ≠ b) : SetG W' b ss m :=
  h.block (hg.block b h.lt (fun e => hne b e.symm rfl))
theorem OwnF.grownMap {α : Type} {E : TypeId} {f : α → List Value} {n : Nat} {w w' : World} {base : Nat} {v : Value} {l : List α} {b m : Nat} {ss : List ByteArray} (h : OwnF E f n w base v l) (hs : SetG w b ss m) (hg : w.grownBy w' (some b)) : OwnF E f n w' base v l :=
  h.byBlock fun k hk => hg.block k (h.lt k hk).2 (fun e => h.ne_map hs k hk (by injection e))
/-- What a loop over a rule's terms keeps. -/
structure BSt (w0 wr : World) (base mb : Nat) (v : Value) (out : List ByteArray) : Prop where
  own : OwnSt wr base v out
  set : SetG wr mb out out.length
  bel : Below base w0 wr
  mbl : base ≤ mb
theorem BSt.below {w0 wr w' : World} {base mb : Nat} {v : Value} {out : List ByteArray} (h : BSt w0 wr base mb v out) (hs : base ≤ wr.heap.size) (hb : Below wr.heap.size wr w') : BSt w0 w' base mb v out :=
  ⟨h.own.below hb, h.set.block (hb.block mb h.set.lt), h.bel.trans (hb.mono hs), h.mbl⟩

set_option maxRecDepth 100000 in
set_option maxHeartbeats 4000000 in
theorem p_Bound (r : RuG) (w : World) (hr : r.Ok w) (hsm : r.Sml) :
    Calls Try.prog 12 #[.agg r.cells] w fun e w' => ∃ v, e = .returned v ∧ OwnSt w' w.heap.size v (bndL (r.body.map LmG.li)) ∧ Below w.heap.size w w' := by
  have hmm := @run_makeMap Try.prog
  have hon := one_new w (.cells r.cells 25)
  have hok0 := hr.below hon
  have h0 := heap_alloc_new w (.cells r.cells 25)
  have n6 := cell_of_row _ w.heap.size 6 _ _ (0, 0) h0
  obtain ⟨B, hB⟩ : ∃ B, B = bndL (r.body.map LmG.li) := ⟨_, rfl⟩
  rw [← hB]
  have HB := Lib.hid hB
  have HOK := Lib.hid hok0
  have HON := Lib.hid hon
  have HSM := Lib.hid hsm
  have hbl := hsm.2.1
  clear hr hon hok0 h0 hB hsm
  obtain ⟨k0, nm, hA, hc, head, ag, ofv, lim, bA, bc, body⟩ := r
  simp only at hbl
  have HBD := Lib.hid (show B = bndL (body.map LmG.li) from HB.out)
  have HS2 : Hid (∀ x ∈ body, x.args.length ≤ 5000 ∧ ∀ t ∈ x.args, t.s.size ≤ maxLen) := Lib.hid HSM.out.2.2.2.2
  have HL : Hid (LgsAt (w.alloc (.cells #[.int .i64 k0, .string nm, .slice hA head.length hc, .int .i64 ag, .string ofv, .int .i64 lim, .slice bA body.length bc] 25)) bA body) := Lib.hid HOK.out.2
  have HN : Hid (Below w.heap.size w (w.alloc (.cells #[.int .i64 k0, .string nm, .slice hA head.length hc, .int .i64 ag, .string ofv, .int .i64 lim, .slice bA body.length bc] 25))) := Lib.hid HON.out
  have n6 : (w.alloc (.cells #[.int .i64 k0, .string nm, .slice hA head.length hc, .int .i64 ag, .string ofv, .int .i64 lim, .slice bA body.length bc] 25)).cell? ⟨w.heap.size, 6, none⟩ = some (.slice bA body.length bc) := n6
  clear HB HSM HOK HON
  go_enter Try.func12, Try.ntmps12
  go_wp2
  have hst0 : BSt (w.alloc (.cells #[.int .i64 k0, .string nm, .slice hA head.length hc, .int .i64 ag, .string ofv, .int .i64 lim, .slice bA body.length bc] 25)) ((w.alloc (.cells #[.int .i64 k0, .string nm, .slice hA head.length hc, .int .i64 ag, .string ofv, .int .i64 lim, .slice bA body.length bc] 25)).alloc (.map #[] 0)) (w.heap.size + 1) (w.heap.size + 1) (.slice none 0 0) [] := by
    have hz : (w.alloc (.cells #[.int .i64 k0, .string nm, .slice hA head.length hc, .int .i64 ag, .string ofv, .int .i64 lim, .slice bA body.length bc] 25)).heap.size = w.heap.size + 1 := World.size_alloc _ _
    refine ⟨OwnF.nil _ _, ⟨0, .map [], Nat.le_refl _, ?_, fun s => rfl⟩, by rw [← hz]; exact one_new _ _, Nat.le_refl _⟩
    rw [← hz]
    exact World.ownsMap_made (w.alloc (.cells #[.int .i64 k0, .string nm, .slice hA head.length hc, .int .i64 ag, .string ofv, .int .i64 lim, .slice bA body.length bc] 25)) Try.prog 9 unitElem
  have HST0 := Lib.hid hst0
  obtain ⟨mb, hmb⟩ : ∃ mb, mb = w.heap.size + 1 := ⟨_, rfl⟩
  obtain ⟨W0, hW0⟩ : ∃ W0, W0 = (w.alloc (.cells #[.int .i64 k0, .string nm, .slice hA head.length hc, .int .i64 ag, .string ofv, .int .i64 lim, .slice bA body.length bc] 25)) := ⟨_, rfl⟩
  have hz0 : W0.heap.size = mb := by rw [hW0, hmb]; exact World.size_alloc _ _
  rw [← hmb, ← hW0] at HST0
  rw [← hW0] at HL HN
  have HZ0 := Lib.hid hz0
  have HMB := Lib.hid hmb
  clear hst0 hmm n6 hz0
  go_loopw [3, 13] (fun v i wr => ∃ (k : Nat), i = .int .i64 k ∧ k ≤ body.length ∧ BSt W0 wr mb mb v (((body.map LmG.li).take k).foldl stepL [])) (fun _ i _ => body.length - (intOf i).toNat)
  case atStart => exact ⟨0, rfl, Nat.zero_le _, by simpa [hW0, hmb] using HST0.out⟩
  case round =>
    obtain ⟨k, rfl, hk, hst⟩ := hrel
    have hlen : (((body.map LmG.li).take k).foldl stepL []).length ≤ 205000 := by
      have h1 := foldL_len ((body.map LmG.li).take k) [] (fun x hx => by
        obtain ⟨y, hy, rfl⟩ := List.mem_map.1 (List.mem_of_mem_take hx)
        exact (HS2.out y hy).1)
      rw [List.length_take, List.length_map] at h1
      have h2 : min k body.length ≤ 41 := by omega
      have h3 : min k body.length * 5000 ≤ 41 * 5000 := Nat.mul_le_mul_right _ h2
      simp only [List.length_nil, Nat.zero_add] at h1
      omega
    have hsz : mb ≤ wr.heap.size := by have := hst.bel.size; rw [HZ0.out] at this; exact this
    obtain ⟨out, hout⟩ : ∃ out, ((body.map LmG.li).take k).foldl stepL [] = out := ⟨_, rfl⟩
    rw [hout] at hst hlen
    have HST := Lib.hid hst
    by_cases hlt : k < body.length
    · obtain ⟨x, hx⟩ : ∃ x, body[k]? = some x := ⟨_, List.getElem?_eq_getElem hlt⟩
      have hxm := List.mem_of_getElem? hx
      have hnext : ((body.map LmG.li).take (k + 1)).foldl stepL [] = stepL out x.li := by rw [fold_next stepL _ k x.li [] (by rw [List.getElem?_map, hx]; rfl), hout]
      have hl1 := HL.out.below (by rw [HZ0.out]; exact hst.bel)
      obtain ⟨a, rfl, a0, a1, a2, a3⟩ := els_L hl1.1 hx
      have HT := Lib.hid (HL.out.2 x hxm)
      have hx5 := HS2.out x hxm
      have HX5 := Lib.hid hx5.2
      have hx5l := hx5.1
      have HNX := Lib.hid hnext
      have HBI := Lib.hid (g_binds x)
      obtain ⟨q, hq⟩ : ∃ q, atomB x.li = q := ⟨_, rfl⟩
      have HQ := Lib.hid hq
      rw [hq] at HBI
      clear hst hx hxm hnext hl1 hx5 hq hout
      obtain ⟨yn, ys, yA, yc, yargs, yo⟩ := x
      have HBI : Hid (∀ W, Calls Try.prog 22 #[.agg #[.bool yn, .string ys, .slice yA yargs.length yc, .int .i64 yo]] W fun e w' => e = .returned (.bool q) ∧ Below W.heap.size W w') := HBI
      have hx5l : yargs.length ≤ 5000 := hx5l
      have HX5 : Hid (∀ t ∈ yargs, t.s.size ≤ maxLen) := HX5
      have HT : Hid (ElsAt TmP.cells 6 W0 yA yargs) := HT
      have hb0 := heap_alloc_new wr (.cells #[.bool yn, .string ys, .slice yA yargs.length yc, .int .i64 yo] 41)
      have HBX := Lib.hid hb0
      clear hb0
      go_wp2_with fail
      refine (HBI.out _).mono ?_
      rintro e w2 ⟨rfl, hb2⟩
      have hb02 : Below wr.heap.size wr w2 := (one_new wr _).trans (hb2.mono (by simp))
      have hS2 := HST.out.below hsz hb02
      have HS2' := Lib.hid hS2
      have hsz2 : mb ≤ w2.heap.size := Nat.le_trans hsz hb02.size
      have e2 := cell_of_row _ wr.heap.size 2 _ _ (0, 0) ((hb2.block wr.heap.size (by simp)).trans HBX.out)
      clear hb2 hb02 HBI HST HBX a0 a1 a2 a3 hS2
      cases q with
      | false =>
        have hno : stepL out (LmG.li ⟨yn, ys, yA, yc, yargs, yo⟩) = out := by unfold stepL; rw [HQ.out]; rfl
        have HNO := Lib.hid hno
        clear hno e2
        go_wp2
        go_roundw
        case rel => exact ⟨k + 1, by go_num, by omega, by rw [HNX.out, HNO.out]; exact HS2'.out⟩
        case measure => simp [intOf]; omega
      | true =>
        have hyes : stepL out (LmG.li ⟨yn, ys, yA, yc, yargs, yo⟩) = yargs.foldl stepT out := by unfold stepL; rw [HQ.out]; rfl
        have HYES := Lib.hid hyes
        clear hyes
        obtain ⟨wo, hwo⟩ : ∃ wo, wo = wr := ⟨_, rfl⟩
        go_wp2
        go_loopw [3, 23] (fun v i wr => ∃ (j : Nat) (o2 : List ByteArray), i = .int .i64 j ∧ j ≤ yargs.length ∧ o2.length ≤ 205000 + j ∧ Hid (o2 = (yargs.take j).foldl stepT out) ∧ BSt W0 wr mb mb v o2 ∧ Below mb w2 wr) (fun _ i _ => yargs.length - (intOf i).toNat)
        case atStart => exact ⟨0, out, rfl, Nat.zero_le _, by omega, Lib.hid rfl, HS2'.out, Below.refl _ _⟩
        case round =>
          obtain ⟨j, o2, rfl, hj, ho2, HO2, hbs, hbw⟩ := hrel
          have hta := HT.out.below (by rw [HZ0.out]; exact hbs.bel)
          have hszr : mb ≤ wr.heap.size := Nat.le_trans hsz2 hbw.size
          have HBS := Lib.hid hbs
          have HBW := Lib.hid hbw
          obtain ⟨oA, oc, hv⟩ := hbs.own.shape
          by_cases hlt2 : j < yargs.length
          · obtain ⟨y, hy⟩ : ∃ y, yargs[j]? = some y := ⟨_, List.getElem?_eq_getElem hlt2⟩
            have hstep : (yargs.take (j + 1)).foldl stepT out = stepT o2 y := by rw [fold_next stepT yargs j y out hy, HO2.out]
            have HSTEP := Lib.hid hstep
            have hys := HX5.out y (List.mem_of_getElem? hy)
            have HYS := Lib.hid hys
            obtain ⟨a', rfl, b0, b1, b2, b3, b4, b5⟩ := els_T hta hy
            have HIV := Lib.hid (g_isVar y)
            obtain ⟨p, hp⟩ : ∃ p, isV y = p := ⟨_, rfl⟩
            rw [hp] at HIV
            have HP := Lib.hid hp
            obtain ⟨zs, za, ⟨zk, zf, zn, zt⟩⟩ := y
            have HIV : Hid (∀ W, Calls Try.prog 18 #[.agg #[.string zs, .bool za, .int .i64 zk, .bool zf, .int .i64 zn, .string zt]] W fun e w' => e = .returned (.bool p) ∧ Below W.heap.size W w') := HIV
            have hb8 := heap_alloc_new wr (.cells #[.string zs, .bool za, .int .i64 zk, .bool zf, .int .i64 zn, .string zt] 38)
            have HB8 := Lib.hid hb8
            have HYZ : Hid (zs.size ≤ maxLen) := HYS
            subst hv
            clear hbs hbw hta hy hstep hys hp hb8 HYS
            cases p with
            | false =>
              have hno : stepT o2 ⟨zs, za, ⟨zk, zf, zn, zt⟩⟩ = o2 := by unfold stepT; rw [HP.out]; rfl
              have HNO := Lib.hid hno
              clear hno
              go_wp2_with (go_at_call 18; refine (HIV.out _).mono ?_; rintro e w3 ⟨rfl, hb3⟩; have hb4 := (one_new wr (.cells #[.string zs, .bool za, .int .i64 zk, .bool zf, .int .i64 zn, .string zt] 38)).trans (hb3.mono (by simp)); have HB4 := Lib.hid hb4; clear hb3 hb4)
              go_roundw
              case rel => exact ⟨j + 1, o2, by go_num, by omega, by omega, Lib.hid (by rw [HSTEP.out, HNO.out]), HBS.out.below hszr HB4.out, HBW.out.trans (HB4.out.mono hszr)⟩
              case measure => simp [intOf]; omega
            | true =>
              obtain ⟨hh, hhh⟩ : ∃ hh, hasX zs o2 = hh := ⟨_, rfl⟩
              have HHV : Hid (∀ W, SetG W mb o2 o2.length → Calls Try.prog 17 #[.map (some (w.heap.size + 1)), .string zs] W fun e W' => e = .returned (.bool hh) ∧ Below W.heap.size W W') := Lib.hid fun W hW => by rw [← hhh, ← HMB.out]; exact g_have hW zs HYZ.out
              have HHX := Lib.hid hhh
              clear hhh
              cases hh with
              | true =>
                have hno : stepT o2 ⟨zs, za, ⟨zk, zf, zn, zt⟩⟩ = o2 := by unfold stepT; rw [HP.out, HHX.out]; rfl
                have HNO := Lib.hid hno
                clear hno
                go_wp2_with (first
                  | (go_at_call 18; refine (HIV.out _).mono ?_; rintro e w3 ⟨rfl, hb3⟩; have hb4 := (one_new wr (.cells #[.string zs, .bool za, .int .i64 zk, .bool zf, .int .i64 zn, .string zt] 38)).trans (hb3.mono (by simp)); have HB4 := Lib.hid hb4; have m0 := cell_of_row _ wr.heap.size 0 _ _ (0, 0) ((hb3.block wr.heap.size (by simp)).trans HB8.out); clear hb3 hb4)
                  | (go_at_call 17; refine (HHV.out _ (HBS.out.below hszr HB4.out).set).mono ?_; rintro e w5 ⟨rfl, hb5⟩; have HB5 := Lib.hid (HB4.out.trans (hb5.mono HB4.out.size)); clear hb5))
                go_roundw
                case rel => exact ⟨j + 1, o2, by go_num, by omega, by omega, Lib.hid (by rw [HSTEP.out, HNO.out]), HBS.out.below hszr HB5.out, HBW.out.trans (HB5.out.mono hszr)⟩
                case measure => simp [intOf]; omega
              | false =>
                have hyes : stepT o2 ⟨zs, za, ⟨zk, zf, zn, zt⟩⟩ = o2 ++ [zs] := by unfold stepT; rw [HP.out, HHX.out]; rfl
                have HYE := Lib.hid hyes
                clear hyes
                go_wp2_with (first
                  | (go_at_call 18; refine (HIV.out _).mono ?_; rintro e w3 ⟨rfl, hb3⟩; have hb4 := (one_new wr (.cells #[.string zs, .bool za, .int .i64 zk, .bool zf, .int .i64 zn, .string zt] 38)).trans (hb3.mono (by simp)); have HB4 := Lib.hid hb4; have HM0 := Lib.hid ((hb3.block wr.heap.size (by simp)).trans HB8.out); have m0 := cell_of_row _ wr.heap.size 0 _ _ (0, 0) HM0.out; clear hb3 hb4)
                  | (go_at_call 17; refine (HHV.out _ (HBS.out.below hszr HB4.out).set).mono ?_; rintro e w5 ⟨rfl, hb5⟩; have HB5 := Lib.hid (HB4.out.trans (hb5.mono HB4.out.size)); have HM5 := Lib.hid ((hb5.block wr.heap.size (Array.getElem?_eq_some_iff.1 HM0.out).1).trans HM0.out); have m5 := cell_of_row _ wr.heap.size 0 _ _ (0, 0) HM5.out; clear hb5))
                have h5 := HBS.out.below hszr HB5.out
                have hsz5 : mb ≤ w5.heap.size := Nat.le_trans hszr HB5.out.size
                have h6 := h5.below hsz5 (one_new w5 (.cells #[.string zs] 9))
                have hel := els_one (heap_alloc_new w5 (.cells #[.string zs] 9))
                have hpt := g_put h6.set (by omega) [zs] (some ⟨w5.heap.size, 0, none⟩) 1 (by simp) hel (by intro s hs; rw [List.mem_singleton.1 hs]; exact HYZ.out) (by intro a ha; injection ha with ha; subst ha; show w5.heap.size ≠ mb; have := h5.set.lt; omega)
                rw [HMB.out] at hpt
                have HPT := Lib.hid hpt
                have H6 := Lib.hid h6
                have HM6 := Lib.hid (((one_new w5 (.cells #[.string zs] 9)).block wr.heap.size (Array.getElem?_eq_some_iff.1 HM5.out).1).trans HM5.out)
                have hml := HBS.out.set.lt
                clear h5 h6 hel hpt
                refine HPT.out.mono ?_
                rintro e w6 ⟨rfl, hset6, hg6⟩
                rw [← HMB.out] at hset6 hg6
                have hown6 := H6.out.own.grownMap H6.out.set hg6
                have hbl6 : Below mb W0 w6 := H6.out.bel.grown hg6 (by rw [World.size_alloc]; omega) (fun k hk => by injection hk with hk; omega)
                have hw26 : Below mb w2 w6 := (HBW.out.trans (HB5.out.mono hszr)).trans (((one_new w5 (.cells #[.string zs] 9)).mono hsz5).grown hg6 (by rw [World.size_alloc]; omega) (fun k hk => by injection hk with hk; omega))
                have k0 := cell_of_row _ wr.heap.size 0 _ _ (0, 0) ((hg6.block wr.heap.size (Array.getElem?_eq_some_iff.1 HM6.out).1 (fun e => by injection e; omega)).trans HM6.out)
                have hsz6 : mb ≤ w6.heap.size := Nat.le_trans (by rw [World.size_alloc]; omega) hg6.size
                have HS6 := Lib.hid hset6
                have HOW := Lib.hid (OwnF.below hown6 (one_new w6 (.cells #[.string zs] 9)))
                have HBL := Lib.hid hbl6
                have HW26 := Lib.hid hw26
                have q2 := lit_F strC w6 zs #[.string zs] 9 rfl
                have q3 : o2.length ≤ 1000000 := by omega
                have q4 : mb ≤ (w6.alloc (.cells #[.string zs] 9)).heap.size := by rw [World.size_alloc]; omega
                clear hset6 hg6 hown6 hbl6 hw26 HPT
                go_wp2_with (at_builtin; refine wp_append_F el_Str _ rfl (.tmp 41) (.tmp 44) rfl mb (.slice oA o2.length oc) o2 zs rfl (by exact HOW.out) ⟨w6.heap.size, 0, none⟩ 1 rfl q2 q3 q4 ?_; intro v' w7 hown' hb7 hgrow hor; obtain ⟨A7, c7, hv7⟩ := hown'.shape; rw [List.length_append, List.length_singleton] at hv7; subst hv7)
                have hset7 := SetG.grown (v := .slice oA o2.length oc) (HS6.out.block ((one_new w6 (.cells #[.string zs] 9)).block mb HS6.out.lt)) hgrow (HOW.out.ne_map (HS6.out.block ((one_new w6 (.cells #[.string zs] 9)).block mb HS6.out.lt)))
                have hb67 : Below mb w6 w7 := ((one_new w6 (.cells #[.string zs] 9)).mono hsz6).trans hb7
                have hst7 : BSt W0 w7 mb mb (.slice A7 (o2.length + 1) c7) (o2 ++ [zs]) := ⟨hown', by rw [List.length_append]; exact hset7, HBL.out.trans hb67, Nat.le_refl _⟩
                go_roundw
                case rel => exact ⟨j + 1, o2 ++ [zs], by go_num, by omega, by rw [List.length_append]; simp; omega, Lib.hid (by rw [HSTEP.out, HYE.out]), hst7, HW26.out.trans hb67⟩
                case measure => simp [intOf]; omega
          · have hj2 : j = yargs.length := by omega
            have hfin : o2 = yargs.foldl stepT out := by rw [HO2.out, List.take_of_length_le (by omega)]
            have HFIN := Lib.hid hfin
            subst hv
            clear hbs hbw hta hfin
            go_wp2
            go_roundw
            case rel => exact ⟨k + 1, by go_num, by omega, by rw [HNX.out, HYES.out, ← HFIN.out]; exact HBS.out⟩
            case measure => simp [intOf]; omega
    · have he : (((body.map LmG.li).take k)).foldl stepL [] = bndL (body.map LmG.li) := by
        rw [List.take_of_length_le (by rw [List.length_map]; omega)]
        rfl
      have hoB : out = B := by rw [HBD.out, ← he, hout]
      have HOB := Lib.hid hoB
      obtain ⟨oA, oc, hv⟩ := hst.own.shape
      subst hv
      clear hst hout he hoB
      go_wp2
      go_ret
      exact ⟨_, rfl, by rw [← HOB.out]; exact HST.out.own.lower (by rw [HMB.out]; omega), HN.out.trans (HST.out.bel.mono (by rw [HMB.out]; omega))⟩
end Go.Proofs.Ytmkejlhkipngnaa
