/-
  GuardAll's walk at any rule in memory.
  Condition: what lies in memory as a rule of any length.
-/
import Derived.Deep.RegionLaw
import Derived.Deep.RegionHeld3
import Derived.Deep.Cut
import Derived.Test.YtmkejlhkipngnaaMGun
namespace Go.Proofs.Ytmkejlhkipngnaa
open Go.RowKit Go.Maps

theorem ASt.start (w : World) : ASt w ((w.alloc (bxT ⟨#[122]⟩)).alloc (.cells #[.bool false, .string wAll, .slice (some ⟨w.heap.size, 0, none⟩) 1 1, .int .i64 0] 41)) w.heap.size (.slice (some ⟨w.heap.size, 0, none⟩) 1 1) [tmOf ⟨#[122]⟩] :=
  ⟨second_of_two w _ _, ⟨rfl, Or.inr ⟨w.heap.size, 1, _, rfl, Nat.le_refl _, first_of_two w _ _, Nat.le_refl _, by unfold maxLen; omega, rfl, rfl⟩⟩, fun k hk => by have e : some w.heap.size = some k := hk; injection e with e; omega, two_new w _ _⟩

set_option maxRecDepth 100000 in
set_option maxHeartbeats 8000000 in
theorem guardAll_all (kn : ∀ W : World, Calls Try.prog 6 #[] W fun e w' => e = .returned (.bool true) ∧ Below W.heap.size W w') (r : RuG) (w : World) (hr : r.Ok w) (hlg : r.Lng) :
    Calls Try.prog 4 #[.agg r.cells] w fun e w' => e = .returned (.bool true) ∧ Below w.heap.size w w' := by
  have KN := Lib.hid kn
  clear kn
  obtain ⟨k0, nm, hA, hc, head, ag, ofv, lim, bA, bc, body⟩ := r
  have hon := one_new w (.cells #[.int .i64 k0, .string nm, .slice hA head.length hc, .int .i64 ag, .string ofv, .int .i64 lim, .slice bA body.length bc] 25)
  have hok0 := hr.below hon
  have hz0 : (w.alloc (.cells #[.int .i64 k0, .string nm, .slice hA head.length hc, .int .i64 ag, .string ofv, .int .i64 lim, .slice bA body.length bc] 25)).heap.size = w.heap.size + 1 := World.size_alloc _ _
  have hh0 := heap_alloc_new w (.cells #[.int .i64 k0, .string nm, .slice hA head.length hc, .int .i64 ag, .string ofv, .int .i64 lim, .slice bA body.length bc] 25)
  obtain ⟨n0, n1, n2, n3, n4, n5, n6⟩ := box7g_of hh0
  have HFW : Hid (Calls Try.prog 5 #[.agg #[.int .i64 k0, .string nm, .slice hA head.length hc, .int .i64 ag, .string ofv, .int .i64 lim, .slice bA body.length bc]] (w.alloc (.cells #[.int .i64 k0, .string nm, .slice hA head.length hc, .int .i64 ag, .string ofv, .int .i64 lim, .slice bA body.length bc] 25)) fun e w' => FewG (RuG.few (⟨k0, nm, hA, hc, head, ag, ofv, lim, bA, bc, body⟩ : RuG)) (w.alloc (.cells #[.int .i64 k0, .string nm, .slice hA head.length hc, .int .i64 ag, .string ofv, .int .i64 lim, .slice bA body.length bc] 25)) e w') := Lib.hid (r_fewG (⟨k0, nm, hA, hc, head, ag, ofv, lim, bA, bc, body⟩ : RuG) _ hok0 hlg)
  have HON := Lib.hid hon
  have HOK := Lib.hid hok0
  have HBX := Lib.hid hh0
  have HZ0 := Lib.hid hz0
  have HLG := Lib.hid hlg
  show Calls Try.prog 4 #[.agg #[.int .i64 k0, .string nm, .slice hA head.length hc, .int .i64 ag, .string ofv, .int .i64 lim, .slice bA body.length bc]] w fun e w' => e = .returned (.bool true) ∧ Below w.heap.size w w'
  clear hr hlg hon hok0 hz0 hh0
  go_enter Try.func4, Try.ntmps4
  go_wp2_with fail
  refine HFW.out.mono ?_
  rintro e w1 ⟨q, rfl, hq, hb1⟩
  have HQ := Lib.hid hq
  have HS : Hid (∀ W : World, Below w1.heap.size w1 W → W.cell? ⟨w.heap.size, 0, none⟩ = some (Value.int .i64 k0) ∧ W.cell? ⟨w.heap.size, 1, none⟩ = some (Value.string nm) ∧ W.cell? ⟨w.heap.size, 2, none⟩ = some (Value.slice hA head.length hc) ∧ W.cell? ⟨w.heap.size, 3, none⟩ = some (Value.int .i64 ag) ∧ W.cell? ⟨w.heap.size, 4, none⟩ = some (Value.string ofv) ∧ W.cell? ⟨w.heap.size, 5, none⟩ = some (Value.int .i64 lim) ∧ W.cell? ⟨w.heap.size, 6, none⟩ = some (Value.slice bA body.length bc)) := Lib.hid fun W hW => box7g_of ((hW.block _ (by have := hb1.size; rw [HZ0.out] at this; omega)).trans ((hb1.block _ (by rw [HZ0.out]; omega)).trans HBX.out))
  have HO1 := Lib.hid (HON.out.trans (hb1.mono (by rw [HZ0.out]; omega)))
  have HOK1 := Lib.hid (HOK.out.below hb1)
  clear hq hb1 HFW n0 n1 n2 n3 n4 n5 n6
  cases q with
  | false =>
    go_wp2_with fail
    refine (KN.out _).mono ?_
    rintro e we ⟨rfl, hbe⟩
    have HBE := Lib.hid (HO1.out.trans (hbe.mono HO1.out.size))
    clear hbe
    go_wp2
    go_ret
    exact ⟨rfl, HBE.out⟩
  | true =>
    have hfw := HQ.out rfl
    have hbl : body.length ≤ 40 := hfw.2.1
    have hhl : head.length ≤ 100 := hfw.1
    have HAL : Hid (∀ x ∈ body, x.args.length ≤ 100) := Lib.hid hfw.2.2
    have HFW := Lib.hid hfw
    have HST := Lib.hid (ASt.start w1)
    clear hfw HQ HOK
    go_wp2
    go_loopw [4] (fun i wr => ∃ (k : Nat) (v : Value), i = .int .i64 k ∧ k ≤ head.length ∧ Hid (∀ s ∈ head.take k, s.toList ≠ []) ∧ ASt w1 wr w1.heap.size v (tmOf ⟨#[122]⟩ :: (head.take k).map tmOf)) (fun i _ => head.length - (intOf i).toNat)
    case atStart =>
      exact ⟨0, .slice (some ⟨w1.heap.size, 0, none⟩) 1 1, rfl, Nat.zero_le _, Lib.hid (fun s hs => by simp at hs), HST.out⟩
    case round =>
      obtain ⟨k, v, rfl, hk, HNE, hA1⟩ := hrel
      have HA := Lib.hid hA1
      have HB0 := Lib.hid (HO1.out.trans (hA1.on.mono (HO1.out.size)))
      have hon1 : Below w1.heap.size w1 wr := hA1.on
      obtain ⟨n0, n1, n2, n3, n4, n5, n6⟩ := HS.out wr hon1
      obtain ⟨ts, hts⟩ : ∃ ts, tmOf ⟨#[122]⟩ :: (head.take k).map tmOf = ts := ⟨_, rfl⟩
      have htl : ts.length ≤ 101 := by rw [← hts, List.length_cons, List.length_map, List.length_take]; omega
      have HTS := Lib.hid hts
      rw [hts] at HA
      obtain ⟨vA, vc, hv⟩ := HA.out.own.shape
      subst hv
      obtain ⟨_, _, d2, _⟩ := HA.out.cell
      have f2 := HA.out.frozen 2
      have hhs := (HOK1.out.below hon1).1
      have HW1 := Lib.hid hon1
      clear hA1 hts
      by_cases hlt : k < head.length
      · obtain ⟨s, hs⟩ : ∃ s, head[k]? = some s := ⟨_, List.getElem?_eq_getElem hlt⟩
        obtain ⟨a, rfl, a0⟩ := els_S hhs hs
        have HX := Lib.hid hs
        clear hs hhs hon1
        rcases Bool.eq_false_or_eq_true (s.toList == []) with he | he
        ·
          go_wp2_with fail
          refine (KN.out _).mono ?_
          rintro e we ⟨rfl, hbe⟩
          have HBE := Lib.hid (HB0.out.trans (hbe.mono HB0.out.size))
          clear hbe
          go_wp2
          go_ret
          exact ⟨rfl, HBE.out⟩
        · have hsn : s.toList ≠ [] := fun e => by rw [e] at he; simp at he
          have HSN := Lib.hid hsn
          obtain ⟨_, _, d2a, _⟩ : _ ∧ _ ∧ (wr.alloc (.cells #[.string s, .bool false, .int .i64 0, .bool false, .int .i64 0, .string ⟨#[]⟩] 38)).cell? ⟨w1.heap.size + 1, 2, none⟩ = some (.slice vA ts.length vc) ∧ _ := (HA.out.below (one_new wr (bxT s))).cell
          have q2 := lit_F TmP.cells wr (tmOf s) #[.string s, .bool false, .int .i64 0, .bool false, .int .i64 0, .string ⟨#[]⟩] 38 rfl
          have q3 : ts.length ≤ 1000000 := by omega
          have q4 : w1.heap.size ≤ (wr.alloc (bxT s)).heap.size := by have := HA.out.big; rw [World.size_alloc]; omega
          have q6 : (ts ++ [tmOf s]).length = ts.length + 1 := by rw [List.length_append]; rfl
          have q7 : ∀ w', World.grownBy ((wr.alloc (bxT s))).drew w' (Value.slice vA ts.length vc).ownBlock → World.grownBy (wr.alloc (bxT s)) w' (Value.slice vA ts.length vc).ownBlock := fun w' h => ⟨h.os, h.tape, h.output, h.size, h.block⟩
          have q8 : ∀ v' : Value, (v'.ownBlock = (Value.slice vA ts.length vc).ownBlock ∨ v'.ownBlock = some ((wr.alloc (bxT s))).drew.heap.size) → (v'.ownBlock = (Value.slice vA ts.length vc).ownBlock ∨ v'.ownBlock = some (wr.heap.size + 1)) := fun v' h => h.imp id fun h => by rw [h, World.size_drew, World.size_alloc]
          clear hsn
          go_wp2
          go_region_law
            ((refine step_append_F el_Tm _ (by rfl) _ _ (by rfl) w1.heap.size (.slice vA ts.length vc) ts (tmOf s) (by rfl) (by exact (HA.out.own.alloc _)) ⟨wr.heap.size, 0, none⟩ _ (by rfl) (by exact q2) q3 q4 ?_; intro v' w6 hown' hb6 hgrow hor; obtain ⟨A6, c6, hv6⟩ := hown'.shape; rw [q6] at hv6; subst hv6; have hgr := q7 _ hgrow; have hbx := HA.out.grown hgr; obtain ⟨_, _, k2, _, kf⟩ := box4_of hbx; have k2f := kf 2; have H6 := Lib.hid (HA.out.step hgr hown' (q8 _ hor)); clear hbx kf))
          all_goals
            have hA6 := H6
            clear hown' hb6 hgrow hor hgr q2 q3 q4 q6 q7 q8 k2 k2f
            clear H6
            go_wp2
            go_roundw
            case rel =>
              refine ⟨k + 1, .slice A6 (ts.length + 1) c6, by go_num, by omega, Lib.hid ?_, ?_⟩
              · intro s' hs'
                rw [List.take_add_one, HX.out] at hs'
                rcases List.mem_append.1 hs' with h | h
                · exact HNE.out s' h
                · rw [Option.toList, List.mem_singleton] at h
                  rw [h]
                  exact HSN.out
              · rw [List.take_add_one, HX.out, List.map_append, ← List.cons_append, HTS.out]
                exact hA6.out
            case measure => simp [intOf]; omega
      · have hkk : k = head.length := by omega
        subst hkk
        rw [List.take_length] at HNE HTS
        clear hlt hk hhs hon1
        have HTS0 := HTS
        have HNE0 := HNE
        obtain ⟨qq, hqq⟩ : ∃ qq, qq = ((ofv.toList == []) && (decide (2 ≤ ag) && decide (ag ≤ 4))) := ⟨_, rfl⟩
        have HQQ := Lib.hid hqq
        clear hqq
        go_upto_region 10 with fail
        go_cut [57] from 45 (fun v wx => v = Value.bool qq ∧ wx = wr)
        case first =>
          rcases Bool.eq_false_or_eq_true (ofv.toList == []) with ho | ho
          · by_cases h2 : 2 ≤ ag
            · have h2' : ¬ ag < 2 := by omega
              by_cases h4 : ag ≤ 4
              · have h4' : ¬ 4 < ag := by omega
                have HV : Hid (qq = true) := Lib.hid (by rw [HQQ.out, ho]; simp [h2, h4])
                go_wp2_with fail
                go_meet
                case rel => exact ⟨by rw [HV.out], rfl⟩
              · have h4' : 4 < ag := by omega
                have HV : Hid (qq = false) := Lib.hid (by rw [HQQ.out]; simp [h4])
                go_wp2_with fail
                go_meet
                case rel => exact ⟨by rw [HV.out], rfl⟩
            · have h2' : ag < 2 := by omega
              have HV : Hid (qq = false) := Lib.hid (by rw [HQQ.out]; simp [h2])
              go_wp2_with fail
              go_meet
              case rel => exact ⟨by rw [HV.out], rfl⟩
          · have HV : Hid (qq = false) := Lib.hid (by rw [HQQ.out, ho]; rfl)
            go_wp2_with fail
            go_meet
            case rel => exact ⟨by rw [HV.out], rfl⟩
        case rest =>
          obtain ⟨rfl, hwc⟩ := hcut
          subst wc
          cases qq with
          | true =>
            go_wp2_with fail
            refine (KN.out _).mono ?_
            rintro e we ⟨rfl, hbe⟩
            have HBE := Lib.hid (HB0.out.trans (hbe.mono HB0.out.size))
            clear hbe
            go_wp2
            go_ret
            exact ⟨rfl, HBE.out⟩
          | false =>
            have HOF : Hid (2 ≤ ag ∧ ag ≤ 4 → ofv.toList ≠ []) := Lib.hid fun h e => by
              have h1 := HQQ.out
              rw [e] at h1
              simp [h.1, h.2] at h1
            have HB0' := HB0
            obtain ⟨_, _, d2a, _⟩ : _ ∧ _ ∧ (wr.alloc (.cells #[.string ofv, .bool false, .int .i64 0, .bool false, .int .i64 0, .string ⟨#[]⟩] 38)).cell? ⟨w1.heap.size + 1, 2, none⟩ = some (.slice vA ts.length vc) ∧ _ := (HA.out.below (one_new wr (bxT ofv))).cell
            have q2 := lit_F TmP.cells wr (tmOf ofv) #[.string ofv, .bool false, .int .i64 0, .bool false, .int .i64 0, .string ⟨#[]⟩] 38 rfl
            have q3 : ts.length ≤ 1000000 := by omega
            have q4 : w1.heap.size ≤ (wr.alloc (bxT ofv)).heap.size := by have := HA.out.big; rw [World.size_alloc]; omega
            have q6 : (ts ++ [tmOf ofv]).length = ts.length + 1 := by rw [List.length_append]; rfl
            have q7 : ∀ w', World.grownBy ((wr.alloc (bxT ofv))).drew w' (Value.slice vA ts.length vc).ownBlock → World.grownBy (wr.alloc (bxT ofv)) w' (Value.slice vA ts.length vc).ownBlock := fun w' h => ⟨h.os, h.tape, h.output, h.size, h.block⟩
            have q8 : ∀ v' : Value, (v'.ownBlock = (Value.slice vA ts.length vc).ownBlock ∨ v'.ownBlock = some ((wr.alloc (bxT ofv))).drew.heap.size) → (v'.ownBlock = (Value.slice vA ts.length vc).ownBlock ∨ v'.ownBlock = some (wr.heap.size + 1)) := fun v' h => h.imp id fun h => by rw [h, World.size_drew, World.size_alloc]
            have q8w : ∀ v' : Value, (v'.ownBlock = (Value.slice vA ts.length vc).ownBlock ∨ v'.ownBlock = some ((wr.alloc (bxT ofv))).heap.size) → (v'.ownBlock = (Value.slice vA ts.length vc).ownBlock ∨ v'.ownBlock = some (wr.heap.size + 1)) := fun v' h => h.imp id fun h => by rw [h, World.size_alloc]
            go_wp2_with ((at_builtin; refine wp_append_F el_Tm _ rfl (.tmp 60) (.tmp 64) rfl w1.heap.size (.slice vA ts.length vc) ts (tmOf ofv) rfl (by exact (HA.out.own.alloc _)) ⟨wr.heap.size, 0, none⟩ 1 rfl (by exact q2) q3 q4 ?_; intro v' w6 hown' hb6 hgrow hor; obtain ⟨A6, c6, hv6⟩ := hown'.shape; rw [q6] at hv6; subst hv6; have hgr := hgrow; have hbx := HA.out.grown hgr; obtain ⟨_, _, k2, _, kf⟩ := box4_of hbx; have k2f := kf 2; have H6 := Lib.hid (HA.out.step hgr hown' (q8w _ hor)); clear hbx kf))
            all_goals
              have hA6 := H6
              clear hown' hb6 hgrow hor hgr q2 q3 q4 q6 q7 q8 k2 k2f
              clear H6 HA HW1 HB0 HB0' n0 n1 n2 n3 n4 n5 n6 d2 f2 HTS HNE
              obtain ⟨T1, hT1⟩ : ∃ T1, ts ++ [tmOf ofv] = T1 := ⟨_, rfl⟩
              rw [hT1] at hA6
              have htl1 : T1.length ≤ 102 := by rw [← hT1, List.length_append, List.length_singleton]; omega
              have HT1 : Hid (tmOf ⟨#[122]⟩ :: head.map tmOf ++ [tmOf ofv] = T1) := Lib.hid (by rw [HTS0.out]; exact hT1)
              clear hT1
              go_loopw [5] (fun i wr => ∃ (k : Nat) (v : Value), i = .int .i64 k ∧ k ≤ body.length ∧ ASt w1 wr w1.heap.size v (T1 ++ argT (body.take k))) (fun i _ => body.length - (intOf i).toNat)
              case atStart => exact ⟨0, .slice A6 (ts.length + 1) c6, rfl, Nat.zero_le _, by simpa [argT] using hA6.out⟩
              case round =>
                clear hA6
                obtain ⟨k, v, rfl, hk, hA1⟩ := hrel
                have hon1 : Below w1.heap.size w1 wr := hA1.on
                have HA := Lib.hid hA1
                obtain ⟨n0, n1, n2, n3, n4, n5, n6⟩ := HS.out wr hon1
                obtain ⟨ts, hts⟩ : ∃ ts, T1 ++ argT (body.take k) = ts := ⟨_, rfl⟩
                have htl : ts.length ≤ 4102 := by
                  have h1 := argT_len (body.take k) fun x hx => HAL.out x (List.mem_of_mem_take hx)
                  rw [List.length_take] at h1
                  rw [← hts, List.length_append]
                  have h2 : min k body.length * 100 ≤ 40 * 100 := Nat.mul_le_mul_right _ (by omega)
                  omega
                have HTS := Lib.hid hts
                rw [hts] at HA
                have HW1 := Lib.hid hon1
                clear hA1 hts
                by_cases hlt : k < body.length
                · obtain ⟨x, hx⟩ : ∃ x, body[k]? = some x := ⟨_, List.getElem?_eq_getElem hlt⟩
                  have hxm := List.mem_of_getElem? hx
                  have hal := HAL.out x hxm
                  have HT := Lib.hid (HOK1.out.2.2 x hxm)
                  have HX := Lib.hid hx
                  obtain ⟨yn, ys, yA, yc, yargs, yo⟩ := x
                  simp only at hal
                  have HT : Hid (ElsAt TmP.cells 6 w1 yA yargs) := HT
                  clear hx hxm hon1
                  go_wp2
                  go_loopw [6] (fun i wr => ∃ (j : Nat) (v : Value), i = .int .i64 j ∧ j ≤ yargs.length ∧ ASt w1 wr w1.heap.size v (ts ++ (yargs.take j).map fun t => tmOf t.s)) (fun i _ => yargs.length - (intOf i).toNat)
                  case atStart => exact ⟨0, v, rfl, Nat.zero_le _, by simpa using HA.out⟩
                  case round =>
                    clear HA HW1
                    obtain ⟨j, v, rfl, hj, hA1⟩ := hrel
                    have hon1 : Below w1.heap.size w1 wr := hA1.on
                    have HA := Lib.hid hA1
                    obtain ⟨n0, n1, n2, n3, n4, n5, n6⟩ := HS.out wr hon1
                    obtain ⟨t2, hts⟩ : ∃ t2, ts ++ (yargs.take j).map (fun t => tmOf t.s) = t2 := ⟨_, rfl⟩
                    have htl2 : t2.length ≤ 4202 := by rw [← hts, List.length_append, List.length_map, List.length_take]; omega
                    have HT2 := Lib.hid hts
                    rw [hts] at HA
                    obtain ⟨vA, vc, hv⟩ := HA.out.own.shape
                    subst hv
                    obtain ⟨_, _, d2, _⟩ := HA.out.cell
                    have f2 := HA.out.frozen 2
                    obtain ⟨a, rfl, a0, a1, a2, a3⟩ := els_L (HOK1.out.below hon1).2.1 HX.out
                    simp only at a0 a1 a2 a3
                    have hta := HT.out.below hon1
                    clear hA1 hts
                    by_cases hlt2 : j < yargs.length
                    · obtain ⟨y, hy⟩ : ∃ y, yargs[j]? = some y := ⟨_, List.getElem?_eq_getElem hlt2⟩
                      obtain ⟨a', rfl, b0, _⟩ := els_T hta hy
                      obtain ⟨zs, za, zv⟩ := y
                      simp only at b0
                      have HY := Lib.hid hy
                      obtain ⟨_, _, d2a, _⟩ : _ ∧ _ ∧ (wr.alloc (.cells #[.string zs, .bool false, .int .i64 0, .bool false, .int .i64 0, .string ⟨#[]⟩] 38)).cell? ⟨w1.heap.size + 1, 2, none⟩ = some (.slice vA t2.length vc) ∧ _ := (HA.out.below (one_new wr (bxT zs))).cell
                      have q2 := lit_F TmP.cells wr (tmOf zs) #[.string zs, .bool false, .int .i64 0, .bool false, .int .i64 0, .string ⟨#[]⟩] 38 rfl
                      have q3 : t2.length ≤ 1000000 := by omega
                      have q4 : w1.heap.size ≤ (wr.alloc (bxT zs)).heap.size := by have := HA.out.big; rw [World.size_alloc]; omega
                      have q6 : (t2 ++ [tmOf zs]).length = t2.length + 1 := by rw [List.length_append]; rfl
                      have q7 : ∀ w', World.grownBy ((wr.alloc (bxT zs))).drew w' (Value.slice vA t2.length vc).ownBlock → World.grownBy (wr.alloc (bxT zs)) w' (Value.slice vA t2.length vc).ownBlock := fun w' h => ⟨h.os, h.tape, h.output, h.size, h.block⟩
                      have q8 : ∀ v' : Value, (v'.ownBlock = (Value.slice vA t2.length vc).ownBlock ∨ v'.ownBlock = some ((wr.alloc (bxT zs))).drew.heap.size) → (v'.ownBlock = (Value.slice vA t2.length vc).ownBlock ∨ v'.ownBlock = some (wr.heap.size + 1)) := fun v' h => h.imp id fun h => by rw [h, World.size_drew, World.size_alloc]
                      clear hy hta hon1
                      go_wp2
                      go_region_law
                        ((refine step_append_F el_Tm _ (by rfl) _ _ (by rfl) w1.heap.size (.slice vA t2.length vc) t2 (tmOf zs) (by rfl) (by exact (HA.out.own.alloc _)) ⟨wr.heap.size, 0, none⟩ _ (by rfl) (by exact q2) q3 q4 ?_; intro v' w6 hown' hb6 hgrow hor; obtain ⟨A6, c6, hv6⟩ := hown'.shape; rw [q6] at hv6; subst hv6; have hgr := q7 _ hgrow; have hbx := HA.out.grown hgr; obtain ⟨_, _, k2, _, kf⟩ := box4_of hbx; have k2f := kf 2; have H6 := Lib.hid (HA.out.step hgr hown' (q8 _ hor)); clear hbx kf))
                      all_goals
                        have hA6 := H6
                        clear hown' hb6 hgrow hor hgr q2 q3 q4 q6 q7 q8 k2 k2f
                        clear H6
                        go_wp2
                        go_roundw
                        case rel =>
                          refine ⟨j + 1, .slice A6 (t2.length + 1) c6, by go_num, by omega, ?_⟩
                          rw [List.take_add_one, HY.out, List.map_append, ← List.append_assoc, HT2.out]
                          exact hA6.out
                        case measure => simp [intOf]; omega
                    · have hjj : yargs.take j = yargs := List.take_of_length_le (by omega)
                      rw [hjj] at HT2
                      clear hta hon1
                      go_wp2
                      go_roundw
                      case rel =>
                        refine ⟨k + 1, .slice vA t2.length vc, by go_num, by omega, ?_⟩
                        rw [argT_next HX.out, ← List.append_assoc, HTS.out, HT2.out]
                        exact HA.out
                      case measure => simp [intOf]; omega
                · have hkk : body.take k = body := List.take_of_length_le (by omega)
                  rw [hkk] at HTS
                  have hall : ts = allTs (RuG.pl (⟨k0, nm, hA, hc, head, ag, ofv, lim, bA, bc, body⟩ : RuG)) := by rw [← HTS.out, ← HT1.out]; exact (allTs_eq (⟨k0, nm, hA, hc, head, ag, ofv, lim, bA, bc, body⟩ : RuG)).symm
                  have HALL := Lib.hid hall
                  obtain ⟨vA, vc, hv⟩ := HA.out.own.shape
                  subst hv
                  clear hall hkk hk hon1
                  have hW1 := HW1.out
                  have y0 := heap_alloc_new wr (.cells #[.int .i64 k0, .string nm, .slice hA head.length hc, .int .i64 ag, .string ofv, .int .i64 lim, .slice bA body.length bc] 25)
                  have yon := one_new wr (.cells #[.int .i64 k0, .string nm, .slice hA head.length hc, .int .i64 ag, .string ofv, .int .i64 lim, .slice bA body.length bc] 25)
                  have ysz : (wr.alloc (.cells #[.int .i64 k0, .string nm, .slice hA head.length hc, .int .i64 ag, .string ofv, .int .i64 lim, .slice bA body.length bc] 25)).heap.size = wr.heap.size + 1 := World.size_alloc _ _
                  have honY := hW1.trans (yon.mono hW1.size)
                  have HAY := Lib.hid (HA.out.below yon)

                  have HVB := Lib.hid (fun k hk => (HA.out.own.lt k hk).2)
                  have HSZ := Lib.hid hW1.size
                  have HBY := Lib.hid (HO1.out.trans (honY.mono HO1.out.size))
                  clear HA hW1 HW1
                  go_upto_region 21 with fail
                  generalize wr.alloc (.cells #[.int .i64 k0, .string nm, .slice hA head.length hc, .int .i64 ag, .string ofv, .int .i64 lim, .slice bA body.length bc] 25) = WY at *
                  obtain ⟨_, _, _, _, _, _, m6⟩ := HS.out WY honY
                  have hE := one_new WY (.cells #[] 41)
                  have honE := honY.trans (hE.mono honY.size)
                  obtain ⟨_, _, _, _, _, _, e6⟩ := HS.out _ honE
                  obtain ⟨c0, c1, c2, c3⟩ := HAY.out.cell
                  obtain ⟨x0, x1, x2, x3⟩ := (HAY.out.below hE).cell
                  have elsE := (HOK1.out.below honE).2.1
                  have ownE := own_noneF WY WY.heap.size rfl LmG.cells 4 41
                  have q1 : ([] : List LmG).length + body.length ≤ 1000000 := by simp; omega
                  have q2 : WY.heap.size ≤ (WY.alloc (.cells #[] 41)).heap.size := by simp
                  have HE := Lib.hid hE
                  have HONY := Lib.hid honY
                  have HY0 := Lib.hid y0
                  have hyl : wr.heap.size < WY.heap.size := by omega
                  have hwr : w1.heap.size ≤ wr.heap.size := HSZ.out
                  have hl9 : (body ++ [(⟨false, wAll, vA, vc, ts, 0⟩ : LmG)]).length = body.length + 1 := by rw [List.length_append]; rfl
                  clear hE honE honY y0 yon ysz
                  have hEb := two_new WY (.cells #[] 41) (.cells #[.bool false, .string wAll, .slice vA ts.length vc, .int .i64 0] 41)
                  have hEc := two_new WY (.cells #[.bool false, .string wAll, .slice vA ts.length vc, .int .i64 0] 41) (.cells #[] 41)
                  obtain ⟨_, _, _, _, _, _, e6b⟩ := HS.out _ (HONY.out.trans (hEb.mono HONY.out.size))
                  obtain ⟨_, _, _, _, _, _, e6c⟩ := HS.out _ (HONY.out.trans (hEc.mono HONY.out.size))
                  obtain ⟨_, _, _, _, _, _, e6d⟩ := HS.out _ (HONY.out.trans ((one_new WY (.cells #[.bool false, .string wAll, .slice vA ts.length vc, .int .i64 0] 41)).mono HONY.out.size))
                  have elsEb := (HOK1.out.below (HONY.out.trans (hEb.mono HONY.out.size))).2.1
                  have elsEc := (HOK1.out.below (HONY.out.trans (hEc.mono HONY.out.size))).2.1
                  have ownEb := ownE.alloc (.cells #[.bool false, .string wAll, .slice vA ts.length vc, .int .i64 0] 41)
                  have ownEc := own_noneF (WY.alloc (.cells #[.bool false, .string wAll, .slice vA ts.length vc, .int .i64 0] 41)) (WY.heap.size + 1) (World.size_alloc _ _).symm LmG.cells 4 41
                  have q2b : WY.heap.size ≤ ((WY.alloc (.cells #[] 41)).alloc (.cells #[.bool false, .string wAll, .slice vA ts.length vc, .int .i64 0] 41)).heap.size := by simp; omega
                  have q2c : WY.heap.size + 1 ≤ ((WY.alloc (.cells #[.bool false, .string wAll, .slice vA ts.length vc, .int .i64 0] 41)).alloc (.cells #[] 41)).heap.size := by simp
                  have HEb := Lib.hid hEb
                  have HEc := Lib.hid hEc
                  have rb : ∀ j u, (LmG.cells (⟨false, wAll, vA, vc, ts, 0⟩ : LmG))[j]? = some u → ((WY.alloc (.cells #[] 41)).alloc (.cells #[.bool false, .string wAll, .slice vA ts.length vc, .int .i64 0] 41)).cell? ((⟨WY.heap.size + 1, 0, none⟩ : Addr).add j) = some u := fun j u hj => by
                    have h := lit_F LmG.cells (WY.alloc (.cells #[] 41)) (⟨false, wAll, vA, vc, ts, 0⟩ : LmG) #[.bool false, .string wAll, .slice vA ts.length vc, .int .i64 0] 41 rfl j u hj
                    rwa [World.size_alloc] at h
                  have rc : ∀ j u, (LmG.cells (⟨false, wAll, vA, vc, ts, 0⟩ : LmG))[j]? = some u → ((WY.alloc (.cells #[.bool false, .string wAll, .slice vA ts.length vc, .int .i64 0] 41)).alloc (.cells #[] 41)).cell? ((⟨WY.heap.size, 0, none⟩ : Addr).add j) = some u := fun j u hj => by
                    rw [add_zero_g]
                    exact (World.cell?_of_block (w := WY.alloc (.cells #[.bool false, .string wAll, .slice vA ts.length vc, .int .i64 0] 41)) (a := ⟨WY.heap.size, j, none⟩) (Below.heap_alloc _ _ _ (by simp))).trans (by have h := lit_F LmG.cells WY (⟨false, wAll, vA, vc, ts, 0⟩ : LmG) #[.bool false, .string wAll, .slice vA ts.length vc, .int .i64 0] 41 rfl j u hj; rwa [add_zero_g] at h)
                  have RB := Lib.hid rb
                  have RC := Lib.hid rc
                  clear hEb hEc rb rc
                  go_cut [] from 102 (fun wx => ∃ (A9 : Option Addr) (c9 : Nat), wx.heap[wr.heap.size]? = some (.cells #[.int .i64 k0, .string nm, .slice hA head.length hc, .int .i64 ag, .string ofv, .int .i64 lim, .slice A9 (body.length + 1) c9] 25 (0, 0)) ∧ Below w1.heap.size w1 wx ∧ RuG.Ok wx (⟨k0, nm, hA, hc, head, ag, ofv, lim, A9, c9, body ++ [⟨false, wAll, vA, vc, ts, 0⟩]⟩ : RuG))
                  case first =>
                    go_region_law
                      (first
                        | (refine step_appendAll_F el_LmG _ (by rfl) _ _ (by rfl) WY.heap.size (.slice (some ⟨WY.heap.size, 0, none⟩) 0 0) [] body (by rfl) (by exact ownE) bA _ bc (by rfl) rfl (by exact elsE) q1 (by exact q2) ?_; intro v8 w8 hown8 hb8 hg8 hor8; obtain ⟨A8, c8, hv8⟩ := hown8.shape; rw [List.nil_append] at hv8 hown8; subst hv8; have hb08 := Lib.hid (HE.out.trans (show Below WY.heap.size (WY.alloc (.cells #[] 41)) w8 from ⟨hb8.os, hb8.tape, hb8.output, hb8.size, hb8.block⟩)); have HA8 := HAY.out.below hb08.out; obtain ⟨b0, b1, b2, b3⟩ := HA8.cell; have r3 : body.length ≤ 1000000 := (by omega); have r2 := lit_F LmG.cells w8 (⟨false, wAll, vA, vc, ts, 0⟩ : LmG) #[.bool false, .string wAll, .slice vA ts.length vc, .int .i64 0] 41 rfl; have r4 : WY.heap.size ≤ (w8.alloc (.cells #[.bool false, .string wAll, .slice vA ts.length vc, .int .i64 0] 41)).heap.size := (by have := hb08.out.size; rw [World.size_alloc]; omega); clear HA8 hb8 hg8 hor8)
                        | (refine step_appendAll_F el_LmG _ (by rfl) _ _ (by rfl) WY.heap.size (.slice (some ⟨WY.heap.size, 0, none⟩) 0 0) [] body (by rfl) (by exact ownEb) bA _ bc (by rfl) rfl (by exact elsEb) q1 (by exact q2b) ?_; intro v8 w8 hown8 hb8 hg8 hor8; obtain ⟨A8, c8, hv8⟩ := hown8.shape; rw [List.nil_append] at hv8 hown8; subst hv8; have hb08 := Lib.hid (HEb.out.trans (show Below WY.heap.size ((WY.alloc (.cells #[] 41)).alloc (.cells #[.bool false, .string wAll, .slice vA ts.length vc, .int .i64 0] 41)) w8 from ⟨hb8.os, hb8.tape, hb8.output, hb8.size, hb8.block⟩)); have HA8 := HAY.out.below hb08.out; obtain ⟨b0, b1, b2, b3⟩ := HA8.cell; have r3 : body.length ≤ 1000000 := (by omega); have r2 : ∀ j u, (LmG.cells (⟨false, wAll, vA, vc, ts, 0⟩ : LmG))[j]? = some u → w8.cell? ((⟨WY.heap.size + 1, 0, none⟩ : Addr).add j) = some u := (fun j u hj => by have h := RB.out j u hj; rw [add_zero_g] at h ⊢; exact (World.cell?_of_block (w := (WY.alloc (.cells #[] 41)).alloc (.cells #[.bool false, .string wAll, .slice vA ts.length vc, .int .i64 0] 41)) (a := ⟨WY.heap.size + 1, j, none⟩) (hg8.block _ (by show _ < ((WY.alloc (.cells #[] 41)).alloc (.cells #[.bool false, .string wAll, .slice vA ts.length vc, .int .i64 0] 41)).heap.size; simp) (fun e => by have e' : some (WY.heap.size + 1) = some WY.heap.size := e; injection e' with e'; omega))).trans h); have r4 : WY.heap.size ≤ w8.heap.size := hb08.out.size; clear HA8 hb8 hg8 hor8)
                        | (refine step_appendAll_F el_LmG _ (by rfl) _ _ (by rfl) (WY.heap.size + 1) (.slice (some ⟨WY.heap.size + 1, 0, none⟩) 0 0) [] body (by rfl) (by exact ownEc) bA _ bc (by rfl) rfl (by exact elsEc) q1 (by exact q2c) ?_; intro v8 w8 hown8 hb8 hg8 hor8; obtain ⟨A8, c8, hv8⟩ := hown8.shape; rw [List.nil_append] at hv8 hown8; subst hv8; have hown8 := OwnF.lower hown8 (Nat.le_succ WY.heap.size); have hb08 := Lib.hid (HEc.out.trans (show Below WY.heap.size ((WY.alloc (.cells #[.bool false, .string wAll, .slice vA ts.length vc, .int .i64 0] 41)).alloc (.cells #[] 41)) w8 from ⟨hb8.os, hb8.tape, hb8.output, hb8.size, fun k hk => hb8.block k (Nat.lt_succ_of_lt hk)⟩)); have HA8 := HAY.out.below hb08.out; obtain ⟨b0, b1, b2, b3⟩ := HA8.cell; have r3 : body.length ≤ 1000000 := (by omega); have r2 : ∀ j u, (LmG.cells (⟨false, wAll, vA, vc, ts, 0⟩ : LmG))[j]? = some u → w8.cell? ((⟨WY.heap.size, 0, none⟩ : Addr).add j) = some u := (fun j u hj => by have h := RC.out j u hj; rw [add_zero_g] at h ⊢; exact (World.cell?_of_block (w := (WY.alloc (.cells #[.bool false, .string wAll, .slice vA ts.length vc, .int .i64 0] 41)).alloc (.cells #[] 41)) (a := ⟨WY.heap.size, j, none⟩) (hg8.block _ (by show _ < ((WY.alloc (.cells #[.bool false, .string wAll, .slice vA ts.length vc, .int .i64 0] 41)).alloc (.cells #[] 41)).heap.size; simp; omega) (fun e => by have e' : some WY.heap.size = some (WY.heap.size + 1) := e; injection e' with e'; omega))).trans h); have r4 : WY.heap.size ≤ w8.heap.size := hb08.out.size; clear HA8 hb8 hg8 hor8)
                        | (refine step_append_F el_LmG _ (by rfl) _ _ (by rfl) WY.heap.size (.slice A8 body.length c8) body (⟨false, wAll, vA, vc, ts, 0⟩ : LmG) (by rfl) (by exact (hown8.alloc _)) ⟨w8.heap.size, 0, none⟩ _ (by rfl) (by exact r2) r3 (by exact r4) ?_; intro v9 w9 hown9 hb9 hg9 hor9; obtain ⟨A9, c9, hv9⟩ := hown9.shape; rw [hl9] at hv9; subst hv9; have hb09 := Lib.hid (hb08.out.trans (((one_new w8 (.cells #[.bool false, .string wAll, .slice vA ts.length vc, .int .i64 0] 41)).mono hb08.out.size).trans (show Below WY.heap.size (w8.alloc (.cells #[.bool false, .string wAll, .slice vA ts.length vc, .int .i64 0] 41)) w9 from ⟨hb9.os, hb9.tape, hb9.output, hb9.size, hb9.block⟩))); have y9 := (hb09.out.block wr.heap.size hyl).trans HY0.out; obtain ⟨_, _, _, _, _, _, _, yf⟩ := box7r_of y9; have y6f := yf 6; have Y9 := Lib.hid y9; clear y9 yf)
                        | (refine step_append_F el_LmG _ (by rfl) _ _ (by rfl) WY.heap.size (.slice A8 body.length c8) body (⟨false, wAll, vA, vc, ts, 0⟩ : LmG) (by rfl) (by exact hown8) ⟨WY.heap.size + 1, 0, none⟩ _ (by rfl) (by exact r2) r3 (by exact r4) ?_; intro v9 w9 hown9 hb9 hg9 hor9; obtain ⟨A9, c9, hv9⟩ := hown9.shape; rw [hl9] at hv9; subst hv9; have hb09 := Lib.hid (hb08.out.trans (show Below WY.heap.size w8 w9 from ⟨hb9.os, hb9.tape, hb9.output, hb9.size, hb9.block⟩)); have y9 := (hb09.out.block wr.heap.size hyl).trans HY0.out; obtain ⟨_, _, _, _, _, _, _, yf⟩ := box7r_of y9; have y6f := yf 6; have Y9 := Lib.hid y9; clear y9 yf)
                        | (refine step_append_F el_LmG _ (by rfl) _ _ (by rfl) WY.heap.size (.slice A8 body.length c8) body (⟨false, wAll, vA, vc, ts, 0⟩ : LmG) (by rfl) (by exact hown8) ⟨WY.heap.size, 0, none⟩ _ (by rfl) (by exact r2) r3 (by exact r4) ?_; intro v9 w9 hown9 hb9 hg9 hor9; obtain ⟨A9, c9, hv9⟩ := hown9.shape; rw [hl9] at hv9; subst hv9; have hb09 := Lib.hid (hb08.out.trans (show Below WY.heap.size w8 w9 from ⟨hb9.os, hb9.tape, hb9.output, hb9.size, hb9.block⟩)); have y9 := (hb09.out.block wr.heap.size hyl).trans HY0.out; obtain ⟨_, _, _, _, _, _, _, yf⟩ := box7r_of y9; have y6f := yf 6; have Y9 := Lib.hid y9; clear y9 yf))
                    all_goals
                      have ha9 := HAY.out.below hb09.out
                      have hz := Lib.hid (ynext Y9.out hb09.out HONY.out hwr hyl HOK1.out ha9 HVB.out hown9)
                      clear ha9
                      go_wp2_with fail
                      go_meet
                      case rel => exact ⟨A9, c9, hz.out⟩
                  case rest =>
                    obtain ⟨A9, c9, hzb, hzon, hzok⟩ := hcut
                    have hsm : RuG.Sml (⟨k0, nm, hA, hc, head, ag, ofv, lim, A9, c9, body ++ [⟨false, wAll, vA, vc, ts, 0⟩]⟩ : RuG) := sml_all HFW.out HLG.out (x := ⟨false, wAll, vA, vc, ts, 0⟩) (by show ts.length ≤ 5000; omega) (fun t ht => by have ht : t ∈ ts := ht; rw [HALL.out] at ht; exact all_short HLG.out t ht)
                    have hpl : RuG.pl (⟨k0, nm, hA, hc, head, ag, ofv, lim, A9, c9, body ++ [⟨false, wAll, vA, vc, ts, 0⟩]⟩ : RuG) = withAll (RuG.pl (⟨k0, nm, hA, hc, head, ag, ofv, lim, bA, bc, body⟩ : RuG)) := by rw [HALL.out]; simp [RuG.pl, withAll, allL]
                    have hck : checkX (RuG.pl (⟨k0, nm, hA, hc, head, ag, ofv, lim, A9, c9, body ++ [⟨false, wAll, vA, vc, ts, 0⟩]⟩ : RuG)) = (0, 0) := by rw [hpl]; exact check_all HNE0.out HOF.out
                    have hfr : freeX (RuG.pl (⟨k0, nm, hA, hc, head, ag, ofv, lim, A9, c9, body ++ [⟨false, wAll, vA, vc, ts, 0⟩]⟩ : RuG)) = (⟨#[]⟩, 0, false) := by rw [hpl]; exact free_all HNE0.out HOF.out
                    have HPC := p_Check _ _ hzok hsm
                    rw [hck] at HPC
                    have HPF := fun W (hW : Below wc.heap.size wc W) => p_Free _ W (hzok.below hW) hsm
                    rw [hfr] at HPF
                    simp only [RuG.cells, hl9] at HPC HPF
                    have HPC := Lib.hid HPC
                    have HPF := Lib.hid HPF
                    have HZB := Lib.hid hzb
                    have HZO := Lib.hid (HO1.out.trans (hzon.mono HO1.out.size))
                    obtain ⟨u0, u1, u2, u3, u4, u5, u6⟩ := box7g_of hzb
                    clear hpl hck hfr hzok hzon hsm hzb
                    go_wp2_with fail
                    refine HPC.out.mono ?_
                    rintro e w10 ⟨rfl, hb10⟩
                    have HB10 := Lib.hid hb10
                    clear hb10 u0 u1 u2 u3 u4 u5 u6
                    obtain ⟨u0, u1, u2, u3, u4, u5, u6⟩ := box7g_of ((HB10.out.block wr.heap.size (Array.getElem?_eq_some_iff.1 HZB.out).1).trans HZB.out)
                    go_wp2_with fail
                    refine (HPF.out _ HB10.out).mono ?_
                    rintro e w11 ⟨rfl, hb11⟩
                    have HB11 := Lib.hid (HZO.out.trans ((HB10.out.trans (hb11.mono HB10.out.size)).mono HZO.out.size))
                    clear hb11 u0 u1 u2 u3 u4 u5 u6
                    go_wp2_with fail
                    refine (KN.out _).mono ?_
                    rintro e w12 ⟨rfl, hb12⟩
                    have HBE := Lib.hid (HB11.out.trans (hb12.mono HB11.out.size))
                    clear hb12
                    go_wp2
                    go_ret
                    exact ⟨rfl, HBE.out⟩
end Go.Proofs.Ytmkejlhkipngnaa
