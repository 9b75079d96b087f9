/-
  SchemaMakes of verdererlaw07 answers true at every list of kinds and text, and each argument reads afterwards as it read before: whether kinds can be, what they are, and the columns of any relation are what the document says.
  Condition: the listed variables of the library read as the program's text lays them; the card ties that to the text of the pruned copy of the project.
-/
import Derived.Test.YtgifkigamebofaaDoorSdoor
import Derived.Test.YtgifkigamebofaaDoorSchemaFits
import Derived.Test.YtgifkigamebofaaDoorSrsam
import Derived.Test.YtgifkigamebofaaDoorCards
import Derived.Test.YtgifkigamebofaaDoorTie
import Derived.SevenTiedAt
import Derived.Lib.SmallJoins
namespace Go.Proofs.YtgifkigamebofaaDoor
open Go.ChangeShapes Go.WideShapes Go.ChangeAt Go.RowKit Go.Deep

theorem cell_lift {w W : World} {p : Addr} {v : Value} (h : w.cell? p = some v) (hb : Below w.heap.size w W) : W.cell? p = some v := (hb.cell (World.block_lt_of_cell? w _ h)).trans h
theorem two_boxes {w W : World} {nm : ByteArray} {v : Value} (hb : Below (w.heap.size + 1) (w.alloc (.cells #[.string nm, v] 34)) W) : W.cell? ⟨w.heap.size, 0, none⟩ = some (.string nm) ∧ W.cell? ⟨w.heap.size, 1, none⟩ = some v :=
  ⟨(hb.cell (p := ⟨w.heap.size, 0, none⟩) (Nat.lt_succ_self _)).trans (new_cell w _ _ 0 _ rfl), (hb.cell (p := ⟨w.heap.size, 1, none⟩) (Nat.lt_succ_self _)).trans (new_cell w _ _ 1 _ rfl)⟩

set_option maxRecDepth 100000 in
set_option maxHeartbeats 4000000 in
theorem schemaMakes_all (A : Option Addr) (es : List WS) (rel : ByteArray) (n c : Nat) (w : World) (hm : MV w) (hn : n = es.length) (hl : n ≤ maxLen) (hA : A = none → c = 0) (hc : n ≤ c) (hx : WeakS w A es) :
    Calls Tryd.prog 3 #[.slice A n c, .string rel] w fun e w' => e = .returned (.bool true) ∧ Below w.heap.size w w' := by
  have HF := Lib.hid (s_few A es n c w hn hl hx)
  have HK := Lib.hid (fun (W : World) (hb : Below w.heap.size w W) => known7 W (hm.later hb))
  rcases Bool.eq_false_or_eq_true (fewS es) with hf | hf
  · have hk := hx.kinds hA (hn ▸ hc) hf
    rw [← hn] at hk
    have hfw : ∀ x ∈ es.map scOf, x.cols.length ≤ 900000 := by
      intro x hxm
      obtain ⟨e, he, rfl⟩ := List.mem_map.1 hxm
      exact Nat.le_trans (((fewS_iff es).1 hf).2 e he).1 (by decide)
    obtain ⟨l, hl2⟩ : ∃ l, es.map scOf = l := ⟨_, rfl⟩
    rw [hl2] at hk hfw
    have HKD := Lib.hid hk
    have HFW := Lib.hid hfw
    rw [hf] at HF
    have HNEW := Lib.hid (s_new _ _ l w HKD.out)
    clear hm hn hl hA hc hx hk hl2 hf hfw
    go_enter Tryd.func3, Tryd.ntmps3
    go_wp2_with fail
    refine HF.out.mono ?_
    rintro e w1 ⟨rfl, rfl⟩
    go_wp2_with fail
    refine HNEW.out.mono ?_
    rintro e w2 ⟨hb2, hcase⟩
    have HB2 := Lib.hid hb2
    clear hb2 HNEW
    obtain ⟨hn2, hl2, ls, hls, hcs⟩ := kinds_open (HKD.out.below HB2.out)
    have HCK := Lib.hid (ref_check _ A ls l n c w2 hn2 (by omega) hls hcs)
    have HN := Lib.hid hn2
    have hn9 : n ≤ 1000000 := by rw [hn2]; exact hl2
    clear hn2 hls hcs
    rcases hcase with ⟨h0, g, rfl, hs⟩ | ⟨h0, rfl⟩
    · rw [h0] at HCK
      have HS := Lib.hid hs
      clear hs h0
      go_wp2_with fail
      refine HCK.out.mono ?_
      rintro e w3 ⟨rfl, hb3⟩
      have HB3 := Lib.hid (HB2.out.trans (hb3.mono HB2.out.size))
      have HS3 := Lib.hid (HS.out.below hb3)
      clear hb3
      go_wp2_with fail
      refine (s_Kinds _ g l w3 HS3.out).mono ?_
      rintro e w4 ⟨kv, rfl, hkv, hb4⟩
      have HB4 := Lib.hid (HB3.out.trans (hb4.mono HB3.out.size))
      have HS4 := Lib.hid (HS3.out.below hb4)
      have HKV := Lib.hid hkv
      obtain ⟨_, A4, c4, rfl, _⟩ := hkv
      rw [← HN.out]
      clear hb4
      go_wp2
      go_loopw [9] (fun i wr => ∃ k : Nat, k ≤ n ∧ i = .int .i64 k ∧ Below w4.heap.size w4 wr) (fun i _ => n - (intOf i).toNat)
      case atStart => exact ⟨0, Nat.zero_le _, rfl, Below.refl _ _⟩
      case round =>
        obtain ⟨k, hk, rfl, hb⟩ := hrel
        have HB := Lib.hid hb
        have HBW := Lib.hid (HB4.out.trans (hb.mono HB4.out.size))
        clear hb
        by_cases h1 : k < n
        · obtain ⟨x, hx⟩ : ∃ x, l[k]? = some x := ⟨_, List.getElem?_eq_getElem (by rw [← HN.out]; exact h1)⟩
          obtain ⟨-, -, lsa, hlsa, hcsa⟩ := kinds_open (HKD.out.below HBW.out)
          obtain ⟨-, -, lsb, hlsb, hcsb⟩ := kinds_open (HKV.out.below HB.out)
          obtain ⟨a, v, rfl, hv, ha, d0, d1⟩ := kind_get hlsa hcsa k x hx
          obtain ⟨b, u, rfl, hu, hb, e0, e1⟩ := kind_get hlsb hcsb k x hx
          have HV := Lib.hid hv
          have HU := Lib.hid hu
          obtain ⟨nm9, cs9⟩ := x
          obtain ⟨_, A5, c5, rfl, _⟩ := hv
          obtain ⟨_, A6, c6, rfl, _⟩ := hu
          obtain ⟨XE, xf, hXN, hX1, hX0, hX2⟩ := ext_class wr.heap.size wr (Nat.le_refl _)
          have HX1 := Lib.hid hX1
          have HX2 := Lib.hid hX2
          have hin := hX0 wr.drew (Below.drew (Below.refl _ _))
          have D0 := Lib.hid d0
          have D1 := Lib.hid d1
          have E0 := Lib.hid e0
          have E1 := Lib.hid e1
          have b0 := fun e => cell_lift D0.out (HX1.out e)
          have b1 := fun e => cell_lift D1.out (HX1.out e)
          have b2 := fun e => cell_lift E0.out (HX1.out e)
          have b3 := fun e => cell_lift E1.out (HX1.out e)
          clear hX0 hX1 hX2 hlsa hcsa hlsb hcsb hx
          go_wp2
          refine wp_region_quiet (C := fun W => ∃ e, W = xf e) (by kernel_rfl) (by kernel_rfl) hin ?_
          clear hin
          dsimp only
          repeat (go_big_quiet_step ((go_at_call 11; refine (ref_same7 nm9 _ _ cs9 _ _ _ (HU.out.below (HX1.out _)) (HV.out.below (HX1.out _))).mono ?_; rintro e w5 ⟨rfl, hb5⟩; exact ⟨rfl, HX2.out _ _ hb5⟩)))
          refine wpQuiet_nil ?_
          intro w5 hW5
          obtain ⟨ee, hW5⟩ := hW5
          have hb5 : Below wr.heap.size wr w5 := by rw [hW5]; exact HX1.out ee
          have HB5 := Lib.hid (HB.out.trans (hb5.mono HB.out.size))
          clear hW5 hb5 b0 b1 b2 b3
          go_wp2
          go_roundw
          case rel => exact ⟨k + 1, by omega, by go_num, HB5.out⟩
          case measure => simp [intOf]; omega
        · obtain rfl : k = n := by omega
          have HSW := Lib.hid (HS4.out.below HB.out)
          go_wp2_with fail
          refine (s_Find _ g l rel wr HSW.out).mono ?_
          rintro e w5 ⟨hb5, v1, rfl, hv1⟩
          have HB5 := Lib.hid (HBW.out.trans (hb5.mono HBW.out.size))
          have HS5 := Lib.hid (HSW.out.below hb5)
          obtain ⟨W5, hW5⟩ : ∃ W5, W5 = w5.alloc (.cells #[.string (findR l rel).1.nm, v1] 34) := ⟨_, rfl⟩
          have hbW5 : Below w5.heap.size w5 W5 := by rw [hW5]; exact one_new _ _
          have HBW5 := Lib.hid (HB5.out.trans (hbW5.mono HB5.out.size))
          have HV1 := Lib.hid (hv1.below hbW5)
          have x0 : W5.cell? ⟨w5.heap.size, 0, none⟩ = some (.string (findR l rel).1.nm) := by rw [hW5]; exact new_cell _ _ _ 0 _ rfl
          have x1 : W5.cell? ⟨w5.heap.size, 1, none⟩ = some v1 := by rw [hW5]; exact new_cell _ _ _ 1 _ rfl
          have X0 := Lib.hid x0
          have X1 := Lib.hid x1
          have HSW5 := Lib.hid (HS5.out.below hbW5)
          clear hb5 hbW5 x0 x1
          obtain ⟨_, A7, c7, rfl, _⟩ := hv1
          obtain ⟨hn3, hl3, ls3, hls3, hcs3⟩ := kinds_open (HKD.out.below HBW5.out)
          have HRF := Lib.hid ((ref_findS _ A ls3 l k c rel W5 hn3 (by omega) hls3 hcs3).mono fun e w' h => found_any h)
          clear hn3 hl3 hls3 hcs3
          generalize findR l rel = F at *
          obtain ⟨⟨nm, cs⟩, er⟩ := F
          dsimp only at HRF HV1 X0 X1 hW5 ⊢
          go_wp2_with fail
          rw [← hW5]
          refine HRF.out.mono ?_
          rintro e w6 ⟨hb6, v2, rfl, hv2⟩
          have HB6 := Lib.hid (HBW5.out.trans (hb6.mono HBW5.out.size))
          have HV16 := Lib.hid (HV1.out.below hb6)
          have X06 := Lib.hid (cell_lift X0.out hb6)
          have X16 := Lib.hid (cell_lift X1.out hb6)
          have HS6 := Lib.hid (HSW5.out.below hb6)
          have HV2 := Lib.hid hv2
          obtain ⟨_, A8, c8, rfl, _⟩ := hv2
          obtain ⟨W6, hW6⟩ : ∃ W6, W6 = w6.alloc (.cells #[.string nm, .slice A8 cs.length c8] 34) := ⟨_, rfl⟩
          have hbW6 : Below w6.heap.size w6 W6 := by rw [hW6]; exact one_new _ _
          have HBW6 := Lib.hid (HB6.out.trans (hbW6.mono HB6.out.size))
          have y0 : W6.cell? ⟨w6.heap.size, 0, none⟩ = some (.string nm) := by rw [hW6]; exact new_cell _ _ _ 0 _ rfl
          have y1 : W6.cell? ⟨w6.heap.size, 1, none⟩ = some (.slice A8 cs.length c8) := by rw [hW6]; exact new_cell _ _ _ 1 _ rfl
          have Y0 := Lib.hid y0
          have Y1 := Lib.hid y1
          have HSW6 := Lib.hid (HS6.out.below hbW6)
          have HV1W6 := Lib.hid (HV16.out.below hbW6)
          have HV2W6 := Lib.hid (HV2.out.below hbW6)
          have X0W6 := Lib.hid (cell_lift X06.out hbW6)
          have X1W6 := Lib.hid (cell_lift X16.out hbW6)
          clear hb6 hbW6 y0 y1
          go_wp2_with fail
          rw [← hW6]
          refine ((s_columns _ g l rel W6 HSW6.out HFW.out).mono fun e w' h => cols_any h).mono ?_
          rintro e w7 ⟨hb7, v3, rfl, hv3⟩
          have HB7 := Lib.hid (HBW6.out.trans (hb7.mono HBW6.out.size))
          have HV17 := Lib.hid (HV1W6.out.below hb7)
          have HV27 := Lib.hid (HV2W6.out.below hb7)
          have X07 := Lib.hid (cell_lift X0W6.out hb7)
          have X17 := Lib.hid (cell_lift X1W6.out hb7)
          have Y07 := Lib.hid (cell_lift Y0.out hb7)
          have Y17 := Lib.hid (cell_lift Y1.out hb7)
          have HV3 := Lib.hid hv3
          obtain ⟨_, A9, c9, rfl, _⟩ := hv3
          clear hb7
          obtain ⟨hn4, hl4, ls4, hls4, hcs4⟩ := kinds_open (HKD.out.below HB7.out)
          have HRC := Lib.hid ((ref_columnsOf _ A ls4 l k c rel w7 hn4 (by omega) hls4 hcs4 HFW.out).mono fun e w' h => cols_any h)
          clear hn4 hl4 hls4 hcs4
          generalize colsR2 l rel = G at *
          obtain ⟨gs, er2⟩ := G
          dsimp only at HRC HV3 ⊢
          go_wp2_with fail
          refine HRC.out.mono ?_
          rintro e w8 ⟨hb8, v4, rfl, hv4⟩
          have HB8 := Lib.hid (HB7.out.trans (hb8.mono HB7.out.size))
          have x08 := cell_lift X07.out hb8
          have x18 := cell_lift X17.out hb8
          have y08 := cell_lift Y07.out hb8
          have y18 := cell_lift Y17.out hb8
          have HV18 := Lib.hid (HV17.out.below hb8)
          have HV28 := Lib.hid (HV27.out.below hb8)
          have HV38 := Lib.hid (HV3.out.below hb8)
          have HV4 := Lib.hid hv4
          obtain ⟨_, A10, c10, rfl, _⟩ := hv4
          clear hb8
          have r1 : (er == er) = true := by simp
          have r2 : (er2 == er2) = true := by simp
          go_wp2_with fail
          refine (ref_same7 nm _ _ cs _ _ w8 HV18.out HV28.out).mono ?_
          rintro e w9 ⟨rfl, hb9⟩
          have HB9 := Lib.hid (HB8.out.trans (hb9.mono HB8.out.size))
          have HV39 := Lib.hid (HV38.out.below hb9)
          have HV49 := Lib.hid (HV4.out.below hb9)
          clear hb9
          go_wp2_with fail
          refine (ref_same7 ⟨#[]⟩ _ _ gs _ _ w9 HV39.out HV49.out).mono ?_
          rintro e w10 ⟨rfl, hb10⟩
          have HB10 := Lib.hid (HB9.out.trans (hb10.mono HB9.out.size))
          clear hb10
          go_wp2_with fail
          refine (HK.out _ HB10.out).mono ?_
          rintro e w11 ⟨rfl, hb11⟩
          go_wp2
          go_ret
          exact ⟨rfl, HB10.out.trans (hb11.mono HB10.out.size)⟩
    · generalize faultR l = R at *
      have b0 : (R == 0) = false := by simpa using h0
      have b1 : (R != 0) = true := by unfold bne; rw [b0]; rfl
      have b2 : (R == R) = true := by simp
      have b3 : (R != R) = false := by simp
      clear h0
      go_wp2_with fail
      refine HCK.out.mono ?_
      rintro e w3 ⟨rfl, hb3⟩
      have HB3 := Lib.hid (HB2.out.trans (hb3.mono HB2.out.size))
      clear hb3
      go_wp2_with fail
      refine (HK.out _ HB3.out).mono ?_
      rintro e w5 ⟨rfl, hb5⟩
      go_wp2
      go_ret
      exact ⟨rfl, HB3.out.trans (hb5.mono HB3.out.size)⟩
  · rw [hf] at HF
    clear hm hn hl hA hc hx hf
    go_enter Tryd.func3, Tryd.ntmps3
    go_wp2_with fail
    refine HF.out.mono ?_
    rintro e w1 ⟨rfl, rfl⟩
    go_wp2_with fail
    refine (HK.out _ (Below.refl _ _)).mono ?_
    rintro e w5 ⟨rfl, hb5⟩
    go_wp2
    go_ret
    exact ⟨rfl, hb5⟩

set_option maxRecDepth 100000 in
theorem schemaMakes_lifted (os : Os) (started : os.Started) (H : Type) (enc : TypeId × Value → H) :
    ReturnsInHanded {} Tryd.checked os 3 .any (fun w args => (Rows.schemaMakesSpec.pre enc Tryd.prog Tryd.f3 [] false w args ∧ laidMetH Tryd.prog Rows.schemaFitsRow.laid w) ∧ sizedMet enc Tryd.prog Tryd.f3 (OpenSpec.ofChange Rows.schemaMakesSpec) false w args)
      (Rows.schemaMakesSpec.post enc Tryd.prog Tryd.f3 false true false false) := by
  refine ret_and_shaped (C := Tryd.checked) (X := fun w _ => laidMetH Tryd.prog Rows.schemaFitsRow.laid w) Tryd.own started (by kernel_rfl) Tryd.func3
    (ChangeSpec.witness_shaped (enc := enc) (C := Tryd.checked) (os := os) (X := fun w _ => laidMetH Tryd.prog Rows.schemaFitsRow.laid w) false (wPin os) #[.slice none 0 0, .string ⟨#[]⟩] 8 rfl (World.shaped_of_RefB (by kernel_rfl) (by kernel_rfl)) (by kernel_rfl) (by kernel_rfl) (by kernel_rfl) (door_met7 os _)) ?_
  intro W base args ds gs before hval0 hW _ hsh
  have hval : ∀ (j : Nat) t v, Tryd.f3.params[j]? = some t → args[j]? = some v → Value.okWide Tryd.prog W .any base t v := hval0
  have hW' := hW
  obtain ⟨p, q, hA0, hV, rfl, hfz, hnd⟩ := hW
  have hA : DataW.TrodAll enc Tryd.prog W 0 (fun _ => true) true Tryd.f3.params.toList args.toList ds p := hA0
  rw [Tryd.params3] at hA hval
  obtain ⟨v0, v1, d0, d1, p0, p1, rfl, rfl, rfl, h0, h1⟩ := trodAll_two hA
  obtain ⟨rfl, rfl⟩ := trodVars_none hV
  obtain ⟨A, c, es, rfl, hl, hA2, hc, hx⟩ := open_scs h0 (hval 0 22 v0 rfl rfl)
  obtain ⟨s, rfl, _, _, _⟩ := Go.ChangeMaps.open_string Tryd.underlying9 (hval 1 9 v1 rfl rfl) h1
  have hmv := mv_of_shaped hsh
  refine (schemaMakes_all A es s _ c W hmv rfl hl hA2 hc hx).mono fun e W' ⟨he, hb⟩ => ?_
  subst he
  exact ⟨_, rfl, law_post Tryd.laidOut rfl hW' (by rw [Tryd.params3]; intro t ht; exact readable_F t (by simp at ht; rcases ht with rfl | rfl <;> simp)) (by kernel_rfl) Tryd.underlying4 rfl rfl rfl hb⟩

theorem schemaMakes_holds : Rows.SchemaMakesSaid :=
  OpenClaim.holds_of_wide 3 Tryd.f3 rfl rfl rfl rfl rfl rfl rfl ⟨rfl, rfl, rfl, rfl, rfl⟩ rfl rfl rfl rfl rfl (by kernel_rfl) Tryd.func3 (by kernel_rfl)
    (of_decide_eq_true (by kernel_rfl)) (by unfold Func.isWrapper; first | (rw [if_pos (by decide +kernel)]; kernel_rfl) | (rw [if_neg (by decide +kernel)]; exact ⟨rfl, rfl⟩))
    (fun os started H enc _ => schemaMakes_lifted os started H enc)

theorem schemaMakes_card : Rows.SchemaMakesCardSaid :=
  Claim7.holds_tied_plain_at .later [] [.data, .pinned] true Rows.schemaMakesCard.stood.harness Rows.schemaMakesCard.stood.looks
    schemaMakes_holds (fun _ h => by cases h) (by kernel_rfl) (fun _ h => by cases h) schemaMakes_row_tie rfl ⟨rfl, rfl⟩ (by kernel_rfl) rfl
    (fun f fn hf hfn => by
      obtain rfl : f = 3 := Option.some.inj ((show Tryd.prog.funcNamed "verderer/verdererlaw07.SchemaMakes" = some 3 by kernel_rfl).symm.trans hf) |>.symm
      obtain rfl : fn = Tryd.f3 := (Option.some.inj (Tryd.func3.symm.trans hfn)).symm
      exact ⟨by kernel_rfl, fun j t ht => by
        rw [Tryd.params3] at ht
        have hm : t ∈ [22, 9] := by simpa using Array.mem_of_getElem? ht
        have hall : ([22, 9].all fun u => !Tryd.prog.wantsStandIn u) = true := by kernel_rfl
        exact (show Tryd.prog.wantsStandIn t = false by simpa using List.all_eq_true.1 hall t hm)⟩)
    (by kernel_rfl)
end Go.Proofs.YtgifkigamebofaaDoor
