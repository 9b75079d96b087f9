/-
  The document's columns of what a rule tells.
  Condition: a rule is no longer than SmlT says, kinds have no more than 900000 columns.
  What is read of a text is short, and its names too.
  No condition.
-/
import Derived.Deep.Onto
import Derived.Test.YthdjkagodccdbaaMTkm
import Derived.Test.YthdjkagodccdbaaMTkr
namespace Go.Proofs.Ythdjkagodccdbaa
section
open Go.RowKit Go.Maps

theorem of14_low (L : List Co) (x : RuP) (h : ¬ 1 < x.ag) : ofF L x = 0 := by
  unfold ofF
  rw [if_neg h]
theorem of14_none (L : List Co) (x : RuP) (h : 1 < x.ag) (hn : findC L x.ofv = none) : ofF L x = 12 := by
  unfold ofF
  rw [if_pos h, hn]
theorem of14_bad (L : List Co) (x : RuP) (d : Co) (h : 1 < x.ag) (hn : findC L x.ofv = some d) (hb : ¬ (d.k = 2 ∧ d.nl = false)) : ofF L x = 11 := by
  unfold ofF
  rw [if_pos h, hn]
  exact if_neg hb
theorem of14_ok (L : List Co) (x : RuP) (d : Co) (h : 1 < x.ag) (hn : findC L x.ofv = some d) (hb : d.k = 2 ∧ d.nl = false) : ofF L x = 0 := by
  unfold ofF
  rw [if_pos h, hn]
  exact if_pos hb
theorem hd_of (L : List Co) (x : RuP) (h0 : ∀ n ∈ x.head, (findC L n).isSome = true) (h : ofF L x ≠ 0) : headF L x = ofF L x := by
  rw [headF_all L x h0, if_pos h]
theorem hd_sp (L : List Co) (x : RuP) (h0 : ∀ n ∈ x.head, (findC L n).isSome = true) (h : ofF L x = 0) : headF L x = spaceF L x := by
  rw [headF_all L x h0, if_neg (fun hh => hh h)]
theorem sp_nil (L : List Co) (x : RuP) (h : (x.head.map fun n => orC (findC L n)) = []) : spaceF L x = 0 := by
  unfold spaceF
  rw [List.map_eq_nil_iff.1 h]
theorem sp_k (L : List Co) (x : RuP) (h : x.k ≠ 3) : spaceF L x = 0 := by
  unfold spaceF
  split
  · rfl
  · rw [if_neg (fun hh => h hh.1)]
theorem sp_at (L : List Co) (x : RuP) (d : Co) (l : List Co) (h : (x.head.map fun n => orC (findC L n)) = d :: l) (hk : x.k = 3) : spaceF L x = if d.k = 3 ∧ d.nl = false then 0 else 11 := by
  unfold spaceF
  split
  · next e => rw [e] at h; simp at h
  · next n t e =>
    rw [e, List.map_cons] at h
    injection h with h1 h2
    rw [h1]
    by_cases hd : d.k = 3 ∧ d.nl = false
    · rw [if_neg (fun hh => hh.2 hd), if_pos hd]
    · rw [if_pos ⟨hk, hd⟩, if_neg hd]
theorem find_some {L : List Co} {n : ByteArray} {j : Nat} {d : Co} (hj : L[j]? = some d) (hd : d.nm = n) (hp : ∀ x ∈ L.take j, x.nm ≠ n) : findC L n = some d := (bindC_at L ⟨n, 0, false⟩ j d hj hd hp).1
theorem three_ways (l : List Co) : l = [] ∨ ∃ d t, l = d :: t := by cases l <;> simp
/-- What of the head is told, if nothing is wrong with one of its names. -/
structure HdF (P : RuP) (L : List Co) (R : List Co × Int × Int) (HC : List Co) : Prop where
  none : headF L P ≠ 0 → R = ([], -1, headF L P)
  ok : headF L P = 0 → R = (HC ++ aggC P, 0, 0)
theorem HdF.of {P : RuP} {L : List Co} {R : List Co × Int × Int} {HC : List Co} (h : HdF P L R HC) (z : Int) (hz : headF L P = z) : R = if z = 0 then (HC ++ aggC P, 0, 0) else ([], -1, z) := by
  by_cases h0 : z = 0
  · rw [if_pos h0]
    exact h.ok (hz.trans h0)
  · rw [if_neg h0, ← hz]
    exact h.none (by rw [hz]; exact h0)
set_option maxRecDepth 100000 in
set_option maxHeartbeats 16000000 in
theorem e_Head (r : RuG) (Q : Nat → Prop) (S : List Sc) (kA : Option Addr) (ls : List RS) (kc : Nat) (w : World) (hr : r.Ok w) (hsm : SmlT r) (hf : ∀ x ∈ S, x.cols.length ≤ 900000) (hl : ScR w Q ls S) (hcv : CellsQ w Q kA (flatS ls)) (hsl : S.length ≤ 1000000) :
    Calls Try.prog 11 #[.agg r.cells, .slice kA S.length kc, .slice none 0 0] w (TypIs w (headT S [] r.pl)) := by
  obtain ⟨P, hP⟩ : ∃ P, r.pl = P := ⟨_, rfl⟩
  have hPh : P.head = r.head ∧ P.ag = r.ag ∧ P.ofv = r.ofv ∧ P.k = r.k := by rw [← hP]; exact ⟨rfl, rfl, rfl, rfl⟩
  have HV0 := Lib.hid (headT_no S [] P)
  have HV1 := Lib.hid (headT_bad S [] P)
  have HV2 := Lib.hid (headT_ok S [] P)
  have HZ0 := varsZ_ok S [] P
  have HZ1 := varsZ_no S [] P
  rw [hP]
  obtain ⟨k0, nm, hA, hc, head, ag, ofv, lim, bA, bc, body⟩ := r
  simp only at hPh
  obtain ⟨W0, hW0⟩ : ∃ W0, W0 = w.alloc (.cells #[.int .i64 k0, .string nm, .slice hA head.length hc, .int .i64 ag, .string ofv, .int .i64 lim, .slice bA body.length bc] 27) := ⟨_, rfl⟩
  have hon : Below w.heap.size w W0 := by rw [hW0]; exact one_new _ _
  have hbx : W0.heap[w.heap.size]? = some (.cells #[.int .i64 k0, .string nm, .slice hA head.length hc, .int .i64 ag, .string ofv, .int .i64 lim, .slice bA body.length bc] 27 (0, 0)) := by rw [hW0]; exact heap_alloc_new _ _
  have hz0 : W0.heap.size = w.heap.size + 1 := by rw [hW0]; exact World.size_alloc _ _
  have hvr := e_Vars ⟨k0, nm, hA, hc, head, ag, ofv, lim, bA, bc, body⟩ Q S kA ls kc W0 (hr.below hon) hsm hf (hl.keep (Below.keepQ hon Q)) (hcv.below hon) hsl
  rw [hP] at hvr
  generalize varsZ S [] P = V at *
  generalize headT S [] P = R at *
  generalize knowT S [] P.body = K at *
  obtain ⟨L, at0, why⟩ := K
  simp only at HV0 HV1 HV2 HZ0 HZ1
  have HX := Lib.hid (show ElsAt strC 1 w hA head from hr.1)
  have HHL := Lib.hid (show head.length ≤ 1000 from hsm.1)
  obtain ⟨bl, hbn⟩ : ∃ bl, body.length = bl := ⟨_, rfl⟩
  obtain ⟨hn, hhn⟩ : ∃ hn, head.length = hn := ⟨_, rfl⟩
  have HNN := Lib.hid hhn
  have HPH := Lib.hid hPh
  show Calls Try.prog 11 #[.agg #[.int .i64 k0, .string nm, .slice hA head.length hc, .int .i64 ag, .string ofv, .int .i64 lim, .slice bA body.length bc], .slice kA S.length kc, .slice none 0 0] w (TypIs w R)
  have HVR : Hid (Calls Try.prog 34 #[.agg #[.int .i64 k0, .string nm, .slice hA head.length hc, .int .i64 ag, .string ofv, .int .i64 lim, .slice bA body.length bc], .slice kA S.length kc, .slice none 0 0] W0 (EVarIs W0 V)) := Lib.hid hvr
  rw [hbn, hhn] at HVR hbx hW0 ⊢
  rw [hhn] at HHL
  have HBX := Lib.hid hbx
  have HON := Lib.hid hon
  obtain ⟨n0, n1, n2, n3, n4, n5, n6⟩ := box7g_of hbx
  clear hr hsm hf hl hcv hsl hvr hbn hhn hbx hon hPh hP
  by_cases hw : why = 0
  · have HFF := Lib.hid (show HdF P L R (head.map fun n => orC (findC L n)) from ⟨HV1.out hw, fun h => by rw [← HPH.out.1]; exact HV2.out hw h⟩)
    have HVS : Hid (Calls Try.prog 34 #[.agg #[.int .i64 k0, .string nm, .slice hA hn hc, .int .i64 ag, .string ofv, .int .i64 lim, .slice bA bl bc], .slice kA S.length kc, .slice none 0 0] W0 fun e w' => ∃ v m, e = .returned (.tuple #[v, .int .i64 0, .int .i64 0]) ∧ m ≤ 900000 ∧ OwnC w' (W0.heap.size + 1) v L ∧ GoodC L m ∧ Below W0.heap.size W0 w') := Lib.hid (by have h := HVR.out; rw [HZ0 hw] at h; exact h)
    clear hw HZ0 HZ1 HVR HV0 HV1 HV2
    subst hW0
    go_enter Try.func11, Try.ntmps11
    go_wp2_with fail
    refine HVS.out.mono ?_
    rintro e w1 ⟨v, m, rfl, hm, hown, hgood, hb1⟩
    have hbw1 := HON.out.trans (hb1.mono HON.out.size)
    have HR : Hid (∀ W, Below w1.heap.size w1 W → W.cell? ⟨w.heap.size, 0, none⟩ = some (.int .i64 k0) ∧ W.cell? ⟨w.heap.size, 1, none⟩ = some (.string nm) ∧ W.cell? ⟨w.heap.size, 2, none⟩ = some (.slice hA hn hc) ∧ W.cell? ⟨w.heap.size, 3, none⟩ = some (.int .i64 ag) ∧ W.cell? ⟨w.heap.size, 4, none⟩ = some (.string ofv) ∧ W.cell? ⟨w.heap.size, 5, none⟩ = some (.int .i64 lim) ∧ W.cell? ⟨w.heap.size, 6, none⟩ = some (.slice bA bl bc)) := Lib.hid fun W hW => box7g_of (((hb1.trans (hW.mono hb1.size)).block w.heap.size (by rw [hz0]; omega)).trans HBX.out)
    obtain ⟨A1, c1, hv1, -, -, hcells⟩ := hown.slice (fun _ => True) (fun _ _ => trivial)
    subst hv1
    have hE : EnvAt (w.alloc (.cells #[.int .i64 k0, .string nm, .slice hA hn hc, .int .i64 ag, .string ofv, .int .i64 lim, .slice bA bl bc] 27)).heap.size (w1.alloc (.cells #[.slice none 0 0, .slice none 0 0, .slice A1 L.length c1] 80)) w1.heap.size none 0 [] [] (.slice A1 L.length c1) L m := ⟨heap_alloc_new _ _, trivial, (fun j u hj => by simp [flatS] at hj), World.ownsRow.mono (hown.alloc _) (Nat.le_succ _), hgood, (fun e => by have := (World.ownsRow.lt hown _ e).2; omega), hb1.size⟩
    have HE := Lib.hid hE
    have HM := Lib.hid hm
    have HCL := Lib.hid hcells
    have HW1 := Lib.hid hbw1
    have hB2 : (w1.alloc (.cells #[.slice none 0 0, .slice none 0 0, .slice A1 L.length c1] 80)).heap.size = w1.heap.size + 1 := World.size_alloc _ _
    obtain ⟨W2, hW2⟩ : ∃ W2, W2 = w1.alloc (.cells #[.slice none 0 0, .slice none 0 0, .slice A1 L.length c1] 80) := ⟨_, rfl⟩
    have HW12 : Hid (Below w1.heap.size w1 W2) := Lib.hid (by rw [hW2]; exact one_new _ _)
    rw [← hW2] at HE hB2
    obtain ⟨B2, hB⟩ : ∃ B2, W2.heap.size = B2 := ⟨_, rfl⟩
    have HB2 := Lib.hid hB
    have hB3 : B2 = w1.heap.size + 1 := by rw [← hB]; exact hB2
    have HB3 := Lib.hid hB3
    have hll := hgood.len
    have HBS : Hid (w.heap.size ≤ B2) := Lib.hid (by have := hbw1.size; omega)
    clear n0 n1 n2 n3 n4 n5 n6 hm hown hgood hb1 hcells hE hbw1 hB2 hB hB3 hz0 HBX HON
    obtain ⟨n0, n1, n2, n3, n4, n5, n6⟩ := HR.out w1 (Below.refl _ _)
    go_wp2
    rw [← hW2]
    clear hW2 n0 n1 n2 n3 n4 n5 n6
    go_loopw [13, 14] (fun vo i wr => ∃ k : Nat, i = .int .i64 k ∧ k ≤ hn ∧ Hid (∀ n ∈ head.take k, (findC L n).isSome = true) ∧ OwnC wr B2 vo ((head.take k).map fun n => orC (findC L n)) ∧ Below B2 W2 wr) (fun _ i _ => hn - (intOf i).toNat)
    case atStart => exact ⟨0, rfl, Nat.zero_le _, Lib.hid (fun n hn => by simp at hn), OwnC.nil _ _, Below.refl _ _⟩
    case round =>
      obtain ⟨k, rfl, hk, HAL, hown, hb⟩ := hrel
      have HOWN := Lib.hid hown
      have HBB := Lib.hid hb
      have hszr : B2 ≤ wr.heap.size := by have := hb.size; rw [HB2.out] at this; exact this
      have HBW1 : Hid (Below w1.heap.size w1 wr) := Lib.hid (HW12.out.trans (hb.mono (by have := HB3.out; omega)))
      have HBR : Hid (Below w.heap.size w wr) := Lib.hid (HW1.out.trans (HBW1.out.mono HW1.out.size))
      have HEW := Lib.hid (HE.out.below (hb.mono (by rw [HB2.out]; exact Nat.le_refl _)))
      have HCW := Lib.hid (HCL.out.below HBW1.out)
      have hHL := HHL.out
      have hml := HM.out
      obtain ⟨n0, n1, n2, n3, n4, n5, n6⟩ := HR.out wr HBW1.out
      by_cases h1 : k < hn
      · obtain ⟨t, ht⟩ : ∃ t, head[k]? = some t := ⟨_, List.getElem?_eq_getElem (by rw [HNN.out]; exact h1)⟩
        obtain ⟨a, rfl, a0⟩ := els_S (HX.out.below HBR.out) ht
        have HFD := Lib.hid (e_find HEW.out hml t)
        have htm := List.mem_of_getElem? ht
        have htk : (head.take (k + 1)).map (fun n => orC (findC L n)) = (head.take k).map (fun n => orC (findC L n)) ++ [orC (findC L t)] := by
          rw [List.take_add_one, ht]
          simp
        have hal2 : (findC L t).isSome = true → ∀ n ∈ head.take (k + 1), (findC L n).isSome = true := fun h n hn => by
          rw [List.take_add_one, ht] at hn
          rcases List.mem_append.1 hn with hn | hn
          · exact HAL.out n hn
          · simp at hn; rw [hn]; exact h
        have HTK := Lib.hid htk
        have HAL2 := Lib.hid hal2
        have HTM := Lib.hid htm
        have hroom : ((head.take k).map fun n => orC (findC L n)).length + 1 ≤ 3000000 := by rw [List.length_map]; have := List.length_take_le k head; omega
        clear ht htk hal2 htm hown hb
        go_wp2_with fail
        refine HFD.out.mono ?_
        rintro e w5 ⟨z, rfl, hfi, rfl⟩
        rcases hfi with ⟨rfl, hno⟩ | ⟨j, d, rfl, hj, hdn, hpre⟩
        · have HRS := Lib.hid (HFF.out.of 12 (headF_no L P t (by rw [HPH.out.1]; exact HTM.out) hno))
          clear hno
          go_wp2
          go_ret3
          exact ⟨_, by rw [HRS.out]; rfl, by rw [HRS.out]; exact IsCols.nil _ _, HBR.out⟩
        · have hfd := find_some hj hdn hpre
          rw [hfd] at HTK HAL2
          have hjl : j < L.length := (List.getElem?_eq_some_iff.1 hj).1
          have hji : (j : Int) < (L.length : Int) := by omega
          have hj0 : ¬ ((j : Int) < 0) := by omega
          obtain ⟨ac, rfl, -, d0, d1, d2⟩ := HCW.out.col j d hj
          obtain ⟨dn, dk, dl⟩ := d
          simp only at d0 d1 d2
          clear hj hdn hpre hfd
          go_wp2_with (at_builtin; go_must (refine wp_append_C _ rfl (.tmp 48) (.tmp 53) rfl B2 _ ((head.take k).map fun n => orC (findC L n)) [⟨dn, dk, dl⟩] rfl (HOWN.out.alloc _) (some ⟨wr.heap.size, 0, none⟩) 1 1 rfl rfl (fun _ => True) (c_lit1 _ ⟨dn, dk, dl⟩) (flatC_one _) (by exact hroom) (by simp; omega) ?_; intro v1 w3 hown3 hb3 _ _))
          have HO3 := Lib.hid hown3
          have HB3n := Lib.hid (HBB.out.trans ((one_new_far wr _ hszr).trans hb3))
          clear hown3 hb3
          go_roundw
          case rel => exact ⟨k + 1, by go_num, by omega, Lib.hid (HAL2.out rfl), by rw [HTK.out]; exact HO3.out, HB3n.out⟩
          case measure => simp [intOf]; omega
      · have hkn : k = hn := by omega
        subst hkn
        have hal : ∀ n ∈ P.head, (findC L n).isSome = true := by
          rw [HPH.out.1]
          have h := HAL.out
          rw [List.take_of_length_le (by rw [HNN.out]; exact Nat.le_refl _)] at h
          exact h
        have HAP := Lib.hid hal
        have how := hown
        rw [List.take_of_length_le (by rw [HNN.out]; exact Nat.le_refl _)] at how
        have HPC : Hid ((P.head.map fun n => orC (findC L n)) = head.map fun n => orC (findC L n)) := Lib.hid (by rw [HPH.out.1])
        have hlc : (head.map fun n => orC (findC L n)).length ≤ 1000 := by rw [List.length_map, HNN.out]; exact hHL
        obtain ⟨HC, hHC⟩ : ∃ HC, (head.map fun n => orC (findC L n)) = HC := ⟨_, rfl⟩
        rw [hHC] at how HFF HPC hlc
        obtain ⟨Ao, co, hvo, -, -, hoc⟩ := how.slice (fun _ => True) (fun _ _ => trivial)
        subst hvo
        have HOW := Lib.hid how
        have HOC := Lib.hid hoc
        obtain ⟨hcl, hhcl⟩ : ∃ n, HC.length = n := ⟨_, rfl⟩
        have HHCL := Lib.hid hhcl
        rw [hhcl] at HOW
        rw [hhcl]
        have HFO := Lib.hid (e_find HEW.out hml ofv)
        clear hal hown how hoc hHC hb hk h1 hhcl
        by_cases hag : 2 ≤ ag
        · have b1 : (ag == 1) = false := by simp; omega
          have HAG : Hid (1 < ag) := Lib.hid (by omega)
          go_wp2_with fail
          refine HFO.out.mono ?_
          rintro e w5 ⟨z, rfl, hfi, rfl⟩
          rcases hfi with ⟨rfl, hno⟩ | ⟨j, d, rfl, hj, hdn, hpre⟩
          · have ho := of14_none L P (by rw [HPH.out.2.1]; exact HAG.out) (by rw [HPH.out.2.2.1]; exact hno)
            have HRS := Lib.hid (HFF.out.of 12 ((hd_of L P HAP.out (by rw [ho]; decide)).trans ho))
            clear hno ho
            go_wp2
            go_ret3
            exact ⟨_, by rw [HRS.out]; rfl, by rw [HRS.out]; exact IsCols.nil _ _, HBR.out⟩
          · have hfd := find_some hj hdn hpre
            have hjl : j < L.length := (List.getElem?_eq_some_iff.1 hj).1
            have hji : (j : Int) < (L.length : Int) := by omega
            have hj0 : ¬ ((j : Int) < 0) := by omega
            obtain ⟨ac, rfl, -, d0, d1, d2⟩ := HCW.out.col j d hj
            have hbad := of14_bad L P d (by rw [HPH.out.2.1]; exact HAG.out) (by rw [HPH.out.2.2.1]; exact hfd)
            have hgood := of14_ok L P d (by rw [HPH.out.2.1]; exact HAG.out) (by rw [HPH.out.2.2.1]; exact hfd)
            obtain ⟨dn, dk, dl⟩ := d
            simp only at d0 d1 d2 hbad hgood
            clear hj hdn hpre hfd
            by_cases hdk : dk = 2
            · have bdk : (dk != 2) = false := by simpa using hdk
              cases dl with
              | true =>
                have ho := hbad (by simp)
                have HRS := Lib.hid (HFF.out.of 11 ((hd_of L P HAP.out (by rw [ho]; decide)).trans ho))
                clear ho hbad hgood hdk
                go_wp2
                go_ret3
                exact ⟨_, by rw [HRS.out]; rfl, by rw [HRS.out]; exact IsCols.nil _ _, HBR.out⟩
              | false =>
                have HSP := Lib.hid (hd_sp L P HAP.out (hgood ⟨hdk, rfl⟩))
                clear hbad hgood hdk
                by_cases hk3 : k0 = 3
                · have bk : (k0 == 3) = true := by simpa using hk3
                  rcases three_ways HC with hHC | ⟨d, l, hHC⟩
                  · have h0 : hcl = 0 := by rw [← HHCL.out, hHC]; rfl
                    have HR0 := Lib.hid (HSP.out.trans (sp_nil L P (by rw [HPC.out, hHC])))
                    have hnp : ¬ 0 < hcl := by omega
                    clear h0 hHC hk3
                    have HRS := Lib.hid ((HFF.out.of 0 HR0.out).trans (by rw [if_pos rfl, aggC_of P (by rw [HPH.out.2.1]; exact HAG.out), HPH.out.2.2.1]))
                    go_wp2_with (at_builtin; go_must (refine wp_append_C _ rfl (.tmp 108) (.tmp 112) rfl B2 _ HC [⟨ofv, 2, false⟩] rfl (HOW.out.alloc _) (some ⟨wr.heap.size, 0, none⟩) 1 1 rfl rfl (fun _ => True) (c_lit1 _ ⟨ofv, 2, false⟩) (flatC_one _) (by simp; omega) (by simp; omega) ?_; intro v1 w6 hown5 hb5 _ _; have hb6 := (one_new_far wr (.cells #[.string ofv, .int .i64 2, .bool false] 49) hszr).trans hb5; have HO5 := Lib.hid hown5; have HB5 := Lib.hid (HBR.out.trans (hb6.mono HBS.out)); obtain ⟨m0, m1, m2, m3, m4, m5, m6⟩ := HR.out w6 (HBW1.out.trans (hb6.mono (by have := HB3.out; omega))); clear hown5 hb5 hb6 n0 n1 n2 n3 n4 n5 n6))
                    go_ret3
                    exact ⟨_, by rw [HRS.out]; rfl, by rw [HRS.out]; exact own_cols HO5.out (by simp; omega) HBS.out, HB5.out⟩
                  · have hpos : 0 < hcl := by rw [← HHCL.out, hHC]; simp
                    have hsp := HSP.out.trans (sp_at L P d l (by rw [HPC.out, hHC]) (by rw [HPH.out.2.2.2]; exact hk3))
                    obtain ⟨ap, rfl, -, f0, f1, f2⟩ := HOC.out.col 0 d (by rw [hHC]; rfl)
                    have hap : ap.add (0 * 3) = ap := by simp [Addr.add]
                    rw [hap] at f0 f1 f2
                    obtain ⟨en, ek, el⟩ := d
                    simp only at f0 f1 f2 hsp
                    by_cases hek : ek = 3
                    · have bek : (ek != 3) = false := by simpa using hek
                      cases el with
                      | true =>
                        rw [if_neg (by simp)] at hsp
                        have HRS := Lib.hid (HFF.out.of 11 (hsp))
                        clear hsp hek hk3 hHC hap
                        go_wp2
                        go_ret3
                        exact ⟨_, by rw [HRS.out]; rfl, by rw [HRS.out]; exact IsCols.nil _ _, HBR.out⟩
                      | false =>
                        rw [if_pos ⟨hek, rfl⟩] at hsp
                        have HR0 := Lib.hid hsp
                        clear hsp hek hk3 hHC hap
                        have HRS := Lib.hid ((HFF.out.of 0 HR0.out).trans (by rw [if_pos rfl, aggC_of P (by rw [HPH.out.2.1]; exact HAG.out), HPH.out.2.2.1]))
                        go_wp2_with (at_builtin; go_must (refine wp_append_C _ rfl (.tmp 108) (.tmp 112) rfl B2 _ HC [⟨ofv, 2, false⟩] rfl (HOW.out.alloc _) (some ⟨wr.heap.size, 0, none⟩) 1 1 rfl rfl (fun _ => True) (c_lit1 _ ⟨ofv, 2, false⟩) (flatC_one _) (by simp; omega) (by simp; omega) ?_; intro v1 w6 hown5 hb5 _ _; have hb6 := (one_new_far wr (.cells #[.string ofv, .int .i64 2, .bool false] 49) hszr).trans hb5; have HO5 := Lib.hid hown5; have HB5 := Lib.hid (HBR.out.trans (hb6.mono HBS.out)); obtain ⟨m0, m1, m2, m3, m4, m5, m6⟩ := HR.out w6 (HBW1.out.trans (hb6.mono (by have := HB3.out; omega))); clear hown5 hb5 hb6 n0 n1 n2 n3 n4 n5 n6))
                        go_ret3
                        exact ⟨_, by rw [HRS.out]; rfl, by rw [HRS.out]; exact own_cols HO5.out (by simp; omega) HBS.out, HB5.out⟩
                    · have bek : (ek != 3) = true := by simpa using hek
                      rw [if_neg (fun h => hek h.1)] at hsp
                      have HRS := Lib.hid (HFF.out.of 11 (hsp))
                      clear hsp hek hk3 hHC hap
                      go_wp2
                      go_ret3
                      exact ⟨_, by rw [HRS.out]; rfl, by rw [HRS.out]; exact IsCols.nil _ _, HBR.out⟩
                · have bk : (k0 == 3) = false := by simpa using hk3
                  have HR0 := Lib.hid (HSP.out.trans (sp_k L P (by rw [HPH.out.2.2.2]; exact hk3)))
                  clear hk3
                  have HRS := Lib.hid ((HFF.out.of 0 HR0.out).trans (by rw [if_pos rfl, aggC_of P (by rw [HPH.out.2.1]; exact HAG.out), HPH.out.2.2.1]))
                  go_wp2_with (at_builtin; go_must (refine wp_append_C _ rfl (.tmp 108) (.tmp 112) rfl B2 _ HC [⟨ofv, 2, false⟩] rfl (HOW.out.alloc _) (some ⟨wr.heap.size, 0, none⟩) 1 1 rfl rfl (fun _ => True) (c_lit1 _ ⟨ofv, 2, false⟩) (flatC_one _) (by simp; omega) (by simp; omega) ?_; intro v1 w6 hown5 hb5 _ _; have hb6 := (one_new_far wr (.cells #[.string ofv, .int .i64 2, .bool false] 49) hszr).trans hb5; have HO5 := Lib.hid hown5; have HB5 := Lib.hid (HBR.out.trans (hb6.mono HBS.out)); obtain ⟨m0, m1, m2, m3, m4, m5, m6⟩ := HR.out w6 (HBW1.out.trans (hb6.mono (by have := HB3.out; omega))); clear hown5 hb5 hb6 n0 n1 n2 n3 n4 n5 n6))
                  go_ret3
                  exact ⟨_, by rw [HRS.out]; rfl, by rw [HRS.out]; exact own_cols HO5.out (by simp; omega) HBS.out, HB5.out⟩
            · have bdk : (dk != 2) = true := by simpa using hdk
              have ho := hbad (fun h => hdk h.1)
              have HRS := Lib.hid (HFF.out.of 11 ((hd_of L P HAP.out (by rw [ho]; decide)).trans ho))
              clear ho hbad hgood hdk
              go_wp2
              go_ret3
              exact ⟨_, by rw [HRS.out]; rfl, by rw [HRS.out]; exact IsCols.nil _ _, HBR.out⟩
        · have HSP := Lib.hid (hd_sp L P HAP.out (of14_low L P (by rw [HPH.out.2.1]; omega)))
          by_cases hg1 : ag = 1
          · have b1 : (ag == 1) = true := by simpa using hg1
            have HAG : Hid (¬ 1 < ag ∧ ag = 1) := Lib.hid ⟨by omega, hg1⟩
            clear hg1
            by_cases hk3 : k0 = 3
            · have bk : (k0 == 3) = true := by simpa using hk3
              rcases three_ways HC with hHC | ⟨d, l, hHC⟩
              · have h0 : hcl = 0 := by rw [← HHCL.out, hHC]; rfl
                have HR0 := Lib.hid (HSP.out.trans (sp_nil L P (by rw [HPC.out, hHC])))
                have hnp : ¬ 0 < hcl := by omega
                clear h0 hHC hk3
                have HRS := Lib.hid ((HFF.out.of 0 HR0.out).trans (by rw [if_pos rfl, aggC_count P (by rw [HPH.out.2.1]; exact HAG.out.1) (by rw [HPH.out.2.1]; exact HAG.out.2)]))
                go_wp2_with (at_builtin; go_must (refine wp_append_C _ rfl (.tmp 101) (.tmp 103) rfl B2 _ HC [⟨countB, 2, false⟩] rfl (HOW.out.alloc _) (some ⟨wr.heap.size, 0, none⟩) 1 1 rfl rfl (fun _ => True) (c_lit1 _ ⟨countB, 2, false⟩) (flatC_one _) (by simp; omega) (by simp; omega) ?_; intro v1 w6 hown5 hb5 _ _; have hb6 := (one_new_far wr (.cells #[.string ⟨#[99, 111, 117, 110, 116]⟩, .int .i64 2, .bool false] 49) hszr).trans hb5; have HO5 := Lib.hid hown5; have HB5 := Lib.hid (HBR.out.trans (hb6.mono HBS.out)); obtain ⟨m0, m1, m2, m3, m4, m5, m6⟩ := HR.out w6 (HBW1.out.trans (hb6.mono (by have := HB3.out; omega))); clear hown5 hb5 hb6 n0 n1 n2 n3 n4 n5 n6))
                go_ret3
                exact ⟨_, by rw [HRS.out]; rfl, by rw [HRS.out]; exact own_cols HO5.out (by simp; omega) HBS.out, HB5.out⟩
              · have hpos : 0 < hcl := by rw [← HHCL.out, hHC]; simp
                have hsp := HSP.out.trans (sp_at L P d l (by rw [HPC.out, hHC]) (by rw [HPH.out.2.2.2]; exact hk3))
                obtain ⟨ap, rfl, -, f0, f1, f2⟩ := HOC.out.col 0 d (by rw [hHC]; rfl)
                have hap : ap.add (0 * 3) = ap := by simp [Addr.add]
                rw [hap] at f0 f1 f2
                obtain ⟨en, ek, el⟩ := d
                simp only at f0 f1 f2 hsp
                by_cases hek : ek = 3
                · have bek : (ek != 3) = false := by simpa using hek
                  cases el with
                  | true =>
                    rw [if_neg (by simp)] at hsp
                    have HRS := Lib.hid (HFF.out.of 11 (hsp))
                    clear hsp hek hk3 hHC hap
                    go_wp2
                    go_ret3
                    exact ⟨_, by rw [HRS.out]; rfl, by rw [HRS.out]; exact IsCols.nil _ _, HBR.out⟩
                  | false =>
                    rw [if_pos ⟨hek, rfl⟩] at hsp
                    have HR0 := Lib.hid hsp
                    clear hsp hek hk3 hHC hap
                    have HRS := Lib.hid ((HFF.out.of 0 HR0.out).trans (by rw [if_pos rfl, aggC_count P (by rw [HPH.out.2.1]; exact HAG.out.1) (by rw [HPH.out.2.1]; exact HAG.out.2)]))
                    go_wp2_with (at_builtin; go_must (refine wp_append_C _ rfl (.tmp 101) (.tmp 103) rfl B2 _ HC [⟨countB, 2, false⟩] rfl (HOW.out.alloc _) (some ⟨wr.heap.size, 0, none⟩) 1 1 rfl rfl (fun _ => True) (c_lit1 _ ⟨countB, 2, false⟩) (flatC_one _) (by simp; omega) (by simp; omega) ?_; intro v1 w6 hown5 hb5 _ _; have hb6 := (one_new_far wr (.cells #[.string ⟨#[99, 111, 117, 110, 116]⟩, .int .i64 2, .bool false] 49) hszr).trans hb5; have HO5 := Lib.hid hown5; have HB5 := Lib.hid (HBR.out.trans (hb6.mono HBS.out)); obtain ⟨m0, m1, m2, m3, m4, m5, m6⟩ := HR.out w6 (HBW1.out.trans (hb6.mono (by have := HB3.out; omega))); clear hown5 hb5 hb6 n0 n1 n2 n3 n4 n5 n6))
                    go_ret3
                    exact ⟨_, by rw [HRS.out]; rfl, by rw [HRS.out]; exact own_cols HO5.out (by simp; omega) HBS.out, HB5.out⟩
                · have bek : (ek != 3) = true := by simpa using hek
                  rw [if_neg (fun h => hek h.1)] at hsp
                  have HRS := Lib.hid (HFF.out.of 11 (hsp))
                  clear hsp hek hk3 hHC hap
                  go_wp2
                  go_ret3
                  exact ⟨_, by rw [HRS.out]; rfl, by rw [HRS.out]; exact IsCols.nil _ _, HBR.out⟩
            · have bk : (k0 == 3) = false := by simpa using hk3
              have HR0 := Lib.hid (HSP.out.trans (sp_k L P (by rw [HPH.out.2.2.2]; exact hk3)))
              clear hk3
              have HRS := Lib.hid ((HFF.out.of 0 HR0.out).trans (by rw [if_pos rfl, aggC_count P (by rw [HPH.out.2.1]; exact HAG.out.1) (by rw [HPH.out.2.1]; exact HAG.out.2)]))
              go_wp2_with (at_builtin; go_must (refine wp_append_C _ rfl (.tmp 101) (.tmp 103) rfl B2 _ HC [⟨countB, 2, false⟩] rfl (HOW.out.alloc _) (some ⟨wr.heap.size, 0, none⟩) 1 1 rfl rfl (fun _ => True) (c_lit1 _ ⟨countB, 2, false⟩) (flatC_one _) (by simp; omega) (by simp; omega) ?_; intro v1 w6 hown5 hb5 _ _; have hb6 := (one_new_far wr (.cells #[.string ⟨#[99, 111, 117, 110, 116]⟩, .int .i64 2, .bool false] 49) hszr).trans hb5; have HO5 := Lib.hid hown5; have HB5 := Lib.hid (HBR.out.trans (hb6.mono HBS.out)); obtain ⟨m0, m1, m2, m3, m4, m5, m6⟩ := HR.out w6 (HBW1.out.trans (hb6.mono (by have := HB3.out; omega))); clear hown5 hb5 hb6 n0 n1 n2 n3 n4 n5 n6))
              go_ret3
              exact ⟨_, by rw [HRS.out]; rfl, by rw [HRS.out]; exact own_cols HO5.out (by simp; omega) HBS.out, HB5.out⟩
          · have b1 : (ag == 1) = false := by simpa using hg1
            have HAG : Hid (¬ 1 < ag ∧ ¬ ag = 1) := Lib.hid ⟨by omega, hg1⟩
            clear hg1
            by_cases hk3 : k0 = 3
            · have bk : (k0 == 3) = true := by simpa using hk3
              rcases three_ways HC with hHC | ⟨d, l, hHC⟩
              · have h0 : hcl = 0 := by rw [← HHCL.out, hHC]; rfl
                have HR0 := Lib.hid (HSP.out.trans (sp_nil L P (by rw [HPC.out, hHC])))
                have hnp : ¬ 0 < hcl := by omega
                clear h0 hHC hk3
                have HRS := Lib.hid ((HFF.out.of 0 HR0.out).trans (by rw [if_pos rfl, aggC_none P (by rw [HPH.out.2.1]; exact HAG.out.1) (by rw [HPH.out.2.1]; exact HAG.out.2), List.append_nil]))
                go_wp2
                go_ret3
                exact ⟨_, by rw [HRS.out]; rfl, by rw [HRS.out]; exact own_cols HOW.out (by show HC.length ≤ 1000000; omega) HBS.out, HBR.out⟩
              · have hpos : 0 < hcl := by rw [← HHCL.out, hHC]; simp
                have hsp := HSP.out.trans (sp_at L P d l (by rw [HPC.out, hHC]) (by rw [HPH.out.2.2.2]; exact hk3))
                obtain ⟨ap, rfl, -, f0, f1, f2⟩ := HOC.out.col 0 d (by rw [hHC]; rfl)
                have hap : ap.add (0 * 3) = ap := by simp [Addr.add]
                rw [hap] at f0 f1 f2
                obtain ⟨en, ek, el⟩ := d
                simp only at f0 f1 f2 hsp
                by_cases hek : ek = 3
                · have bek : (ek != 3) = false := by simpa using hek
                  cases el with
                  | true =>
                    rw [if_neg (by simp)] at hsp
                    have HRS := Lib.hid (HFF.out.of 11 (hsp))
                    clear hsp hek hk3 hHC hap
                    go_wp2
                    go_ret3
                    exact ⟨_, by rw [HRS.out]; rfl, by rw [HRS.out]; exact IsCols.nil _ _, HBR.out⟩
                  | false =>
                    rw [if_pos ⟨hek, rfl⟩] at hsp
                    have HR0 := Lib.hid hsp
                    clear hsp hek hk3 hHC hap
                    have HRS := Lib.hid ((HFF.out.of 0 HR0.out).trans (by rw [if_pos rfl, aggC_none P (by rw [HPH.out.2.1]; exact HAG.out.1) (by rw [HPH.out.2.1]; exact HAG.out.2), List.append_nil]))
                    go_wp2
                    go_ret3
                    exact ⟨_, by rw [HRS.out]; rfl, by rw [HRS.out]; exact own_cols HOW.out (by show HC.length ≤ 1000000; omega) HBS.out, HBR.out⟩
                · have bek : (ek != 3) = true := by simpa using hek
                  rw [if_neg (fun h => hek h.1)] at hsp
                  have HRS := Lib.hid (HFF.out.of 11 (hsp))
                  clear hsp hek hk3 hHC hap
                  go_wp2
                  go_ret3
                  exact ⟨_, by rw [HRS.out]; rfl, by rw [HRS.out]; exact IsCols.nil _ _, HBR.out⟩
            · have bk : (k0 == 3) = false := by simpa using hk3
              have HR0 := Lib.hid (HSP.out.trans (sp_k L P (by rw [HPH.out.2.2.2]; exact hk3)))
              clear hk3
              have HRS := Lib.hid ((HFF.out.of 0 HR0.out).trans (by rw [if_pos rfl, aggC_none P (by rw [HPH.out.2.1]; exact HAG.out.1) (by rw [HPH.out.2.1]; exact HAG.out.2), List.append_nil]))
              go_wp2
              go_ret3
              exact ⟨_, by rw [HRS.out]; rfl, by rw [HRS.out]; exact own_cols HOW.out (by show HC.length ≤ 1000000; omega) HBS.out, HBR.out⟩
  · have HRS := Lib.hid (HV0.out hw)
    have HVS : Hid (Calls Try.prog 34 #[.agg #[.int .i64 k0, .string nm, .slice hA hn hc, .int .i64 ag, .string ofv, .int .i64 lim, .slice bA bl bc], .slice kA S.length kc, .slice none 0 0] W0 fun e w' => ∃ v m, e = .returned (.tuple #[v, .int .i64 (at0 : Int), .int .i64 why]) ∧ m ≤ 900000 ∧ OwnC w' (W0.heap.size + 1) v [] ∧ GoodC [] m ∧ Below W0.heap.size W0 w') := Lib.hid (by have h := HVR.out; rw [HZ1 hw] at h; exact h)
    have bw : (why != 0) = true := by simpa using hw
    clear hw HZ0 HZ1 HVR HV0 HV1 HV2
    subst hW0
    go_enter Try.func11, Try.ntmps11
    go_wp2_with fail
    refine HVS.out.mono ?_
    rintro e w1 ⟨v, m, rfl, hm, hown, hgood, hb1⟩
    have HB1 := Lib.hid (HON.out.trans (hb1.mono HON.out.size))
    clear n0 n1 n2 n3 n4 n5 n6 hm hown hgood hb1
    go_wp2
    go_ret3
    exact ⟨_, by rw [HRS.out]; rfl, by rw [HRS.out]; exact IsCols.nil _ _, HB1.out⟩
end
end Go.Proofs.Ythdjkagodccdbaa
namespace Go.Proofs.Ythdjkagodccdbaa
section
open Go.RowKit

def Stk (s s' : Rst) : Prop := s.why ≠ 0 → s'.why = s.why ∧ s'.pos = s.pos
theorem Stk.refl (s : Rst) : Stk s s := fun _ => ⟨rfl, rfl⟩
theorem Stk.trans {s s1 s2 : Rst} (h : Stk s s1) (h2 : Stk s1 s2) : Stk s s2 := fun hw => by
  obtain ⟨a, b⟩ := h hw
  obtain ⟨c, d⟩ := h2 (by rw [a]; exact hw)
  exact ⟨c.trans a, d.trans b⟩
section
variable {ls : List Tok} {s s1 s2 : Rst}
theorem failR_stk (s : Rst) (y a : Int) : Stk s (failR s y a) := fun h => by unfold failR; rw [if_neg h]; exact ⟨rfl, rfl⟩
theorem stepR_stk (ls : List Tok) (s : Rst) : Stk s (stepR ls s) := fun _ => stepR_why ls s
theorem isR_stop (t : List UInt8) (h : s.why ≠ 0) : isR ls s t = false := by unfold isR; rw [decide_eq_false h]; rfl
theorem named_stop (h : s.why ≠ 0) : namedR ls s = false := by unfold namedR; rw [decide_eq_false h]; rfl
theorem con_stop (h : s.why ≠ 0) : conB ls s = false := by unfold conB; rw [decide_eq_false h]; rfl
theorem mustR_stk (ls : List Tok) (s : Rst) (t : List UInt8) : Stk s (mustR ls s t) := fun h => by unfold mustR; rw [isR_stop t h, if_neg Bool.false_ne_true]; exact failR_stk _ _ _ h
theorem takeR_stk (ls : List Tok) (s : Rst) (t : List UInt8) : Stk s (takeR ls s t) := fun h => by unfold takeR; rw [isR_stop t h, if_neg Bool.false_ne_true]; exact ⟨rfl, rfl⟩
theorem nmS_stk (ls : List Tok) (s : Rst) : Stk s (nmS ls s) := fun h => by unfold nmS; rw [named_stop h, if_neg Bool.false_ne_true]; exact failR_stk _ _ _ h
theorem tmS_stk (ls : List Tok) (s : Rst) : Stk s (tmS ls s) := fun h => by unfold tmS; rw [con_stop h, if_neg Bool.false_ne_true]; exact nmS_stk _ _ h
theorem arS_stk (ls : List Tok) (s : Rst) : Stk s (arS ls s) := fun h => by unfold arS; rw [isR_stop wAny h, if_neg Bool.false_ne_true]; exact tmS_stk _ _ h
theorem asF_stk (ls : List Tok) (f : Nat) (l : List TmP) (s : Rst) : Stk s (asF ls f l s).2 := fun h => by
  cases f with
  | zero => exact ⟨rfl, rfl⟩
  | succ f => unfold asF; rw [if_neg h]; exact ⟨rfl, rfl⟩
theorem asR_stk (ls : List Tok) (s : Rst) : Stk s (asR ls s).2 := fun h => by unfold asR; rw [isR_stop wShut h, if_neg Bool.false_ne_true]; exact asF_stk _ _ _ _ h
theorem ite_stk {c : Prop} [Decidable c] {a b : Rst} (h1 : Stk s a) (h2 : Stk s b) : Stk s (if c then a else b) := by split; exact h1; exact h2
theorem atR_stk (ls : List Tok) (n : Bool) (m : Nat) (s : Rst) : Stk s (atR ls n m s).2 := by
  unfold atR
  exact (((nmS_stk ls s).trans (mustR_stk ls _ wOpen)).trans (ite_stk (failR_stk _ _ _) (Stk.refl _))).trans (asR_stk ls _)
theorem cmR_stk (ls : List Tok) (n : Bool) (s : Rst) : Stk s (cmR ls n s).2 := by
  unfold cmR
  exact ((((ite_stk (failR_stk _ _ _) (Stk.refl _)).trans (tmS_stk ls _)).trans (ite_stk (failR_stk _ _ _) (Stk.refl _))).trans (stepR_stk ls _)).trans (tmS_stk ls _)
theorem liR_stk (ls : List Tok) (m : Nat) (s : Rst) : Stk s (liR ls m s).2 := by
  have h : Stk s (if (namedR ls (takeR ls s wNot) && (isR ls s wNot || brB ls (takeR ls s wNot))) = true then (atR ls (isR ls s wNot) m (takeR ls s wNot)).2 else (cmR ls (isR ls s wNot) (takeR ls s wNot)).2) :=
    ite_stk ((takeR_stk ls s wNot).trans (atR_stk ls _ m _)) ((takeR_stk ls s wNot).trans (cmR_stk ls _ _))
  unfold liR
  simp only
  split
  · next e => rw [if_pos e] at h; exact h
  · next e => rw [if_neg e] at h; exact h
end
def SzT (ls : List Tok) : Prop := ∀ x ∈ ls, x.t.size ≤ 300
theorem lexF_sz : ∀ (f n : Nat) (l : List UInt8), ∀ x ∈ lexF f n l, x.t.size ≤ l.length
  | 0, _, _, x, hx => by simp [lexF] at hx
  | f + 1, n, l, x, hx => by
    unfold lexF at hx
    have h1 := oneT_size (l.dropWhile blk)
    have h2 := drop_blk_le l
    rcases List.mem_cons.1 hx with rfl | hx
    · show (oneT (l.dropWhile blk)).t.size ≤ l.length
      omega
    · split at hx
      · cases hx
      · have h3 := lexF_sz f n _ x hx
        rw [List.length_drop] at h3
        omega
theorem lexR_sz (l : List UInt8) : SzT (lexR l).1 := by
  unfold lexR
  split
  · intro x hx
    cases hx
  · next h =>
    split
    · intro x hx
      have := lexF_sz _ _ _ x hx
      omega
    · intro x hx
      cases hx
theorem nmV_sz {ls : List Tok} (h : SzT ls) (s : Rst) : (nmV ls s).size ≤ 300 := by
  unfold nmV
  split
  · unfold nowR
    rw [List.getD_eq_getElem?_getD]
    cases hx : ls[s.i]? with
    | none => exact Nat.zero_le _
    | some x => exact h x (List.mem_of_getElem? hx)
  · exact Nat.zero_le _
theorem tmV_sz {ls : List Tok} (h : SzT ls) (s : Rst) : (tmV ls s).s.size ≤ 300 := by
  unfold tmV
  split
  · exact Nat.zero_le _
  · exact nmV_sz h s
theorem arV_sz {ls : List Tok} (h : SzT ls) (s : Rst) : (arV ls s).s.size ≤ 300 := by
  unfold arV
  split
  · exact Nat.zero_le _
  · exact tmV_sz h s
theorem asF_sz {ls : List Tok} (h : SzT ls) : ∀ (f : Nat) (l : List TmP) (s : Rst), (∀ t ∈ l, t.s.size ≤ 300) → (asF ls f l s).1.length ≤ l.length + f ∧ ∀ t ∈ (asF ls f l s).1, t.s.size ≤ 300
  | 0, l, s, hl => ⟨by simp [asF], hl⟩
  | f + 1, l, s, hl => by
    unfold asF
    by_cases hw : s.why = 0
    · rw [if_pos hw]
      dsimp only
      have h2 : ∀ t ∈ l ++ [arV ls s], t.s.size ≤ 300 := fun t ht => by
        rcases List.mem_append.1 ht with e | e
        · exact hl t e
        · rw [List.mem_singleton.1 e]
          exact arV_sz h s
      generalize (if 40 ≤ l.length then failR (arS ls s) 9 (nowR ls s).a else arS ls s) = s1
      split
      · have h3 := asF_sz h f (l ++ [arV ls s]) (stepR ls s1) h2
        rw [List.length_append, List.length_singleton] at h3
        exact ⟨by omega, h3.2⟩
      · exact ⟨by rw [List.length_append, List.length_singleton]; omega, h2⟩
    · rw [if_neg hw]
      exact ⟨Nat.le_add_right _ _, hl⟩
theorem asR_sz {ls : List Tok} (h : SzT ls) (s : Rst) : (asR ls s).1.length ≤ 400 ∧ ∀ t ∈ (asR ls s).1, t.s.size ≤ 300 := by
  unfold asR
  split
  · exact ⟨Nat.zero_le _, fun t ht => by cases ht⟩
  · have := asF_sz h 400 [] s (fun t ht => by cases ht)
    simpa using this
/-- What is to be known of a literal that is read. -/
def SzL (x : LiP) : Prop := x.args.length ≤ 400 ∧ x.s.size ≤ 300 ∧ ∀ t ∈ x.args, t.s.size ≤ 300
theorem liR_sz {ls : List Tok} (h : SzT ls) (m : Nat) (s : Rst) : SzL (liR ls m s).1 := by
  unfold liR
  dsimp only
  split
  · unfold atR
    exact ⟨(asR_sz h _).1, nmV_sz h _, (asR_sz h _).2⟩
  · unfold cmR
    refine ⟨by simp, Nat.zero_le _, fun t ht => ?_⟩
    simp only [List.mem_cons, List.not_mem_nil, or_false] at ht
    rcases ht with rfl | rfl <;> exact tmV_sz h _
theorem loR_why (ls : List Tok) (s : Rst) (a : Int) : (loR ls s a).why ≠ 0 := by
  unfold loR
  generalize (if (isR ls s wNot || (namedR ls s || decide ((nowR ls s).k = 2))) = true then failR s 9 a else s) = s1
  unfold failR
  split
  · exact show (7 : Int) ≠ 0 by decide
  · assumption
theorem boF_sz {ls : List Tok} (h : SzT ls) : ∀ (f m : Nat) (l : List LiP) (s : Rst), l.length ≤ 10 → (∀ x ∈ l, SzL x) → (boF ls f m l s).1.length ≤ 11 ∧ ∀ x ∈ (boF ls f m l s).1, SzL x
  | 0, _, l, _, h1, h2 => ⟨by show l.length ≤ 11; omega, h2⟩
  | f + 1, m, l, s, h1, h2 => by
    unfold boF
    by_cases hw : s.why = 0
    · rw [if_pos hw]
      dsimp only
      by_cases h10 : 10 ≤ l.length
      · rw [if_pos h10]
        have hy := liR_stk ls m (loR ls s (nowR ls s).a) (loR_why ls s _)
        have hn : (liR ls m (loR ls s (nowR ls s).a)).2.why ≠ 0 := by rw [hy.1]; exact loR_why ls s _
        rw [isR_stop wComma hn, if_neg Bool.false_ne_true]
        refine ⟨by rw [List.length_append, List.length_singleton]; omega, fun x hx => ?_⟩
        rcases List.mem_append.1 hx with e | e
        · exact h2 x e
        · rw [List.mem_singleton.1 e]
          exact liR_sz h m _
      · rw [if_neg h10]
        have h3 : ∀ x ∈ l ++ [(liR ls m s).1], SzL x := fun x hx => by
          rcases List.mem_append.1 hx with e | e
          · exact h2 x e
          · rw [List.mem_singleton.1 e]
            exact liR_sz h m _
        split
        · exact boF_sz h f _ _ _ (by rw [List.length_append, List.length_singleton]; omega) h3
        · exact ⟨by rw [List.length_append, List.length_singleton]; omega, h3⟩
    · rw [if_neg hw]
      exact ⟨by show l.length ≤ 11; omega, h2⟩
theorem agO_sz {ls : List Tok} (h : SzT ls) (s : Rst) (k : Int) (o : ByteArray) (ho : o.size ≤ 300) : (agO ls s k o).size ≤ 300 := by
  unfold agO
  split
  · exact ho
  · split
    · exact ho
    · split
      · exact nmV_sz h _
      · exact ho
theorem hdF_sz {ls : List Tok} (h : SzT ls) (k : Int) : ∀ (f : Nat) (y : HdP), (∀ n ∈ y.h, n.size ≤ 300) → y.ofv.size ≤ 300 → (hdF ls k f y).h.length ≤ y.h.length + f ∧ (∀ n ∈ (hdF ls k f y).h, n.size ≤ 300) ∧ (hdF ls k f y).ofv.size ≤ 300
  | 0, y, h1, h2 => ⟨by simp [hdF], h1, h2⟩
  | f + 1, y, h1, h2 => by
    unfold hdF
    by_cases hw : y.s.why = 0
    · rw [if_pos hw]
      dsimp only
      split
      · exact ⟨Nat.le_add_right _ _, h1, agO_sz h _ _ _ h2⟩
      · have h3 : ∀ n ∈ y.h ++ [nmV ls y.s], n.size ≤ 300 := fun n hn => by
          rcases List.mem_append.1 hn with e | e
          · exact h1 n e
          · rw [List.mem_singleton.1 e]
            exact nmV_sz h _
        generalize (if 40 ≤ y.h.length then failR (nmS ls y.s) 9 (nowR ls y.s).a else nmS ls y.s) = s2
        split
        · have h4 := hdF_sz h k f ⟨y.h ++ [nmV ls y.s], y.ag, y.ofv, stepR ls s2⟩ h3 h2
          rw [List.length_append, List.length_singleton] at h4
          exact ⟨by omega, h4.2⟩
        · exact ⟨by rw [List.length_append, List.length_singleton]; omega, h3, h2⟩
    · rw [if_neg hw]
      exact ⟨Nat.le_add_right _ _, h1, h2⟩
theorem hdR_sz {ls : List Tok} (h : SzT ls) (s : Rst) (k : Int) : (hdR ls s k).h.length ≤ 400 ∧ (∀ n ∈ (hdR ls s k).h, n.size ≤ 300) ∧ (hdR ls s k).ofv.size ≤ 300 := by
  unfold hdR
  split
  · unfold hdQ
    refine ⟨by simp, fun n hn => ?_, agO_sz h _ _ _ (Nat.zero_le _)⟩
    rw [List.mem_singleton.1 hn]
    exact nmV_sz h _
  · have := hdF_sz h k 400 ⟨[], 0, ⟨#[]⟩, s⟩ (fun n hn => by cases hn) (Nat.zero_le _)
    simpa using this
def SmlP (x : RuP) : Prop := x.head.length ≤ 400 ∧ (∀ s ∈ x.head, s.size ≤ 300) ∧ x.ofv.size ≤ 300 ∧ x.body.length ≤ 11 ∧ ∀ y ∈ x.body, SzL y
theorem ruleR_sml (l : List UInt8) : SmlP (ruleR l).1 := by
  have h0 : SmlP noRu := ⟨Nat.zero_le _, (fun s hs => by cases hs), Nat.zero_le _, Nat.zero_le _, (fun s hs => by cases hs)⟩
  unfold ruleR
  split
  · exact h0
  · split
    · have hz := lexR_sz l
      generalize (lexR l).1 = ls at *
      have hh := hdR_sz hz (mustR ls (nmS ls (kiS ls ⟨0, 0, 0⟩)) wOpen) (kiK ls ⟨0, 0, 0⟩)
      unfold ruX
      exact ⟨hh.1, hh.2.1, hh.2.2, boF_sz hz 400 0 [] _ (Nat.zero_le _) (fun x hx => by cases hx)⟩
    · exact h0
theorem SmlP.smlT {r : RuG} {x : RuP} (h : r.pl = x) (hx : SmlP x) : SmlT r := by
  subst h
  obtain ⟨h1, h2, h3, h4, h5⟩ := hx
  have hm : (300 : Nat) ≤ maxLen := by decide
  have h4' : r.body.length ≤ 11 := by simpa using h4
  refine ⟨Nat.le_trans h1 (by decide), fun s hs => Nat.le_trans (h2 s hs) hm, Nat.le_trans h3 hm, by omega, fun y hy => ?_⟩
  obtain ⟨a, b, c⟩ := h5 y.li (List.mem_map.2 ⟨y, hy, rfl⟩)
  exact ⟨Nat.le_trans a (by decide), Nat.le_trans b hm, fun t ht => Nat.le_trans (c t ht) hm⟩
end
end Go.Proofs.Ythdjkagodccdbaa
