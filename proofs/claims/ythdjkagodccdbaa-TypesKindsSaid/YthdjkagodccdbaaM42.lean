/-
  Vars and Head of package types answer what the plain functions tell, at any rule, kinds and views.
  Condition: a rule is no longer than SmlT says, kinds and views have no more than 900000 columns.
  Head of package types answers what the plain functions tell, at any rule, kinds and views.
  Condition: a rule is no longer than SmlT says, kinds and views have no more than 900000 columns.
-/
import Derived.Test.YthdjkagodccdbaaM41
namespace Go.Proofs.Ythdjkagodccdbaa
section
open Go.RowKit Go.Maps

/-- What is to be known of a rule. -/
def SmlT (r : RuG) : Prop := r.head.length ≤ 1000 ∧ (∀ s ∈ r.head, s.size ≤ maxLen) ∧ r.ofv.size ≤ maxLen ∧ SmlB r.body
/-- What is answered: columns of one's own, a place, a number. -/
def TypIs (w : World) (R : List Co × Int × Int) (e : Ending) (w' : World) : Prop := ∃ v, e = .returned (.tuple #[v, .int .i64 R.2.1, .int .i64 R.2.2]) ∧ IsCols w' (Behind w) v R.1 ∧ Below w.heap.size w w'
def varsZ (S U : List Sc) (x : RuP) : List Co × Int × Int := ((varsT S U x.body).1, ((varsT S U x.body).2.1 : Int), (varsT S U x.body).2.2)
theorem varsZ_ok (S U : List Sc) (x : RuP) (h : (knowT S U x.body).2.2 = 0) : varsZ S U x = ((knowT S U x.body).1, 0, 0) := by
  unfold varsZ varsT
  rw [if_pos h]
  rfl
theorem varsZ_no (S U : List Sc) (x : RuP) (h : (knowT S U x.body).2.2 ≠ 0) : varsZ S U x = ([], ((knowT S U x.body).2.1 : Int), (knowT S U x.body).2.2) := by
  unfold varsZ varsT
  rw [if_neg h]
theorem headT_no (S U : List Sc) (x : RuP) (h : (knowT S U x.body).2.2 ≠ 0) : headT S U x = ([], ((knowT S U x.body).2.1 : Int), (knowT S U x.body).2.2) := if_neg h
theorem headT_bad (S U : List Sc) (x : RuP) (h : (knowT S U x.body).2.2 = 0) (h2 : headF (knowT S U x.body).1 x ≠ 0) : headT S U x = ([], -1, headF (knowT S U x.body).1 x) := by
  unfold headT
  rw [if_pos h, if_neg h2]
theorem headT_ok (S U : List Sc) (x : RuP) (h : (knowT S U x.body).2.2 = 0) (h2 : headF (knowT S U x.body).1 x = 0) : headT S U x = (x.head.map (fun n => orC (findC (knowT S U x.body).1 n)) ++ aggC x, 0, 0) := by
  unfold headT
  rw [if_pos h, if_pos h2]
theorem KnowAt.names {base : Nat} {W : World} {g s vb cb : Nat} {ov : Value} {S : List Sc} {ls : List RS} {U : List Sc} {L : List Co} {m : Nat} (h : KnowAt base W g s vb cb ov S ls U L m) : ∀ n ∈ L.map (·.nm), n.size ≤ maxLen := fun n hn => by
  obtain ⟨d, hd, rfl⟩ := List.mem_map.1 hn
  exact h.good.sz d hd

set_option maxRecDepth 100000 in
set_option maxHeartbeats 8000000 in
theorem p_Vars (r : RuG) (sp : Nat) (Q : Nat → Prop) (S U : List Sc) (vA : Option Addr) (ls : List RS) (vc : Nat) (w : World) (hr : r.Ok w) (hsm : SmlT r) (hs : SetIs w Q sp S) (hf : ∀ x ∈ S, x.cols.length ≤ 900000) (hl : ScR w Q ls U) (hcv : CellsQ w Q vA (flatS ls)) (hul : U.length ≤ 900000) (hun : ∀ x ∈ U, x.nm.size ≤ maxLen) :
    Calls Try.prog 16 #[.agg r.cells, .pointer (some ⟨sp, 0, none⟩), .slice vA U.length vc] w (TypIs w (varsZ S U r.pl)) := by
  obtain ⟨k0, nm, hA, hc, head, ag, ofv, lim, bA, bc, body⟩ := r
  have hon := one_new w (.cells #[.int .i64 k0, .string nm, .slice hA head.length hc, .int .i64 ag, .string ofv, .int .i64 lim, .slice bA body.length bc] 27)
  have hq := Below.keepQ hon Q
  have HKN := Lib.hid (k_know sp Q S _ (hs.below hon) hf vA U ls vc (hl.keep hq) (hcv.keep hq) hul hun bA bc body (hr.2.below hon) hsm.2.2.2)
  have HV0 := Lib.hid (varsZ_ok S U (RuG.pl ⟨k0, nm, hA, hc, head, ag, ofv, lim, bA, bc, body⟩))
  have HV1 := Lib.hid (varsZ_no S U (RuG.pl ⟨k0, nm, hA, hc, head, ag, ofv, lim, bA, bc, body⟩))
  have hbx := heap_alloc_new w (.cells #[.int .i64 k0, .string nm, .slice hA head.length hc, .int .i64 ag, .string ofv, .int .i64 lim, .slice bA body.length bc] 27)
  obtain ⟨n0, n1, n2, n3, n4, n5, n6⟩ := box7g_of hbx
  have HON := Lib.hid hon
  generalize varsZ S U (RuG.pl ⟨k0, nm, hA, hc, head, ag, ofv, lim, bA, bc, body⟩) = R at *
  simp only at HV0 HV1
  generalize knowT S U (body.map LmG.li) = K at *
  clear hr hsm hs hf hl hcv hul hun hon hq hbx
  show Calls Try.prog 16 #[.agg #[.int .i64 k0, .string nm, .slice hA head.length hc, .int .i64 ag, .string ofv, .int .i64 lim, .slice bA body.length bc], .pointer (some ⟨sp, 0, none⟩), .slice vA U.length vc] w (TypIs w R)
  go_enter Try.func16, Try.ntmps16
  go_wp2_with fail
  refine HKN.out.mono ?_
  rintro e w1 ⟨g, rfl, hb1, hk1⟩
  have HB1 := Lib.hid (HON.out.trans (hb1.mono HON.out.size))
  have HK1 := Lib.hid hk1
  obtain ⟨L, at0, why⟩ := K
  simp only at HV0 HV1 hk1
  clear hb1 hk1 n0 n1 n2 n3 n4 n5 n6
  by_cases hw : why = 0
  · have hR := HV0.out hw
    have bw : (why != 0) = false := by simpa using hw
    obtain ⟨vb, cb, ov, m, hm, hk⟩ := HK1.out hw
    have hgl : L.length ≤ m := hk.good.len
    obtain ⟨g0, g1, g2, g3⟩ := cellK hk
    obtain ⟨A, c, hov, hels⟩ := OwnF.els hk.ord
    subst hov
    have HC := Lib.hid (k_columns hk A (L.map (·.nm)) c (by rw [List.length_map]; omega) hels hk.names)
    rw [all_at hk.good.nd] at HC
    have HLN := Lib.hid (show L.length ≤ 1000000 by omega)
    obtain ⟨nl, hnl⟩ : ∃ nl, (L.map (·.nm)).length = nl := ⟨_, rfl⟩
    have HR := Lib.hid hR
    rw [hnl] at HC g3
    clear hw hR hk hels hnl
    go_wp2_with fail
    refine HC.out.mono ?_
    rintro e w2 ⟨v, rfl, hv, hb2⟩
    have HV := Lib.hid hv
    have HB2 := Lib.hid (HB1.out.trans (hb2.mono HB1.out.size))
    have hsz := HB1.out.size
    have hsh := hv.slice (Behind w) (fun k hk => Nat.le_trans hsz hk)
    obtain ⟨A2, c2, rfl, hA2, hc2, hcells⟩ := hsh
    have HIS : Hid (IsCols w2 (Behind w) (.slice A2 L.length c2) L) := Lib.hid ⟨HLN.out, A2, c2, rfl, hA2, hc2, hcells⟩
    clear hv hb2 hA2 hc2 hcells
    go_wp2
    go_ret3
    exact ⟨_, by rw [HR.out]; rfl, by rw [HR.out]; exact HIS.out, HB2.out⟩
  · have HR := Lib.hid (HV1.out hw)
    have bw : (why != 0) = true := by simpa using hw
    clear hw
    go_wp2
    go_ret3
    exact ⟨_, by rw [HR.out]; rfl, by rw [HR.out]; exact IsCols.nil _ _, HB1.out⟩

set_option maxRecDepth 100000 in
set_option maxHeartbeats 2000000 in
theorem p_Vars_nil (r : RuG) (vA : Option Addr) (vl vc : Nat) (w : World) :
    Calls Try.prog 16 #[.agg r.cells, .pointer none, .slice vA vl vc] w fun e w' => e = .returned (.tuple #[.slice none 0 0, .int .i64 0, .int .i64 1]) ∧ Below w.heap.size w w' := by
  obtain ⟨k0, nm, hA, hc, head, ag, ofv, lim, bA, bc, body⟩ := r
  have hon := one_new w (.cells #[.int .i64 k0, .string nm, .slice hA head.length hc, .int .i64 ag, .string ofv, .int .i64 lim, .slice bA body.length bc] 27)
  have hbx := heap_alloc_new w (.cells #[.int .i64 k0, .string nm, .slice hA head.length hc, .int .i64 ag, .string ofv, .int .i64 lim, .slice bA body.length bc] 27)
  obtain ⟨n0, n1, n2, n3, n4, n5, n6⟩ := box7g_of hbx
  have HON := Lib.hid hon
  clear hon hbx
  show Calls Try.prog 16 #[.agg #[.int .i64 k0, .string nm, .slice hA head.length hc, .int .i64 ag, .string ofv, .int .i64 lim, .slice bA body.length bc], .pointer none, .slice vA vl vc] w fun e w' => e = .returned (.tuple #[.slice none 0 0, .int .i64 0, .int .i64 1]) ∧ Below w.heap.size w w'
  go_enter Try.func16, Try.ntmps16
  go_wp2_with (go_at_call 30; refine (k_know_nil _ _ _ _ _ _ _).mono ?_; rintro e w1 ⟨rfl, hb1⟩; have HB1 := Lib.hid (HON.out.trans (hb1.mono HON.out.size)); clear hb1)
  go_ret3
  exact ⟨rfl, HB1.out⟩
set_option maxRecDepth 100000 in
set_option maxHeartbeats 2000000 in
theorem p_Head_nil (r : RuG) (vA : Option Addr) (vl vc : Nat) (w : World) :
    Calls Try.prog 10 #[.agg r.cells, .pointer none, .slice vA vl vc] w fun e w' => e = .returned (.tuple #[.slice none 0 0, .int .i64 0, .int .i64 1]) ∧ Below w.heap.size w w' := by
  obtain ⟨k0, nm, hA, hc, head, ag, ofv, lim, bA, bc, body⟩ := r
  have hon := one_new w (.cells #[.int .i64 k0, .string nm, .slice hA head.length hc, .int .i64 ag, .string ofv, .int .i64 lim, .slice bA body.length bc] 27)
  have hbx := heap_alloc_new w (.cells #[.int .i64 k0, .string nm, .slice hA head.length hc, .int .i64 ag, .string ofv, .int .i64 lim, .slice bA body.length bc] 27)
  obtain ⟨n0, n1, n2, n3, n4, n5, n6⟩ := box7g_of hbx
  have HON := Lib.hid hon
  clear hon hbx
  show Calls Try.prog 10 #[.agg #[.int .i64 k0, .string nm, .slice hA head.length hc, .int .i64 ag, .string ofv, .int .i64 lim, .slice bA body.length bc], .pointer none, .slice vA vl vc] w fun e w' => e = .returned (.tuple #[.slice none 0 0, .int .i64 0, .int .i64 1]) ∧ Below w.heap.size w w'
  go_enter Try.func10, Try.ntmps10
  go_wp2_with (go_at_call 30; refine (k_know_nil _ _ _ _ _ _ _).mono ?_; rintro e w1 ⟨rfl, hb1⟩; have HB1 := Lib.hid (HON.out.trans (hb1.mono HON.out.size)); clear hb1)
  go_ret3
  exact ⟨rfl, HB1.out⟩
end
end Go.Proofs.Ythdjkagodccdbaa
namespace Go.Proofs.Ythdjkagodccdbaa
section
open Go.RowKit Go.Maps

theorem aggC_of (x : RuP) (h : 1 < x.ag) : aggC x = [⟨x.ofv, 2, false⟩] := if_pos h
theorem aggC_count (x : RuP) (h : ¬ 1 < x.ag) (h1 : x.ag = 1) : aggC x = [⟨countB, 2, false⟩] := by
  unfold aggC
  rw [if_neg h, if_pos h1]
theorem aggC_none (x : RuP) (h : ¬ 1 < x.ag) (h1 : ¬ x.ag = 1) : aggC x = [] := by
  unfold aggC
  rw [if_neg h, if_neg h1]
set_option maxRecDepth 100000 in
set_option maxHeartbeats 8000000 in
theorem p_Head (r : RuG) (sp : Nat) (Q : Nat → Prop) (S U : List Sc) (vA : Option Addr) (ls : List RS) (vc : Nat) (w : World) (hr : r.Ok w) (hsm : SmlT r) (hs : SetIs w Q sp S) (hf : ∀ x ∈ S, x.cols.length ≤ 900000) (hl : ScR w Q ls U) (hcv : CellsQ w Q vA (flatS ls)) (hul : U.length ≤ 900000) (hun : ∀ x ∈ U, x.nm.size ≤ maxLen) :
    Calls Try.prog 10 #[.agg r.cells, .pointer (some ⟨sp, 0, none⟩), .slice vA U.length vc] w (TypIs w (headT S U r.pl)) := by
  have HHD : Hid (∀ (W : World) (base g s vb cb : Nat) (ov : Value) (L : List Co) (m : Nat), Below w.heap.size w W → KnowAt base W g s vb cb ov S ls U L m → Calls Try.prog 31 #[.pointer (some ⟨g, 0, none⟩), .agg r.cells] W fun e W' => e = .returned (.int .i64 (headF L r.pl)) ∧ Below W.heap.size W W') := Lib.hid fun W base g s vb cb ov L m hb hk => k_head hk r (hr.1.below hb) hsm.1 hsm.2.1 hsm.2.2.1
  have HCO : Hid (∀ (W : World) (base g s vb cb : Nat) (ov : Value) (L : List Co) (m : Nat), Below w.heap.size w W → KnowAt base W g s vb cb ov S ls U L m → Calls Try.prog 32 #[.pointer (some ⟨g, 0, none⟩), .slice r.hA r.head.length r.hc] W (MakesC W (r.head.map fun n => orC (findC L n)))) := Lib.hid fun W base g s vb cb ov L m hb hk => k_columns hk r.hA r.head r.hc (by have := hsm.1; omega) (hr.1.below hb) hsm.2.1
  have hov : Hid (∀ w, Calls Try.prog 33 #[.agg r.cells] w fun e w' => e = .returned (.bool (decide (1 < r.ag))) ∧ Below w.heap.size w w') := Lib.hid fun w => t_ofVar r w
  have HV0 := Lib.hid (headT_no S U r.pl)
  have HV1 := Lib.hid (headT_bad S U r.pl)
  have HV2 := Lib.hid (headT_ok S U r.pl)
  have HA0 := Lib.hid (aggC_of r.pl)
  have HA1 := Lib.hid (aggC_count r.pl)
  have HA2 := Lib.hid (aggC_none r.pl)
  have HHL := Lib.hid hsm.1
  have HHF : Hid (∀ L, ∃ z, headF L r.pl = z) := Lib.hid fun L => ⟨_, rfl⟩
  obtain ⟨fh, hfh⟩ : ∃ fh : List Co → Int, (fun L => headF L r.pl) = fh := ⟨_, rfl⟩
  have hfh2 : ∀ L, headF L r.pl = fh L := fun L => congrFun hfh L
  simp only [hfh2] at HHD HV1 HV2
  obtain ⟨k0, nm, hA, hc, head, ag, ofv, lim, bA, bc, body⟩ := r
  have hon := one_new w (.cells #[.int .i64 k0, .string nm, .slice hA head.length hc, .int .i64 ag, .string ofv, .int .i64 lim, .slice bA body.length bc] 27)
  have hq := Below.keepQ hon Q
  have HKN := Lib.hid (k_know sp Q S _ (hs.below hon) hf vA U ls vc (hl.keep hq) (hcv.keep hq) hul hun bA bc body (hr.2.below hon) hsm.2.2.2)
  have hbx := heap_alloc_new w (.cells #[.int .i64 k0, .string nm, .slice hA head.length hc, .int .i64 ag, .string ofv, .int .i64 lim, .slice bA body.length bc] 27)
  have HON := Lib.hid hon
  generalize headT S U (RuG.pl ⟨k0, nm, hA, hc, head, ag, ofv, lim, bA, bc, body⟩) = R at *
  simp only at HV0 HV1 HV2 HA0 HA1 HA2 hov HCO HHL
  generalize aggC (RuG.pl ⟨k0, nm, hA, hc, head, ag, ofv, lim, bA, bc, body⟩) = ag0 at *
  generalize knowT S U (body.map LmG.li) = K at *
  obtain ⟨bl, hbl⟩ : ∃ bl, body.length = bl := ⟨_, rfl⟩
  obtain ⟨hn, hhn⟩ : ∃ hn, head.length = hn := ⟨_, rfl⟩
  show Calls Try.prog 10 #[.agg #[.int .i64 k0, .string nm, .slice hA head.length hc, .int .i64 ag, .string ofv, .int .i64 lim, .slice bA body.length bc], .pointer (some ⟨sp, 0, none⟩), .slice vA U.length vc] w (TypIs w R)
  have HHD2 : Hid (∀ (W : World) (base g s vb cb : Nat) (ov : Value) (L : List Co) (m : Nat), Below w.heap.size w W → KnowAt base W g s vb cb ov S ls U L m → Calls Try.prog 31 #[.pointer (some ⟨g, 0, none⟩), .agg #[.int .i64 k0, .string nm, .slice hA head.length hc, .int .i64 ag, .string ofv, .int .i64 lim, .slice bA body.length bc]] W fun e W' => e = .returned (.int .i64 (fh L)) ∧ Below W.heap.size W W') := HHD
  have hov2 : Hid (∀ w, Calls Try.prog 33 #[.agg #[.int .i64 k0, .string nm, .slice hA head.length hc, .int .i64 ag, .string ofv, .int .i64 lim, .slice bA body.length bc]] w fun e w' => e = .returned (.bool (decide (1 < ag))) ∧ Below w.heap.size w w') := hov
  clear hov HHD HHF hfh2 hfh
  have hov := hov2
  clear hov2
  rw [hbl, hhn] at HON HKN hov HHD2 hbx
  rw [hhn] at HCO HHL
  rw [hbl, hhn]
  have hz0 : (w.alloc (.cells #[.int .i64 k0, .string nm, .slice hA hn hc, .int .i64 ag, .string ofv, .int .i64 lim, .slice bA bl bc] 27)).heap.size = w.heap.size + 1 := World.size_alloc _ _
  have HHN := Lib.hid hhn
  obtain ⟨n0, n1, n2, n3, n4, n5, n6⟩ := box7g_of hbx
  have HBX := Lib.hid hbx
  have HZ0 := Lib.hid hz0
  clear hr hsm hs hf hl hcv hul hun hon hq hbx hbl hhn hz0
  go_enter Try.func10, Try.ntmps10
  go_wp2_with fail
  refine HKN.out.mono ?_
  rintro e w1 ⟨g, rfl, hb1, hk1⟩
  have HB1 := Lib.hid (HON.out.trans (hb1.mono HON.out.size))
  have HR : Hid (∀ W, Below w1.heap.size w1 W → W.cell? ⟨w.heap.size, 0, none⟩ = some (.int .i64 k0) ∧ W.cell? ⟨w.heap.size, 1, none⟩ = some (.string nm) ∧ W.cell? ⟨w.heap.size, 2, none⟩ = some (.slice hA hn hc) ∧ W.cell? ⟨w.heap.size, 3, none⟩ = some (.int .i64 ag) ∧ W.cell? ⟨w.heap.size, 4, none⟩ = some (.string ofv) ∧ W.cell? ⟨w.heap.size, 5, none⟩ = some (.int .i64 lim) ∧ W.cell? ⟨w.heap.size, 6, none⟩ = some (.slice bA bl bc)) := Lib.hid fun W hW => box7g_of (((hb1.trans (hW.mono hb1.size)).block w.heap.size (by rw [HZ0.out]; omega)).trans HBX.out)
  have HK1 := Lib.hid hk1
  obtain ⟨L, at0, why⟩ := K
  simp only at HV0 HV1 HV2 hk1
  clear hb1 hk1 n0 n1 n2 n3 n4 n5 n6
  obtain ⟨n0, n1, n2, n3, n4, n5, n6⟩ := HR.out w1 (Below.refl _ _)
  by_cases hw : why = 0
  · have bw : (why != 0) = false := by simpa using hw
    obtain ⟨vb, cb, ov, m, hm, hk⟩ := HK1.out hw
    have HHW := Lib.hid (HHD2.out w1 _ _ _ _ _ _ _ _ HB1.out hk)
    have HK : Hid (∀ W, Below w1.heap.size w1 W → Calls Try.prog 32 #[.pointer (some ⟨g, 0, none⟩), .slice hA hn hc] W (MakesC W (head.map fun n => orC (findC L n)))) := Lib.hid fun W hW => HCO.out W _ _ _ _ _ _ _ _ (HB1.out.trans (hW.mono HB1.out.size)) (hk.below hW)
    have HW0 := Lib.hid hw
    clear hk
    simp only at HHW
    obtain ⟨z, hz⟩ : ∃ z, fh L = z := ⟨_, rfl⟩
    rw [hz] at HHW
    by_cases hz0 : z = 0
    · have HRS0 := Lib.hid (HV2.out hw (hz.trans hz0))
      have bz : (z != 0) = false := by simpa using hz0
      clear hw hz hz0
      obtain ⟨HC, hHC⟩ : ∃ HC, (head.map fun n => orC (findC L n)) = HC := ⟨_, rfl⟩
      have HLC : Hid (HC.length ≤ 1000) := Lib.hid (by rw [← hHC, List.length_map, HHN.out]; exact HHL.out)
      simp only [hHC] at HRS0 HK
      clear hHC
      go_wp2_with fail
      refine HHW.out.mono ?_
      rintro e w2 ⟨rfl, hb2⟩
      have HB2 := Lib.hid (HB1.out.trans (hb2.mono HB1.out.size))
      have HB2d := Lib.hid hb2
      clear n0 n1 n2 n3 n4 n5 n6 hb2
      obtain ⟨n0, n1, n2, n3, n4, n5, n6⟩ := HR.out w2 HB2d.out
      go_wp2_with fail
      refine (HK.out w2 HB2d.out).mono ?_
      rintro e w3 ⟨v3, rfl, ho3, hb3⟩
      have HO3 := Lib.hid ho3
      have HB3 := Lib.hid (HB2.out.trans (hb3.mono HB2.out.size))
      have HB3d := Lib.hid (HB2d.out.trans (hb3.mono HB2d.out.size))
      have HS12 := Lib.hid HB2d.out.size
      have HS23 := Lib.hid hb3.size
      have hsh := ho3.slice (Behind w) (fun k hk => Nat.le_trans HB2.out.size hk)
      obtain ⟨A3, c3, rfl, -, -, -⟩ := hsh
      clear n0 n1 n2 n3 n4 n5 n6 hb3 ho3
      obtain ⟨n0, n1, n2, n3, n4, n5, n6⟩ := HR.out w3 HB3d.out
      by_cases hag : 1 < ag
      · have eag : decide (1 < ag) = true := decide_eq_true hag
        have HRS := Lib.hid (HRS0.out.trans (by rw [HA0.out hag]))
        rw [eag] at hov
        clear hag eag
        go_wp2_with fail
        refine (hov.out _).mono ?_
        rintro e w4 ⟨rfl, hb4⟩
        have HB4 := Lib.hid (HB3.out.trans (hb4.mono HB3.out.size))
        have HO4 := Lib.hid (HO3.out.below hb4)
        have HB4d := Lib.hid (HB3d.out.trans (hb4.mono HB3d.out.size))
        have hsz4 : w2.heap.size ≤ w4.heap.size := Nat.le_trans HS23.out hb4.size
        have hlc : HC.length ≤ 1000 := HLC.out
        clear n0 n1 n2 n3 n4 n5 n6 hb4
        obtain ⟨n0, n1, n2, n3, n4, n5, n6⟩ := HR.out w4 HB4d.out
        go_wp2_with (at_builtin; go_must (refine wp_append_C _ rfl (.tmp 40) (.tmp 44) rfl w2.heap.size _ HC [⟨ofv, 2, false⟩] rfl (HO4.out.alloc _) (some ⟨w4.heap.size, 0, none⟩) 1 1 rfl rfl (fun _ => True) (c_lit1 _ ⟨ofv, 2, false⟩) (flatC_one _) (by simp; omega) (by simp; omega) ?_; intro v1 w5 hown5 hb5 _ _; have HO5 := Lib.hid hown5; have HB5 := Lib.hid (HB4.out.trans ((one_new_far w4 (.cells #[.string ofv, .int .i64 2, .bool false] 49) hsz4).trans hb5 |>.mono HB2.out.size)); clear hown5 hb5))
        go_ret3
        exact ⟨_, by rw [HRS.out]; rfl, by rw [HRS.out]; exact own_cols HO5.out (by simp; omega) HB2.out.size, HB5.out⟩
      · have eag : decide (1 < ag) = false := decide_eq_false hag
        rw [eag] at hov
        clear eag
        by_cases h1 : ag = 1
        · have HRS := Lib.hid (HRS0.out.trans (by rw [HA1.out (by omega) h1]))
          have b1 : (ag == 1) = true := by simpa using h1
          clear hag h1
          go_wp2_with fail
          refine (hov.out _).mono ?_
          rintro e w4 ⟨rfl, hb4⟩
          have HB4 := Lib.hid (HB3.out.trans (hb4.mono HB3.out.size))
          have HO4 := Lib.hid (HO3.out.below hb4)
          have HB4d := Lib.hid (HB3d.out.trans (hb4.mono HB3d.out.size))
          have hsz4 : w2.heap.size ≤ w4.heap.size := Nat.le_trans HS23.out hb4.size
          have hlc : HC.length ≤ 1000 := HLC.out
          clear n0 n1 n2 n3 n4 n5 n6 hb4
          obtain ⟨n0, n1, n2, n3, n4, n5, n6⟩ := HR.out w4 HB4d.out
          go_wp2_with (at_builtin; go_must (refine wp_append_C _ rfl (.tmp 50) (.tmp 52) rfl w2.heap.size _ HC [⟨countB, 2, false⟩] rfl (HO4.out.alloc _) (some ⟨w4.heap.size, 0, none⟩) 1 1 rfl rfl (fun _ => True) (c_lit1 _ ⟨countB, 2, false⟩) (flatC_one _) (by simp; omega) (by simp; omega) ?_; intro v1 w5 hown5 hb5 _ _; have HO5 := Lib.hid hown5; have HB5 := Lib.hid (HB4.out.trans ((one_new_far w4 (.cells #[.string ⟨#[99, 111, 117, 110, 116]⟩, .int .i64 2, .bool false] 49) hsz4).trans hb5 |>.mono HB2.out.size)); clear hown5 hb5))
          go_ret3
          exact ⟨_, by rw [HRS.out]; rfl, by rw [HRS.out]; exact own_cols HO5.out (by simp; omega) HB2.out.size, HB5.out⟩
        · have HRS := Lib.hid (HRS0.out.trans (by rw [HA2.out (by omega) h1, List.append_nil]))
          have b1 : (ag == 1) = false := by simpa using h1
          clear hag h1
          go_wp2_with fail
          refine (hov.out _).mono ?_
          rintro e w4 ⟨rfl, hb4⟩
          have HB4 := Lib.hid (HB3.out.trans (hb4.mono HB3.out.size))
          have HO4 := Lib.hid (HO3.out.below hb4)
          have HB4d := Lib.hid (HB3d.out.trans (hb4.mono HB3d.out.size))
          have hsz4 : w2.heap.size ≤ w4.heap.size := Nat.le_trans HS23.out hb4.size
          have hlc : HC.length ≤ 1000 := HLC.out
          clear n0 n1 n2 n3 n4 n5 n6 hb4
          obtain ⟨n0, n1, n2, n3, n4, n5, n6⟩ := HR.out w4 HB4d.out
          go_wp2
          go_ret3
          exact ⟨_, by rw [HRS.out]; rfl, by rw [HRS.out]; exact own_cols HO4.out (by show HC.length ≤ 1000000; omega) HB2.out.size, HB4.out⟩
    · have HRS := Lib.hid ((HV1.out hw (by rw [hz]; exact hz0)).trans (by rw [hz]))
      have bz : (z != 0) = true := by simpa using hz0
      clear hw hz hz0
      go_wp2_with fail
      refine HHW.out.mono ?_
      rintro e w2 ⟨rfl, hb2⟩
      have HB2 := Lib.hid (HB1.out.trans (hb2.mono HB1.out.size))
      clear n0 n1 n2 n3 n4 n5 n6 hb2
      go_wp2
      go_ret3
      exact ⟨_, by rw [HRS.out]; rfl, by rw [HRS.out]; exact IsCols.nil _ _, HB2.out⟩
  · have HRS := Lib.hid (HV0.out hw)
    have bw : (why != 0) = true := by simpa using hw
    clear hw
    go_wp2
    go_ret3
    exact ⟨_, by rw [HRS.out]; rfl, by rw [HRS.out]; exact IsCols.nil _ _, HB1.out⟩
end
end Go.Proofs.Ythdjkagodccdbaa
