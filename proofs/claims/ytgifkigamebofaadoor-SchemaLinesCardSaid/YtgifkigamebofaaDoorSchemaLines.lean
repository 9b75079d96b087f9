/-
  SchemaLines of verdererlaw07 answers true at every kind and text, and each argument reads afterwards as it read before: a kind as a line, and a line as a kind, are what the document says; what is a line is read as the kind.
  Condition: the listed variables of the library read as the program's text lays them; the card ties that to the text of the pruned copy of the project.
-/
import Derived.Test.YtgifkigamebofaaDoorSdoor
import Derived.Test.YtgifkigamebofaaDoorSchemaFits
import Derived.Test.YtgifkigamebofaaDoorSrread
import Derived.Test.YtgifkigamebofaaDoorCards
import Derived.Test.YtgifkigamebofaaDoorTie
import Derived.SevenTiedAt
import Derived.Lib.SmallJoins
namespace Go.Proofs.YtgifkigamebofaaDoor
open Go.ChangeShapes Go.WideShapes Go.ChangeAt Go.RowKit Go.Deep

theorem colL_len (c : Co) (h1 : c.nm.size ≤ 16) : (colL c).length ≤ 23 := by
  unfold colL
  have h2 := word_size c.k
  have e1 : c.nm.data.toList.length = c.nm.size := rfl
  have e2 : (wordR c.k).data.toList.length = (wordR c.k).size := rfl
  simp only [List.length_append, List.length_cons, List.length_nil, e1, e2]
  split <;> simp <;> omega
theorem flat_len : ∀ (cs : List Co), (∀ c ∈ cs, (colL c).length ≤ 23) → (cs.flatMap colL).length ≤ 23 * cs.length
  | [], _ => by simp
  | c :: cs, h => by
    have h1 := h c (by simp)
    have h2 := flat_len cs (fun d hd => h d (by simp [hd]))
    simp only [List.flatMap_cons, List.length_append, List.length_cons]
    omega
theorem line_len (x : Sc) : (lineS x).length ≤ 200 := by
  by_cases h : faultR [x] = 0
  · obtain ⟨h1, h2, h3⟩ := fault_ok x h
    have e1 : x.nm.data.toList.length = x.nm.size := rfl
    have h4 := flat_len x.cols (fun c hc => by
      obtain ⟨i, hi⟩ := List.mem_iff_getElem?.1 hc
      exact colL_len c (h3 i c hi).1)
    unfold lineS
    rw [if_pos h]
    simp only [List.length_append, List.length_cons, List.length_nil, e1]
    omega
  · unfold lineS
    rw [if_neg h]
    simp

section
variable {H : Type} {enc : TypeId × Value → H}
theorem open_sc {W : World} {base : Nat} {v : Value} {d : DataW H} {p : List MemPlace} {r : Reach} {b0 : Nat} (h : DataW.Trod enc Tryd.prog W base (fun _ => true) true 34 v d p) (hok : Value.okWide Tryd.prog W r b0 34 v) :
    ∃ e : WS, v = .agg #[.string e.nm, e.v] ∧ WS.Ok W e := by
  obtain ⟨cs, rfl, _⟩ := okWide_struct fields_Sc hok
  obtain ⟨fuel, hf⟩ := h
  obtain ⟨e, he, hk⟩ := trod_Sc hf
  refine ⟨e, ?_, hk⟩
  have h2 : cs.toList = [.string e.nm, e.v] := by simpa [Value.cells] using he
  congr 1
  apply Array.ext'
  exact h2
end
theorem ok_later {w w' : World} {e : WS} (h : WS.Ok w e) (hb : Below w.heap.size w w') : WS.Ok w' e := by
  obtain ⟨h1, h2, h3, h4⟩ := h
  exact ⟨h1, h2, h3, (CellsQ.below h4 hb).imp (fun k _ hk => Nat.lt_of_lt_of_le hk hb.size)⟩
theorem weak_one {w : World} {e : WS} (h : WS.Ok w e) : WeakS (w.alloc (.cells #[.string e.nm, e.v] 34)) (some ⟨w.heap.size, 0, none⟩) [e] := by
  intro i e' hi
  cases i with
  | zero =>
    have he : e = e' := by simpa using hi
    subst he
    refine ⟨ok_later h (one_new _ _), _, rfl, ?_, ?_, ?_⟩
    · simp [Addr.add]
    · rw [show ((⟨w.heap.size, 0, none⟩ : Addr).add (0 * 2)) = ⟨w.heap.size, 0, none⟩ from by simp [Addr.add]]
      exact new_cell _ _ _ 0 _ rfl
    · rw [show ((⟨w.heap.size, 0, none⟩ : Addr).add (0 * 2)) = ⟨w.heap.size, 0, none⟩ from by simp [Addr.add]]
      exact new_cell _ _ _ 1 _ rfl
  | succ i => simp at hi

set_option maxRecDepth 100000 in
set_option maxHeartbeats 4000000 in
theorem schemaLines_all (e : WS) (s : ByteArray) (w : World) (hm : MV w) (he : WS.Ok w e) :
    Calls Tryd.prog 5 #[.agg #[.string e.nm, e.v], .string s] w fun e w' => e = .returned (.bool true) ∧ Below w.heap.size w w' := by
  have HK := Lib.hid (fun (W : World) (hb : Below w.heap.size w W) => known7 W (hm.later hb))
  have HM := Lib.hid (fun (W : World) (hb : Below w.heap.size w W) => hm.later hb)
  have hfw := s_few (some ⟨w.heap.size + 1, 0, none⟩) [e] 1 1 ((w.alloc (.cells #[.string e.nm, e.v] 34)).alloc (.cells #[.string e.nm, e.v] 34)) rfl (by unfold maxLen; omega) (by
    have h := weak_one (ok_later he (one_new w (.cells #[.string e.nm, e.v] 34)))
    rw [World.size_alloc] at h
    exact h)
  obtain ⟨nm, A, cap, cs⟩ := e
  have ev : (WS.v ⟨nm, A, cap, cs⟩) = .slice A cs.length cap := rfl
  rw [ev] at hfw ⊢
  have HF := Lib.hid hfw
  obtain ⟨W0, hW0⟩ : ∃ W0, W0 = (w.alloc (.cells #[.string nm, .slice A cs.length cap] 34)).alloc (.cells #[.string nm, .slice A cs.length cap] 34) := ⟨_, rfl⟩
  have hb0 : Below w.heap.size w W0 := by rw [hW0]; exact two_new _ _ _
  have k0 : W0.cell? ⟨w.heap.size, 0, none⟩ = some (.string nm) := by rw [hW0]; simp [go_sem]
  have k1 : W0.cell? ⟨w.heap.size, 1, none⟩ = some (.slice A cs.length cap) := by rw [hW0]; simp [go_sem]
  dsimp only at hW0 HF
  rw [← hW0] at HF
  have HB0 := Lib.hid hb0
  have K0 := Lib.hid k0
  have K1 := Lib.hid k1
  have HW0 := Lib.hid hW0
  rcases Bool.eq_false_or_eq_true (fewS [⟨nm, A, cap, cs⟩]) with hf | hf
  · rw [hf] at HF
    have hc20 : cs.length ≤ 20 := (((fewS_iff _).1 hf).2 ⟨nm, A, cap, cs⟩ (List.mem_singleton.2 rfl)).1
    obtain ⟨o1, o2, o3, o4⟩ := he
    have hv : IsCols w (fun k => k < w.heap.size) (.slice A cs.length cap) cs := ⟨by omega, A, cap, rfl, o2, o3, o4⟩
    have HV := Lib.hid hv
    clear hm hfw hf o1 o2 o3 o4 hv hb0 k0 k1 hW0 ev
    by_cases h400 : 400 < s.size
    · go_enter Tryd.func5, Tryd.ntmps5
      go_wp2_with fail
      rw [← HW0.out]
      refine HF.out.mono ?_
      rintro e w1 ⟨rfl, rfl⟩
      go_wp2_with fail
      refine (HK.out _ HB0.out).mono ?_
      rintro e w5 ⟨rfl, hb5⟩
      go_wp2
      go_ret
      exact ⟨rfl, HB0.out.trans (hb5.mono HB0.out.size)⟩
    have hs4 : s.size ≤ 400 := by omega
    obtain ⟨L, hL⟩ : ∃ L : ByteArray, L = ⟨(lineS ⟨nm, cs⟩).toArray⟩ := ⟨_, rfl⟩
    have hLs : L.size ≤ 200 := by rw [hL]; exact line_len ⟨nm, cs⟩
    have HSL := Lib.hid (fun (W : World) (hb : Below w.heap.size w W) => s_line _ ⟨nm, cs⟩ (.slice A cs.length cap) W (HV.out.below hb))
    have HRL := Lib.hid (fun (W : World) (hb : Below w.heap.size w W) => ref_line _ ⟨nm, cs⟩ (.slice A cs.length cap) W (HV.out.below hb))
    rw [← hL] at HSL HRL
    have HL := Lib.hid hL
    have HRL2 : Hid (lineS ⟨nm, cs⟩ ≠ [] → readS L = (⟨nm, cs⟩, 0)) := Lib.hid (fun h => by rw [hL]; exact read_line _ h)
    have rl : (L.toList == L.toList) = true := by simp
    -- what is read of the line that came
    have HSR := Lib.hid (fun (W : World) (hb : Below w.heap.size w W) => s_read s W (by omega) (HM.out W hb))
    have HRR := Lib.hid (fun (W : World) => ref_read s W)
    rw [← read_alike s hs4] at HRR
    have HLR := Lib.hid (line_read s)
    obtain ⟨Z, hZ⟩ : ∃ Z, readS s = Z := ⟨_, rfl⟩
    rw [hZ] at HSR HRR HLR
    clear hL hZ
    obtain ⟨⟨nmZ, csZ⟩, er⟩ := Z
    dsimp only at HSR HRR HLR
    have re : (er == er) = true := by simp
    -- the end, from the reading on
    have hend : ∀ (W : World), Below w.heap.size w W → Calls Tryd.prog 7 #[] W fun e w' => e = .returned (.bool true) ∧ Below W.heap.size W w' := HK.out
    have HEND := Lib.hid hend
    clear hend
    go_enter Tryd.func5, Tryd.ntmps5
    go_wp2_with fail
    rw [← HW0.out]
    refine HF.out.mono ?_
    rintro e w1 ⟨rfl, rfl⟩
    have k0 := K0.out
    have k1 := K1.out
    go_wp2_with fail
    refine (HSL.out _ HB0.out).mono ?_
    rintro e w2 ⟨rfl, hb2⟩
    have HB2 := Lib.hid (HB0.out.trans (hb2.mono HB0.out.size))
    have k02 := cell_lift K0.out hb2
    have k12 := cell_lift K1.out hb2
    have K02 := Lib.hid k02
    have K12 := Lib.hid k12
    clear hb2 k0 k1
    go_wp2_with fail
    refine (HRL.out _ HB2.out).mono ?_
    rintro e w3 ⟨rfl, hb3⟩
    have HB3 := Lib.hid (HB2.out.trans (hb3.mono HB2.out.size))
    have k03 := cell_lift K02.out hb3
    have k13 := cell_lift K12.out hb3
    have K03 := Lib.hid k03
    have K13 := Lib.hid k13
    clear hb3 k02 k12
    have hfin : ∀ (W : World) (K : Prop), Below w.heap.size w W → True := fun _ _ _ => trivial
    clear hfin
    by_cases hne : lineS ⟨nm, cs⟩ = []
    · have bl : (L.toList == []) = true := by rw [HL.out, ByteArray.toList_eq, hne]; rfl
      have bl2 : (L.toList != []) = false := by unfold bne; rw [bl]; rfl
      have HB6 : Hid (Below w.heap.size w w3) := HB3
      clear hne
      go_wp2_with fail
      refine (HSR.out _ HB6.out).mono ?_
      rintro e w7 ⟨vz, rfl, hvz, hb7⟩
      have HB7 := Lib.hid (HB6.out.trans (hb7.mono HB6.out.size))
      have HVZ := Lib.hid hvz
      obtain ⟨_, Az, cz, rfl, _⟩ := hvz
      obtain ⟨W7, hW7⟩ : ∃ W7, W7 = w7.alloc (.cells #[.string nmZ, .slice Az csZ.length cz] 34) := ⟨_, rfl⟩
      have hbw7 : Below w7.heap.size w7 W7 := by rw [hW7]; exact one_new _ _
      have z0 : W7.cell? ⟨w7.heap.size, 0, none⟩ = some (.string nmZ) := by rw [hW7]; exact new_cell _ _ _ 0 _ rfl
      have z1 : W7.cell? ⟨w7.heap.size, 1, none⟩ = some (.slice Az csZ.length cz) := by rw [hW7]; exact new_cell _ _ _ 1 _ rfl
      have Z0 := Lib.hid z0
      have Z1 := Lib.hid z1
      have HBW7 := Lib.hid (HB7.out.trans (hbw7.mono HB7.out.size))
      have HVZ7 := Lib.hid (HVZ.out.below hbw7)
      have HW7 := Lib.hid hW7
      clear hb7 hbw7 z0 z1 hW7
      go_wp2_with fail
      rw [← HW7.out]
      refine (HRR.out W7).mono ?_
      rintro e w8 ⟨vw, rfl, hvw, hb8⟩
      have HB8 := Lib.hid (HBW7.out.trans (hb8.mono HBW7.out.size))
      have HVW := Lib.hid hvw
      obtain ⟨_, Aw, cw, rfl, _⟩ := hvw
      have y0 := cell_lift Z0.out hb8
      have y1 := cell_lift Z1.out hb8
      have Y0 := Lib.hid y0
      have Y1 := Lib.hid y1
      have HVZ8 := Lib.hid (HVZ7.out.below hb8)
      obtain ⟨W8, hW8⟩ : ∃ W8, W8 = w8.alloc (.cells #[.string nmZ, .slice Aw csZ.length cw] 34) := ⟨_, rfl⟩
      have hbw8 : Below w8.heap.size w8 W8 := by rw [hW8]; exact one_new _ _
      have HBW8 := Lib.hid (HB8.out.trans (hbw8.mono HB8.out.size))
      have HVZW := Lib.hid (HVZ8.out.below hbw8)
      have HVWW := Lib.hid (HVW.out.below hbw8)
      have zz0 := cell_lift Y0.out hbw8
      have zz1 := cell_lift Y1.out hbw8
      have ZZ0 := Lib.hid zz0
      have ZZ1 := Lib.hid zz1
      have HW8 := Lib.hid hW8
      have v0 : W8.cell? ⟨w8.heap.size, 0, none⟩ = some (.string nmZ) := by rw [hW8]; exact new_cell _ _ _ 0 _ rfl
      have v1 : W8.cell? ⟨w8.heap.size, 1, none⟩ = some (.slice Aw csZ.length cw) := by rw [hW8]; exact new_cell _ _ _ 1 _ rfl
      have hz8 : w7.heap.size < w8.heap.size := World.block_lt_of_cell? w8 _ y0
      clear hb8 hbw8 hW8 zz0 zz1 v0 v1
      by_cases her : er = 0
      · subst her
        have hlz := HLR.out rfl
        have HSZ := Lib.hid (fun (W : World) (h : IsCols W (Behind w7) (.slice Az csZ.length cz) csZ) => s_line _ ⟨nmZ, csZ⟩ (.slice Az csZ.length cz) W h)
        obtain ⟨M, hM⟩ : ∃ M : ByteArray, M = ⟨(lineS ⟨nmZ, csZ⟩).toArray⟩ := ⟨_, rfl⟩
        have ml : (M.toList == s.toList) = true := by rw [hM, ByteArray.toList_eq, ByteArray.toList_eq, hlz]; simp
        have HSZ2 : Hid (∀ (W : World) (Q : Nat → Prop) (h : IsCols W Q (.slice Az csZ.length cz) csZ), Calls Tryd.prog 18 #[.agg #[.string nmZ, .slice Az csZ.length cz]] W fun e w' => e = .returned (.string M) ∧ Below W.heap.size W w') := Lib.hid (fun W Q h => by rw [hM]; exact s_line Q ⟨nmZ, csZ⟩ _ W h)
        clear hlz hM HSZ
        go_wp2_with fail
        rw [← HW8.out]
        refine (ref_same7 nmZ _ _ csZ _ _ W8 HVZW.out HVWW.out).mono ?_
        rintro e w9 ⟨rfl, hb9⟩
        have HB9 := Lib.hid (HBW8.out.trans (hb9.mono HBW8.out.size))
        have g0 := cell_lift ZZ0.out hb9
        have g1 := cell_lift ZZ1.out hb9
        have HVZ9 := Lib.hid (HVZW.out.below hb9)
        clear hb9
        go_wp2_with fail
        refine (HSZ2.out _ _ HVZ9.out).mono ?_
        rintro e w10 ⟨rfl, hb10⟩
        have HB10 := Lib.hid (HB9.out.trans (hb10.mono HB9.out.size))
        clear hb10 g0 g1
        go_wp2_with fail
        refine (HEND.out _ HB10.out).mono ?_
        rintro e w11 ⟨rfl, hb11⟩
        go_wp2
        go_ret
        exact ⟨rfl, HB10.out.trans (hb11.mono HB10.out.size)⟩
      · have e0 : (er == 0) = false := by simpa using her
        have e1 : (er != 0) = true := by unfold bne; rw [e0]; rfl
        clear her
        go_wp2_with fail
        rw [← HW8.out]
        refine (ref_same7 nmZ _ _ csZ _ _ W8 HVZW.out HVWW.out).mono ?_
        rintro e w9 ⟨rfl, hb9⟩
        have HB9 := Lib.hid (HBW8.out.trans (hb9.mono HBW8.out.size))
        clear hb9
        go_wp2_with fail
        refine (HEND.out _ HB9.out).mono ?_
        rintro e w11 ⟨rfl, hb11⟩
        go_wp2
        go_ret
        exact ⟨rfl, HB9.out.trans (hb11.mono HB9.out.size)⟩
    · have bl : (L.toList == []) = false := by rw [HL.out, ByteArray.toList_eq, beq_eq_false_iff_ne]; exact hne
      have bl2 : (L.toList != []) = true := by unfold bne; rw [bl]; rfl
      have HRD := Lib.hid (s_read L w3 (by omega) (HM.out _ HB3.out))
      rw [HRL2.out hne] at HRD
      dsimp only at HRD
      clear hne
      go_wp2_with fail
      refine HRD.out.mono ?_
      rintro e w4 ⟨vy, rfl, hvy, hb4⟩
      have HB4 := Lib.hid (HB3.out.trans (hb4.mono HB3.out.size))
      have k04 := cell_lift K03.out hb4
      have k14 := cell_lift K13.out hb4
      have K04 := Lib.hid k04
      have K14 := Lib.hid k14
      have HVY := Lib.hid hvy
      obtain ⟨_, Ay, cy, rfl, _⟩ := hvy
      obtain ⟨W4, hW4⟩ : ∃ W4, W4 = w4.alloc (.cells #[.string nm, .slice Ay cs.length cy] 34) := ⟨_, rfl⟩
      have hbw4 : Below w4.heap.size w4 W4 := by rw [hW4]; exact one_new _ _
      have x0 : W4.cell? ⟨w4.heap.size, 0, none⟩ = some (.string nm) := by rw [hW4]; exact new_cell _ _ _ 0 _ rfl
      have x1 : W4.cell? ⟨w4.heap.size, 1, none⟩ = some (.slice Ay cs.length cy) := by rw [hW4]; exact new_cell _ _ _ 1 _ rfl
      have HBW4 := Lib.hid (HB4.out.trans (hbw4.mono HB4.out.size))
      have k05 := cell_lift K04.out hbw4
      have k15 := cell_lift K14.out hbw4
      have HVY4 := Lib.hid (HVY.out.below hbw4)
      have HVX4 := Lib.hid (HV.out.below HBW4.out)
      have HW4 := Lib.hid hW4
      have hz4 : w.heap.size < w4.heap.size := World.block_lt_of_cell? w4 _ k04
      clear hb4 k03 k13 hbw4 hW4
      go_wp2_with fail
      rw [← HW4.out]
      refine (ref_same7 nm _ _ cs _ _ W4 HVX4.out HVY4.out).mono ?_
      rintro e w5 ⟨rfl, hb5⟩
      have HB6 := Lib.hid (HBW4.out.trans (hb5.mono HBW4.out.size))
      clear hb5 x0 x1 k05 k15 k04 k14
      go_wp2_with fail
      refine (HSR.out _ HB6.out).mono ?_
      rintro e w7 ⟨vz, rfl, hvz, hb7⟩
      have HB7 := Lib.hid (HB6.out.trans (hb7.mono HB6.out.size))
      have HVZ := Lib.hid hvz
      obtain ⟨_, Az, cz, rfl, _⟩ := hvz
      obtain ⟨W7, hW7⟩ : ∃ W7, W7 = w7.alloc (.cells #[.string nmZ, .slice Az csZ.length cz] 34) := ⟨_, rfl⟩
      have hbw7 : Below w7.heap.size w7 W7 := by rw [hW7]; exact one_new _ _
      have z0 : W7.cell? ⟨w7.heap.size, 0, none⟩ = some (.string nmZ) := by rw [hW7]; exact new_cell _ _ _ 0 _ rfl
      have z1 : W7.cell? ⟨w7.heap.size, 1, none⟩ = some (.slice Az csZ.length cz) := by rw [hW7]; exact new_cell _ _ _ 1 _ rfl
      have Z0 := Lib.hid z0
      have Z1 := Lib.hid z1
      have HBW7 := Lib.hid (HB7.out.trans (hbw7.mono HB7.out.size))
      have HVZ7 := Lib.hid (HVZ.out.below hbw7)
      have HW7 := Lib.hid hW7
      clear hb7 hbw7 z0 z1 hW7
      go_wp2_with fail
      rw [← HW7.out]
      refine (HRR.out W7).mono ?_
      rintro e w8 ⟨vw, rfl, hvw, hb8⟩
      have HB8 := Lib.hid (HBW7.out.trans (hb8.mono HBW7.out.size))
      have HVW := Lib.hid hvw
      obtain ⟨_, Aw, cw, rfl, _⟩ := hvw
      have y0 := cell_lift Z0.out hb8
      have y1 := cell_lift Z1.out hb8
      have Y0 := Lib.hid y0
      have Y1 := Lib.hid y1
      have HVZ8 := Lib.hid (HVZ7.out.below hb8)
      obtain ⟨W8, hW8⟩ : ∃ W8, W8 = w8.alloc (.cells #[.string nmZ, .slice Aw csZ.length cw] 34) := ⟨_, rfl⟩
      have hbw8 : Below w8.heap.size w8 W8 := by rw [hW8]; exact one_new _ _
      have HBW8 := Lib.hid (HB8.out.trans (hbw8.mono HB8.out.size))
      have HVZW := Lib.hid (HVZ8.out.below hbw8)
      have HVWW := Lib.hid (HVW.out.below hbw8)
      have zz0 := cell_lift Y0.out hbw8
      have zz1 := cell_lift Y1.out hbw8
      have ZZ0 := Lib.hid zz0
      have ZZ1 := Lib.hid zz1
      have HW8 := Lib.hid hW8
      have v0 : W8.cell? ⟨w8.heap.size, 0, none⟩ = some (.string nmZ) := by rw [hW8]; exact new_cell _ _ _ 0 _ rfl
      have v1 : W8.cell? ⟨w8.heap.size, 1, none⟩ = some (.slice Aw csZ.length cw) := by rw [hW8]; exact new_cell _ _ _ 1 _ rfl
      have hz8 : w7.heap.size < w8.heap.size := World.block_lt_of_cell? w8 _ y0
      clear hb8 hbw8 hW8 zz0 zz1 v0 v1
      by_cases her : er = 0
      · subst her
        have hlz := HLR.out rfl
        have HSZ := Lib.hid (fun (W : World) (h : IsCols W (Behind w7) (.slice Az csZ.length cz) csZ) => s_line _ ⟨nmZ, csZ⟩ (.slice Az csZ.length cz) W h)
        obtain ⟨M, hM⟩ : ∃ M : ByteArray, M = ⟨(lineS ⟨nmZ, csZ⟩).toArray⟩ := ⟨_, rfl⟩
        have ml : (M.toList == s.toList) = true := by rw [hM, ByteArray.toList_eq, ByteArray.toList_eq, hlz]; simp
        have HSZ2 : Hid (∀ (W : World) (Q : Nat → Prop) (h : IsCols W Q (.slice Az csZ.length cz) csZ), Calls Tryd.prog 18 #[.agg #[.string nmZ, .slice Az csZ.length cz]] W fun e w' => e = .returned (.string M) ∧ Below W.heap.size W w') := Lib.hid (fun W Q h => by rw [hM]; exact s_line Q ⟨nmZ, csZ⟩ _ W h)
        clear hlz hM HSZ
        go_wp2_with fail
        rw [← HW8.out]
        refine (ref_same7 nmZ _ _ csZ _ _ W8 HVZW.out HVWW.out).mono ?_
        rintro e w9 ⟨rfl, hb9⟩
        have HB9 := Lib.hid (HBW8.out.trans (hb9.mono HBW8.out.size))
        have g0 := cell_lift ZZ0.out hb9
        have g1 := cell_lift ZZ1.out hb9
        have HVZ9 := Lib.hid (HVZW.out.below hb9)
        clear hb9
        go_wp2_with fail
        refine (HSZ2.out _ _ HVZ9.out).mono ?_
        rintro e w10 ⟨rfl, hb10⟩
        have HB10 := Lib.hid (HB9.out.trans (hb10.mono HB9.out.size))
        clear hb10 g0 g1
        go_wp2_with fail
        refine (HEND.out _ HB10.out).mono ?_
        rintro e w11 ⟨rfl, hb11⟩
        go_wp2
        go_ret
        exact ⟨rfl, HB10.out.trans (hb11.mono HB10.out.size)⟩
      · have e0 : (er == 0) = false := by simpa using her
        have e1 : (er != 0) = true := by unfold bne; rw [e0]; rfl
        clear her
        go_wp2_with fail
        rw [← HW8.out]
        refine (ref_same7 nmZ _ _ csZ _ _ W8 HVZW.out HVWW.out).mono ?_
        rintro e w9 ⟨rfl, hb9⟩
        have HB9 := Lib.hid (HBW8.out.trans (hb9.mono HBW8.out.size))
        clear hb9
        go_wp2_with fail
        refine (HEND.out _ HB9.out).mono ?_
        rintro e w11 ⟨rfl, hb11⟩
        go_wp2
        go_ret
        exact ⟨rfl, HB9.out.trans (hb11.mono HB9.out.size)⟩
  · rw [hf] at HF
    clear hm hfw hf he hb0 k0 k1 hW0 ev
    go_enter Tryd.func5, Tryd.ntmps5
    go_wp2_with fail
    rw [← HW0.out]
    refine HF.out.mono ?_
    rintro e w1 ⟨rfl, rfl⟩
    go_wp2_with fail
    refine (HK.out _ HB0.out).mono ?_
    rintro e w5 ⟨rfl, hb5⟩
    go_wp2
    go_ret
    exact ⟨rfl, HB0.out.trans (hb5.mono HB0.out.size)⟩

theorem readable_L (t : TypeId) (h : t ∈ [34, 9]) : Tryd.prog.readableRec t = true ∧ t < Tryd.prog.types.size := by
  simp only [List.mem_cons, List.not_mem_nil, or_false] at h
  rcases h with rfl | rfl <;> exact ⟨by kernel_rfl, of_decide_eq_true (by kernel_rfl)⟩

set_option maxRecDepth 100000 in
theorem schemaLines_lifted (os : Os) (started : os.Started) (H : Type) (enc : TypeId × Value → H) :
    ReturnsInHanded {} Tryd.checked os 5 .any (fun w args => (Rows.schemaLinesSpec.pre enc Tryd.prog Tryd.f5 [] false w args ∧ laidMetH Tryd.prog Rows.schemaFitsRow.laid w) ∧ sizedMet enc Tryd.prog Tryd.f5 (OpenSpec.ofChange Rows.schemaLinesSpec) false w args)
      (Rows.schemaLinesSpec.post enc Tryd.prog Tryd.f5 false true false false) := by
  refine ret_and_shaped (C := Tryd.checked) (X := fun w _ => laidMetH Tryd.prog Rows.schemaFitsRow.laid w) Tryd.own started (by kernel_rfl) Tryd.func5
    (ChangeSpec.witness_shaped (enc := enc) (C := Tryd.checked) (os := os) (X := fun w _ => laidMetH Tryd.prog Rows.schemaFitsRow.laid w) false (wPin os) #[.agg #[.string ⟨#[]⟩, .slice none 0 0], .string ⟨#[]⟩] 8 rfl (World.shaped_of_RefB (by kernel_rfl) (by kernel_rfl)) (by kernel_rfl) (by kernel_rfl) (by kernel_rfl) (door_met7 os _)) ?_
  intro W base args ds gs before hval0 hW _ hsh
  have hval : ∀ (j : Nat) t v, Tryd.f5.params[j]? = some t → args[j]? = some v → Value.okWide Tryd.prog W .any base t v := hval0
  have hW' := hW
  obtain ⟨p, q, hA0, hV, rfl, hfz, hnd⟩ := hW
  have hA : DataW.TrodAll enc Tryd.prog W 0 (fun _ => true) true Tryd.f5.params.toList args.toList ds p := hA0
  rw [Tryd.params5] at hA hval
  obtain ⟨v0, v1, d0, d1, p0, p1, rfl, rfl, rfl, h0, h1⟩ := trodAll_two hA
  obtain ⟨rfl, rfl⟩ := trodVars_none hV
  obtain ⟨e, rfl, he⟩ := open_sc h0 (hval 0 34 v0 rfl rfl)
  obtain ⟨s, rfl, _, _, _⟩ := Go.ChangeMaps.open_string Tryd.underlying9 (hval 1 9 v1 rfl rfl) h1
  have hmv := mv_of_shaped hsh
  refine (schemaLines_all e s W hmv he).mono fun e W' ⟨he, hb⟩ => ?_
  subst he
  exact ⟨_, rfl, law_post Tryd.laidOut rfl hW' (by rw [Tryd.params5]; intro t ht; exact readable_L t (by simp at ht; rcases ht with rfl | rfl <;> simp)) (by kernel_rfl) Tryd.underlying4 rfl rfl rfl hb⟩

theorem schemaLines_holds : Rows.SchemaLinesSaid :=
  OpenClaim.holds_of_wide 5 Tryd.f5 rfl rfl rfl rfl rfl rfl rfl ⟨rfl, rfl, rfl, rfl, rfl⟩ rfl rfl rfl rfl rfl (by kernel_rfl) Tryd.func5 (by kernel_rfl)
    (of_decide_eq_true (by kernel_rfl)) (by unfold Func.isWrapper; first | (rw [if_pos (by decide +kernel)]; kernel_rfl) | (rw [if_neg (by decide +kernel)]; exact ⟨rfl, rfl⟩))
    (fun os started H enc _ => schemaLines_lifted os started H enc)

theorem schemaLines_card : Rows.SchemaLinesCardSaid :=
  Claim7.holds_tied_plain_at .later [] [.data, .pinned] true Rows.schemaLinesCard.stood.harness Rows.schemaLinesCard.stood.looks
    schemaLines_holds (fun _ h => by cases h) (by kernel_rfl) (fun _ h => by cases h) schemaLines_row_tie rfl ⟨rfl, rfl⟩ (by kernel_rfl) rfl
    (fun f fn hf hfn => by
      obtain rfl : f = 5 := Option.some.inj ((show Tryd.prog.funcNamed "verderer/verdererlaw07.SchemaLines" = some 5 by kernel_rfl).symm.trans hf) |>.symm
      obtain rfl : fn = Tryd.f5 := (Option.some.inj (Tryd.func5.symm.trans hfn)).symm
      exact ⟨by kernel_rfl, fun j t ht => by
        rw [Tryd.params5] at ht
        have hm : t ∈ [34, 9] := by simpa using Array.mem_of_getElem? ht
        have hall : ([34, 9].all fun u => !Tryd.prog.wantsStandIn u) = true := by kernel_rfl
        exact (show Tryd.prog.wantsStandIn t = false by simpa using List.all_eq_true.1 hall t hm)⟩)
    (by kernel_rfl)
end Go.Proofs.YtgifkigamebofaaDoor
