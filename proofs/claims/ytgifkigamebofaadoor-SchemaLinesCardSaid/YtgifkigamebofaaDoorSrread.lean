/-
  Read of the document's schema answers the kind whose line a text is, and an error where there is none; nothing that was there is changed.
  No condition.
-/
import Derived.Test.YtgifkigamebofaaDoorSsplit
namespace Go.Proofs.YtgifkigamebofaaDoor
open Go.RowKit

/-! ### boxes of the call's own -/
def Res0 (w W : World) : Prop := W.cell? ⟨w.heap.size, 0, none⟩ = some (.string ⟨#[]⟩) ∧ W.cell? ⟨w.heap.size, 1, none⟩ = some (.slice none 0 0) ∧ W.frozen? ⟨w.heap.size, 0, none⟩ = false ∧ W.frozen? ⟨w.heap.size, 1, none⟩ = false
theorem Res0.keep {w W W' : World} {h : Nat} (r : Res0 w W) (hb : Below h W W') (hh : w.heap.size < h) : Res0 w W' :=
  ⟨(hb.cell (p := ⟨w.heap.size, 0, none⟩) hh).trans r.1, (hb.cell (p := ⟨w.heap.size, 1, none⟩) hh).trans r.2.1, (hb.frozen (p := ⟨w.heap.size, 0, none⟩) hh).trans r.2.2.1, (hb.frozen (p := ⟨w.heap.size, 1, none⟩) hh).trans r.2.2.2⟩
def BoxC (w : World) (C : Nat) (c : Co) : Prop := w.cell? ⟨C, 0, none⟩ = some (.string c.nm) ∧ w.cell? ⟨C, 1, none⟩ = some (.int .i64 c.k) ∧ w.cell? ⟨C, 2, none⟩ = some (.bool c.nl) ∧ w.frozen? ⟨C, 1, none⟩ = false ∧ w.frozen? ⟨C, 2, none⟩ = false ∧ C < w.heap.size
theorem BoxC.below {w w' : World} {C : Nat} {c : Co} (h : BoxC w C c) (hb : Below w.heap.size w w') : BoxC w' C c := by
  obtain ⟨a, b, d, e, f, g⟩ := h
  exact ⟨(hb.cell (p := ⟨C, 0, none⟩) g).trans a, (hb.cell (p := ⟨C, 1, none⟩) g).trans b, (hb.cell (p := ⟨C, 2, none⟩) g).trans d, (hb.frozen (p := ⟨C, 1, none⟩) g).trans e, (hb.frozen (p := ⟨C, 2, none⟩) g).trans f, Nat.lt_of_lt_of_le g hb.size⟩
theorem BoxC.put1 {w : World} {C : Nat} {nm : ByteArray} {k : Int} {nl : Bool} (h : BoxC w C ⟨nm, k, nl⟩) (k' : Int) : BoxC (w.setCell ⟨C, 1, none⟩ (.int .i64 k')) C ⟨nm, k', nl⟩ := by
  obtain ⟨a, b, d, e, f, g⟩ := h
  refine ⟨?_, World.cell?_setCell_same _ _ _ b, ?_, ?_, ?_, by simp [World.setCell]; exact g⟩
  · rw [World.cell?_setCell_other _ _ _ _ (by simp)]; exact a
  · rw [World.cell?_setCell_other _ _ _ _ (by simp)]; exact d
  · rw [World.frozen?_setCell]; exact e
  · rw [World.frozen?_setCell]; exact f
theorem BoxC.put2 {w : World} {C : Nat} {nm : ByteArray} {k : Int} {nl : Bool} (h : BoxC w C ⟨nm, k, nl⟩) (b' : Bool) : BoxC (w.setCell ⟨C, 2, none⟩ (.bool b')) C ⟨nm, k, b'⟩ := by
  obtain ⟨a, b, d, e, f, g⟩ := h
  refine ⟨?_, ?_, World.cell?_setCell_same _ _ _ d, ?_, ?_, by simp [World.setCell]; exact g⟩
  · rw [World.cell?_setCell_other _ _ _ _ (by simp)]; exact a
  · rw [World.cell?_setCell_other _ _ _ _ (by simp)]; exact b
  · rw [World.frozen?_setCell]; exact e
  · rw [World.frozen?_setCell]; exact f

def restG (b : ByteArray) (c : Co) (q : Nat) : Co := if q = 1 then stepG b (stepG b (stepG b c 1) 2) 3 else if q = 2 then stepG b (stepG b c 2) 3 else if q = 3 then stepG b c 3 else c
theorem restG_step (b : ByteArray) (c : Co) (q : Nat) (h1 : 1 ≤ q) (h3 : q ≤ 3) : restG b c q = restG b (stepG b c (q : Int)) (q + 1) := by
  rcases (show q = 1 ∨ q = 2 ∨ q = 3 by omega) with rfl | rfl | rfl <;> rfl
theorem partsG_none (ps : List (List UInt8)) (j : Nat) (p : List UInt8) (hp : ps[j]? = some p) (hn : partG p = none) : partsG (ps.drop j) = none := by
  obtain ⟨h1, h2⟩ := List.getElem?_eq_some_iff.1 hp
  rw [List.drop_eq_getElem_cons h1, h2, partsG, hn]
theorem partsG_some (ps : List (List UInt8)) (j : Nat) (p : List UInt8) (c : Co) (hp : ps[j]? = some p) (hn : partG p = some c) : partsG (ps.drop j) = (partsG (ps.drop (j + 1))).map (c :: ·) := by
  obtain ⟨h1, h2⟩ := List.getElem?_eq_some_iff.1 hp
  rw [List.drop_eq_getElem_cons h1, h2, partsG, hn]
theorem readR_none (s : ByteArray) (h : 400 < s.size ∨ readF s.data.toList = none) : readR s = (noS, 7) := by
  unfold readR
  by_cases h1 : 400 < s.size
  · rw [if_pos h1]
  · rw [if_neg h1, h.resolve_left h1]
theorem readR_some (s : ByteArray) (x : Sc) (h1 : ¬ 400 < s.size) (h : readF s.data.toList = some x) : readR s = if lineS x = s.data.toList then (x, 0) else (noS, 7) := by
  unfold readR
  rw [if_neg h1, h]
theorem splitF_one (c : UInt8) (s : List UInt8) : ∃ p ps, splitF c s = p :: ps := by
  have h : ∀ (l : List UInt8) (acc : List (List UInt8)), acc ≠ [] → l.foldl (stepS c) acc ≠ [] := by
    intro l
    induction l with
    | nil => exact fun _ h => h
    | cons x l ih =>
      intro acc hacc
      refine ih _ ?_
      unfold stepS
      split <;> simp
  have h1 := h s [[]] (by simp)
  unfold splitF
  match hm : s.foldl (stepS c) [[]], h1 with
  | [], h1 => exact absurd rfl h1
  | p :: ps, _ => exact ⟨p, ps, rfl⟩

set_option maxRecDepth 100000 in
set_option maxHeartbeats 8000000 in
theorem ref_read (s : ByteArray) (w : World) :
    Calls Tryd.prog 21 #[.string s] w fun e w' => ∃ v, e = .returned (.tuple #[.agg #[.string (readR s).1.nm, v], .int .i64 (readR s).2]) ∧ IsCols w' (Behind w) v (readR s).1.cols ∧ Below w.heap.size w w' := by
  obtain ⟨RR, hRR⟩ : ∃ RR, readR s = RR := ⟨_, rfl⟩
  rw [hRR]
  have HRR := Lib.hid hRR
  clear hRR
  by_cases h400 : 400 < s.size
  · have hz : RR = (noS, 7) := by rw [← HRR.out]; exact readR_none s (.inl h400)
    subst hz
    go_enter Tryd.func21, Tryd.ntmps21
    go_wp2
    exact bodyPost_ret (v := .tuple #[.agg #[.string ⟨#[]⟩, .slice none 0 0], .int .i64 7]) (by simp [results, Tryd.results21, go_sem]) rfl ⟨_, rfl, IsCols.nil _ _, by repeat (first | exact one_new _ _ | (refine bsetG ?_ (by simp)))⟩
  have hs4 : s.size ≤ 400 := by omega
  have HSP := Lib.hid (ref_split s 32 (w.alloc (.cells #[.string ⟨#[]⟩, .slice none 0 0] 34)) (by omega))
  have hr0 : Res0 w (w.alloc (.cells #[.string ⟨#[]⟩, .slice none 0 0] 34)) := by refine ⟨?_, ?_, ?_, ?_⟩ <;> simp [go_sem]
  have HR0 := Lib.hid hr0
  obtain ⟨p0, ps, hps⟩ := splitF_one 32 s.data.toList
  rw [hps] at HSP
  have HPS := Lib.hid hps
  clear hr0 hps
  go_enter Tryd.func21, Tryd.ntmps21
  go_wp2_with fail
  refine HSP.out.mono ?_
  rintro e w1 ⟨v1, rfl, hown, hpos, hle, hpl, hb1⟩
  obtain ⟨gR, capR, rfl, hgR, hgl⟩ := hown.form hpos
  rw [World.size_alloc] at hgR
  have HR1 := Lib.hid (HR0.out.keep hb1 (by simp))
  have HB1 := Lib.hid ((one_new w _).trans (hb1.mono (by simp)))
  have HOW := Lib.hid hown
  have HPL := Lib.hid hpl
  have hs1 : w.heap.size < w1.heap.size := Nat.lt_of_lt_of_le (by simp) hb1.size
  clear hown hpl hb1
  cases ps with
  | nil =>
    have hz : RR = (noS, 7) := by rw [← HRR.out]; exact readR_none s (.inr (by unfold readF; rw [HPS.out]))
    subst hz
    obtain ⟨r0, r1, r2, r3⟩ := HR1.out
    go_wp2
    exact bodyPost_ret (v := .tuple #[.agg #[.string ⟨#[]⟩, .slice none 0 0], .int .i64 7]) (by simp [results, Tryd.results21, go_sem, r0, r1]) rfl ⟨_, rfl, IsCols.nil _ _, by repeat (first | exact HB1.out | (refine bsetG ?_ (Nat.le_refl _)))⟩
  | cons nm rest =>
    obtain ⟨n, hn⟩ : ∃ n, (p0 :: nm :: rest).length = n := ⟨_, rfl⟩
    rw [hn] at hpos hle ⊢
    have HN := Lib.hid hn
    have hn2 : 2 ≤ n := by rw [← hn]; simp
    have HRD : Hid (readF s.data.toList = (partsG rest).map fun cs => ⟨⟨nm.toArray⟩, cs⟩) := Lib.hid (by unfold readF; rw [HPS.out])
    obtain ⟨nmB, hnmB⟩ : ∃ nmB : ByteArray, nmB = ⟨nm.toArray⟩ := ⟨_, rfl⟩
    rw [← hnmB] at HRD
    have hc1 : w1.cell? ⟨gR, 1, none⟩ = some (.string nmB) := by rw [hnmB]; exact (HOW.out.get rfl 1 nm rfl).1
    clear hn hnmB
    obtain ⟨X, hX⟩ : ∃ X, X = w1.heap.size := ⟨_, rfl⟩
    obtain ⟨W2, hW2⟩ : ∃ W2, W2 = w1.alloc (.cells #[.string nmB, .slice none 0 0] 34) := ⟨_, rfl⟩
    have hBW : Below w.heap.size w W2 := by rw [hW2]; exact HB1.out.trans ((one_new _ _).mono HB1.out.size)
    have hB12 : Below w1.heap.size w1 W2 := by rw [hW2]; exact one_new _ _
    have hbox : BoxS W2 X nmB (.slice none 0 0) := by rw [hW2, hX]; refine ⟨?_, ?_, ?_, ?_, ?_⟩ <;> simp [go_sem]
    have hsW : W2.heap.size = X + 1 := by rw [hW2, hX]; simp
    have HR2 := Lib.hid (HR1.out.keep hB12 hs1)
    have HBW := Lib.hid hBW
    have HBX := Lib.hid hbox
    have hce : ∀ (j : Nat) (p : List UInt8), (p0 :: nm :: rest)[j]? = some p → W2.cell? ⟨gR, j, none⟩ = some (.string ⟨p.toArray⟩) := fun j p hp => (hB12.cell (p := ⟨gR, j, none⟩) hgl).trans (HOW.out.get rfl j p hp).1
    have HCE := Lib.hid hce
    rw [← hX] at hgl hs1
    clear hBW hB12 hbox hce
    go_wp2
    rw [← hW2, ← hX]
    have HX := Lib.hid hX
    have HW2 := Lib.hid hW2
    clear hX hW2 hc1
    go_loopw [6] (fun i wr => ∃ (k : Nat) (v : Value) (cs : List Co), 2 ≤ k ∧ k ≤ n ∧ i = .int .i64 k ∧ BoxS wr X nmB v ∧ OwnC wr (X + 1) v cs ∧ cs.length ≤ k ∧ partsG rest = (partsG (rest.drop (k - 2))).map (cs ++ ·) ∧ Below X W2 wr) (fun i _ => n - (intOf i).toNat)
    case atStart => exact ⟨2, _, [], Nat.le_refl _, hn2, rfl, HBX.out, OwnC.nil _ _, by simp, by simp, Below.refl _ _⟩
    case round =>
      obtain ⟨wo, hwo⟩ : ∃ wo, wo = wr := ⟨_, rfl⟩
      subst hwo
      obtain ⟨k, v, cs, hk2, hk, rfl, hbx, hown, hcl, hpg, hb⟩ := hrel
      have HBK := Lib.hid hbx
      have HO := Lib.hid hown
      have HPG := Lib.hid hpg
      have HB := Lib.hid hb
      have hsz : X + 1 ≤ wo.heap.size := by rw [← hsW]; exact hb.size
      have HRO := Lib.hid (HR2.out.keep hb hs1)
      have HBO := Lib.hid (HBW.out.trans (hb.mono (by omega)))
      clear hbx hown hpg hb
      by_cases h1 : k < n
      · obtain ⟨p, hp⟩ : ∃ p, (p0 :: nm :: rest)[k]? = some p := ⟨_, List.getElem?_eq_getElem (by rw [HN.out]; exact h1)⟩
        have hp2 : rest[k - 2]? = some p := by
          obtain ⟨j, rfl⟩ : ∃ j, k = j + 2 := ⟨k - 2, by omega⟩
          simpa using hp
        have hct : wo.cell? ⟨gR, k, none⟩ = some (.string ⟨p.toArray⟩) := (HB.out.cell (p := ⟨gR, k, none⟩) hgl).trans (HCE.out k p hp)
        have hpl : p.length ≤ 1000 := HPL.out p (List.mem_iff_getElem?.2 ⟨k, hp⟩)
        have HSQ := Lib.hid (ref_split ⟨p.toArray⟩ 58 wo (by exact hpl))
        have HP2 := Lib.hid hp2
        obtain ⟨pB, hpB⟩ : ∃ pB : ByteArray, pB = ⟨p.toArray⟩ := ⟨_, rfl⟩
        obtain ⟨S, hS⟩ : ∃ S, splitF 58 p = S := ⟨_, rfl⟩
        rw [show (⟨p.toArray⟩ : ByteArray).data.toList = p from rfl, hS, ← hpB] at HSQ
        rw [← hpB] at hct
        have HS := Lib.hid hS
        clear hp hp2 hS hpB
        go_wp2_with fail
        refine HSQ.out.mono ?_
        rintro e w3 ⟨v3, rfl, hown3, hpos3, hle3, _, hb3⟩
        obtain ⟨g3, cap3, rfl, hg3, hgl3⟩ := hown3.form hpos3
        have HO3 := Lib.hid hown3
        have HB3 := Lib.hid hb3
        have hsz3 := hb3.size
        have HR3 := Lib.hid (HRO.out.keep hb3 (by omega))
        clear hown3 hb3
        by_cases h2 : S.length = 2
        · obtain ⟨a, b, rfl⟩ : ∃ a b, S = [a, b] := by
            match S, h2 with
            | [a, b], _ => exact ⟨a, b, rfl⟩
          have hpc : partG p = some (colG ⟨a.toArray⟩ ⟨b.toArray⟩) := by unfold partG; rw [HS.out]
          obtain ⟨aB, haB⟩ : ∃ aB : ByteArray, aB = ⟨a.toArray⟩ := ⟨_, rfl⟩
          obtain ⟨bB, hbB⟩ : ∃ bB : ByteArray, bB = ⟨b.toArray⟩ := ⟨_, rfl⟩
          have q0 : w3.cell? ⟨g3, 0, none⟩ = some (.string aB) := by rw [haB]; exact (HO3.out.get rfl 0 a rfl).1
          have q1 : w3.cell? ⟨g3, 1, none⟩ = some (.string bB) := by rw [hbB]; exact (HO3.out.get rfl 1 b rfl).1
          rw [← haB, ← hbB] at hpc
          have hpg2 : partsG rest = (partsG (rest.drop (k + 1 - 2))).map ((cs ++ [colG aB bB]) ++ ·) := by
            rw [HPG.out, partsG_some rest (k - 2) p _ HP2.out hpc, show k - 2 + 1 = k + 1 - 2 from by omega, Option.map_map]
            congr 1
            funext l
            simp
          have HPG2 := Lib.hid hpg2
          have Q1 := Lib.hid q1
          obtain ⟨D, hD⟩ : ∃ D, colG aB bB = D := ⟨_, rfl⟩
          have hD0 : restG bB ⟨aB, 0, false⟩ 1 = D := hD
          rw [hD] at HPG2
          have HD0 := Lib.hid hD0
          obtain ⟨C, hC⟩ : ∃ C, C = w3.heap.size := ⟨_, rfl⟩
          obtain ⟨W4, hW4⟩ : ∃ W4, W4 = w3.alloc (.cells #[.string aB, .int .i64 0, .bool false] 49) := ⟨_, rfl⟩
          have hbc : BoxC W4 C ⟨aB, 0, false⟩ := by rw [hW4, hC]; refine ⟨?_, ?_, ?_, ?_, ?_, ?_⟩ <;> simp [go_sem]
          have hB34 : Below w3.heap.size w3 W4 := by rw [hW4]; exact one_new _ _
          have hsW4 : W4.heap.size = C + 1 := by rw [hW4, hC]; simp
          have HBC := Lib.hid hbc
          have HB34 := Lib.hid hB34
          have q14 : W4.cell? ⟨g3, 1, none⟩ = some (.string bB) := cell_lift Q1.out hB34
          have Q14 := Lib.hid q14
          rw [← hC] at hgl3
          clear hpc haB hbB hpg2 hD hD0 hbc hB34 q1 q14 HSQ
          go_wp2
          rw [← hW4, ← hC]
          have HC := Lib.hid hC
          have HW4 := Lib.hid hW4
          clear hC hW4 q0
          go_loopw [9] (fun i wq => ∃ (q : Nat) (cur : Co), 1 ≤ q ∧ q ≤ 4 ∧ i = .int .i64 q ∧ BoxC wq C cur ∧ restG bB cur q = D ∧ Below C W4 wq) (fun i _ => 4 - (intOf i).toNat)
          case atStart => exact ⟨1, _, by omega, by omega, rfl, HBC.out, HD0.out, Below.refl _ _⟩
          case round =>
            obtain ⟨wi, hwi⟩ : ∃ wi, wi = wr := ⟨_, rfl⟩
            subst hwi
            obtain ⟨q, cur, hq1, hq4, rfl, hbc, hrg, hbq⟩ := hrel
            have HBQ := Lib.hid hbq
            have HBCQ := Lib.hid hbc
            have HRG := Lib.hid hrg
            have hszq : C + 1 ≤ wi.heap.size := by rw [← hsW4]; exact hbq.size
            have t1 : wi.cell? ⟨g3, 1, none⟩ = some (.string bB) := (hbq.cell (p := ⟨g3, 1, none⟩) hgl3).trans Q14.out
            have T1 := Lib.hid t1
            clear hbc hrg hbq
            by_cases h5 : q ≤ 3
            · have hrs := restG_step bB cur q hq1 h5
              rw [HRG.out] at hrs
              have HRS := Lib.hid hrs
              have HKD := Lib.hid (fun W : World => ref_kind (q : Int) W (by omega) (by omega))
              obtain ⟨wd, hwd⟩ : ∃ wd, wordR (q : Int) = wd := ⟨_, rfl⟩
              have hwz := word_size (q : Int)
              rw [hwd] at HKD hwz
              have hst : stepG bB cur (q : Int) = if sameNm bB wd = true ∨ sameNm bB (wd ++ ⟨#[63]⟩) = true then ⟨cur.nm, (q : Int), sameNm bB (wd ++ ⟨#[63]⟩)⟩ else cur := by unfold stepG; rw [hwd]
              have HST := Lib.hid hst
              have o1 : ¬ 9223372036854775807 < wd.size + 1 := by omega
              obtain ⟨z1, hz1⟩ : ∃ z1, sameNm bB wd = z1 := ⟨_, rfl⟩
              obtain ⟨z2, hz2⟩ : ∃ z2, sameNm bB (wd ++ ⟨#[63]⟩) = z2 := ⟨_, rfl⟩
              rw [hz1, hz2] at HST
              have bz1 : (bB.toList == wd.toList) = z1 := hz1
              have bz2 : (bB.toList == (wd ++ ⟨#[63]⟩ : ByteArray).toList) = z2 := hz2
              obtain ⟨XE, xf, hXN, hX1, hX0, hX2⟩ := ext_class wi.heap.size wi (Nat.le_refl _)
              have HX1 := Lib.hid hX1
              have HX2 := Lib.hid hX2
              have hin := hX0 wi.drew (Below.drew (Below.refl _ _))
              have f1 := fun e => cell_lift T1.out (HX1.out e)
              have BZ2 := Lib.hid bz2
              clear hX0 hX1 hX2 hrs hwd hst hz1 hz2 t1
              cases z1
              all_goals cases z2
              all_goals
                go_wp2
                refine wp_region_quiet (C := fun W => ∃ e, W = xf e) (by kernel_rfl) (by kernel_rfl) hin ?_
                clear hin
                dsimp only
                repeat (go_big_quiet_step ((go_at_call 33; refine (HKD.out _).mono ?_; rintro e w5 ⟨rfl, hb5⟩; exact ⟨rfl, HX2.out _ _ hb5⟩)))
                refine wpQuiet_nil ?_
                intro w5 hW5
                obtain ⟨ee, hW5⟩ := hW5
                have hb5 : Below wi.heap.size wi w5 := by rw [hW5]; exact HX1.out ee
                clear hW5 f1
                have HB5 := Lib.hid hb5
                have HBC5 := Lib.hid (HBCQ.out.below hb5)
                have HBQ5 := Lib.hid (HBQ.out.trans (hb5.mono (by omega)))
                have t5 : w5.cell? ⟨g3, 1, none⟩ = some (.string bB) := cell_lift T1.out hb5
                have T5 := Lib.hid t5
                have hsz5 := hb5.size
                clear hb5 t5
              · have hsg : stepG bB cur (q : Int) = cur := by rw [HST.out, if_neg (by simp)]
                have HSG := Lib.hid hsg
                clear hsg
                go_wp2
                go_roundw
                case rel => exact ⟨q + 1, cur, by omega, by omega, by go_num, HBC5.out, by rw [HRS.out, HSG.out], HBQ5.out⟩
                case measure => simp [intOf]; omega
              all_goals
                obtain ⟨nmc, kc, nlc⟩ := cur
                obtain ⟨y0, y1, y2, y3, y4, y5⟩ := HBC5.out
                obtain ⟨W6, hW6⟩ : ∃ W6, W6 = w5.setCell ⟨C, 1, none⟩ (.int .i64 (q : Int)) := ⟨_, rfl⟩
                have HBC6 : Hid (BoxC W6 C ⟨nmc, (q : Int), nlc⟩) := Lib.hid (by rw [hW6]; exact HBC5.out.put1 _)
                have HBQ6 : Hid (Below C W4 W6) := Lib.hid (by rw [hW6]; exact HBQ5.out.setCell (p := ⟨C, 1, none⟩) (Nat.le_refl _) _)
                have HT6 : Hid (W6.cell? ⟨g3, 1, none⟩ = some (.string bB)) := Lib.hid (by rw [hW6, World.cell?_setCell_other _ _ _ _ (by simp <;> omega)]; exact T5.out)
                have hsz6 : W6.heap.size = w5.heap.size := by rw [hW6]; simp [World.setCell]
                go_wp2
                rw [← hW6]
                clear y0 y1 y2 y3 y4 hW6
                obtain ⟨y0, y1, y2, y3, y4, y6⟩ := HBC6.out
                have t6 := HT6.out
                go_region_held3 (fun w' => w'.cell? ⟨g3, 1, none⟩ = some (.string bB)) (first | go_keep | exact (World.cell?_setCell_other _ _ _ _ (by simp <;> omega)).trans t7)
                  ((go_at_call 33; refine (HKD.out _).mono ?_; rintro e w7 ⟨rfl, hb7⟩; have hb8 : Below W6.heap.size W6 w7 := below_of_drew hb7; have t7 := cell_lift HT6.out hb8; have HBC7 := Lib.hid (HBC6.out.below hb8); have u2 := HBC7.out.2.2.1; have u4 := HBC7.out.2.2.2.2.1; have HBQ7 := Lib.hid (HBQ6.out.trans (hb8.mono (by rw [hsz6]; omega)))))
                all_goals
                  have hsg := HST.out
                  rw [if_pos (by simp)] at hsg
                  have HSG := Lib.hid hsg
                  clear hsg
                  go_wp2
                  go_roundw
                  case rel => exact ⟨q + 1, _, by omega, by omega, by go_num, HBC7.out.put2 _, by rw [HRS.out, HSG.out], HBQ7.out.setCell (p := ⟨C, 2, none⟩) (Nat.le_refl _) _⟩
                  case measure => simp [intOf]; omega
            · obtain rfl : q = 4 := by omega
              have hcD : cur = D := HRG.out
              subst hcD
              have hb3i : Below w3.heap.size w3 wi := HB34.out.trans (by rw [← HC.out]; exact HBQ.out)
              have hbxi := (HBK.out.below HB3.out).below hb3i
              have hoi := (HO.out.below HB3.out).below hb3i
              have hbw : Below X W2 wi := HB.out.trans ((HB3.out.trans (hb3i.mono hsz3)).mono (by omega))
              have HBXI := Lib.hid hbxi
              have HOI := Lib.hid hoi
              have HBWI := Lib.hid hbw
              obtain ⟨A0, c0, hv0, _, _, _⟩ := hoi.slice (fun _ => True) (fun _ _ => trivial)
              subst hv0
              obtain ⟨x0, x1, x2, x3, x4⟩ := hbxi
              obtain ⟨y0, y1, y2, y3, y4, y5⟩ := HBCQ.out
              have HL4 : Hid ((cs ++ [cur]).length = cs.length + 1) := Lib.hid (by simp)
              clear hb3i hoi hbw
              go_wp2_with (at_builtin; go_must (refine wp_append_C _ rfl _ _ rfl (X + 1) (.slice A0 cs.length c0) cs [cur] rfl (HOI.out.alloc _) (some ⟨wi.heap.size, 0, none⟩) 1 1 rfl rfl (fun _ => True) (c_lit1 wi cur) (flatC_one _) (by simp only [List.length_cons, List.length_nil]; omega) (by simp only [World.size_alloc]; omega) ?_; intro v4 w4 hown4 hb4 _ _; have HX4 := Lib.hid ((HBXI.out.below (one_new wi (.cells #[.string cur.nm, .int .i64 cur.k, .bool cur.nl] 49))).keep (hb4.block _ (Nat.lt_succ_self _)) hb4.size); have HO4 := Lib.hid hown4; have HB4 := Lib.hid hb4; obtain ⟨A4, c4, hv4, _⟩ := hown4.slice (fun _ => True) (fun _ _ => trivial); rw [HL4.out] at hv4; subst hv4; obtain ⟨z0, z1, z2, z3, z4⟩ := HX4.out; clear hown4 hb4))
              go_roundw
              case rel =>
                refine ⟨k + 1, _, cs ++ [cur], by omega, by omega, by go_num, HX4.out.put _, HO4.out.keepB (fun j hj _ => Below.heap_setCell w4 ⟨X, 1, none⟩ _ j (by show j ≠ X; omega)), by simp; omega, HPG2.out, ?_⟩
                exact (HBWI.out.trans (((one_new wi _).mono (by omega)).trans (HB4.out.mono (by omega)))).setCell (p := ⟨X, 1, none⟩) (Nat.le_refl _) _
              case measure => simp [intOf]; omega
        · have hpc : partG p = none := by
            unfold partG
            rw [HS.out]
            match S, h2 with
            | [], _ => rfl
            | [_], _ => rfl
            | [_, _], h => exact absurd rfl h
            | _ :: _ :: _ :: _, _ => rfl
          have hz : RR = (noS, 7) := by
            rw [← HRR.out]
            exact readR_none s (.inr (by rw [HRD.out, HPG.out, partsG_none rest (k - 2) p HP2.out hpc]; rfl))
          subst hz
          have be : ((S.length : Int) == 2) = false := by rw [beq_eq_false_iff_ne]; omega
          have bn : ((S.length : Int) != 2) = true := by unfold bne; rw [be]; rfl
          obtain ⟨r0, r1, r2, r3⟩ := HR3.out
          have HB9 := Lib.hid (HBO.out.trans (HB3.out.mono (by omega)))
          have hz9 : w.heap.size < w3.heap.size := by omega
          clear hpc h2
          go_wp2
          exact bodyPost_ret (v := .tuple #[.agg #[.string ⟨#[]⟩, .slice none 0 0], .int .i64 7]) (by simp [results, Tryd.results21, go_sem, r0, r1]) rfl ⟨_, rfl, IsCols.nil _ _, by repeat (first | exact HB9.out | (refine bsetG ?_ (Nat.le_refl _)))⟩
      · obtain rfl : k = n := by omega
        have hrf : readF s.data.toList = some ⟨nmB, cs⟩ := by
          have hrl : rest.length = k - 2 := by have := HN.out; simp only [List.length_cons] at this; omega
          rw [HRD.out, HPG.out, List.drop_of_length_le (by omega)]
          simp [partsG]
        have hrr := readR_some s ⟨nmB, cs⟩ h400 hrf
        rw [HRR.out] at hrr
        have HRR2 := Lib.hid hrr
        have hl1 := own_cols (w0 := w) HO.out (by omega) (by omega)
        have HLN := Lib.hid (ref_line _ ⟨nmB, cs⟩ v wo hl1)
        have HLS := Lib.hid (show lineS ⟨nmB, cs⟩ = lineS ⟨nmB, cs⟩ from rfl)
        obtain ⟨L, hL⟩ : ∃ L : ByteArray, L = ⟨(lineS ⟨nmB, cs⟩).toArray⟩ := ⟨_, rfl⟩
        rw [← hL] at HLN
        have HL := Lib.hid hL
        obtain ⟨A0, c0, hv0, _, _, _⟩ := HO.out.slice (fun _ => True) (fun _ _ => trivial)
        subst hv0
        obtain ⟨x0, x1, x2, x3, x4⟩ := HBK.out
        clear hrf hrr hl1 hL HLS
        by_cases hq : lineS ⟨nmB, cs⟩ = s.data.toList
        · have hz : RR = (⟨nmB, cs⟩, 0) := by rw [HRR2.out, if_pos hq]
          subst hz
          have bl : (L.toList == s.toList) = true := by rw [HL.out, ByteArray.toList_eq, ByteArray.toList_eq]; simp [hq]
          clear hq
          go_wp2_with fail
          refine HLN.out.mono ?_
          rintro e w5 ⟨rfl, hb5⟩
          obtain ⟨r0, r1, r2, r3⟩ := HRO.out.keep hb5 (by omega)
          obtain ⟨u0, u1, u2, u3, u4⟩ := HBK.out.below hb5
          have HB9 := Lib.hid (HBO.out.trans (hb5.mono (by omega)))
          have hz9 : w.heap.size < w5.heap.size := Nat.lt_of_lt_of_le (by omega) hb5.size
          have hIC : IsCols w5 (fun j => w.heap.size < j) (.slice A0 cs.length c0) cs := by
            obtain ⟨A5, c5, hv5, hA5, hcap5, hcells5⟩ := (HO.out.below hb5).slice (fun j => w.heap.size < j) (fun j hj => by omega)
            exact ⟨by omega, A5, c5, hv5, hA5, hcap5, hcells5⟩
          have HIC := Lib.hid hIC
          clear hb5 hIC
          go_wp2
          exact bodyPost_ret (v := .tuple #[.agg #[.string nmB, .slice A0 cs.length c0], .int .i64 0]) (by simp [results, Tryd.results21, go_sem, r0, r1]) rfl ⟨_, rfl, ((HIC.out.keep (keep_set (by simp))).keep (keep_set (by simp))).imp (fun j _ hj => Nat.le_of_lt hj), by repeat (first | exact HB9.out | (refine bsetG ?_ (Nat.le_refl _)))⟩
        · have hz : RR = (noS, 7) := by rw [HRR2.out, if_neg hq]
          subst hz
          have bl : (L.toList == s.toList) = false := by
            rw [HL.out, ByteArray.toList_eq, ByteArray.toList_eq, beq_eq_false_iff_ne]
            simpa using hq
          clear hq
          go_wp2_with fail
          refine HLN.out.mono ?_
          rintro e w5 ⟨rfl, hb5⟩
          obtain ⟨r0, r1, r2, r3⟩ := HRO.out.keep hb5 (by omega)
          have HB9 := Lib.hid (HBO.out.trans (hb5.mono (by omega)))
          have hz9 : w.heap.size < w5.heap.size := Nat.lt_of_lt_of_le (by omega) hb5.size
          clear hb5
          go_wp2
          exact bodyPost_ret (v := .tuple #[.agg #[.string ⟨#[]⟩, .slice none 0 0], .int .i64 7]) (by simp [results, Tryd.results21, go_sem, r0, r1]) rfl ⟨_, rfl, IsCols.nil _ _, by repeat (first | exact HB9.out | (refine bsetG ?_ (Nat.le_refl _)))⟩
end Go.Proofs.YtgifkigamebofaaDoor
