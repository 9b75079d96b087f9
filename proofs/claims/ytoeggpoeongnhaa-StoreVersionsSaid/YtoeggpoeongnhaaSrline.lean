/-
  Line of the document's schema answers the line of a kind, at every kind; nothing where it can not be; nothing that was there is changed.
  No condition but that a kind has no more than a million columns.
-/
import Derived.Test.YtoeggpoeongnhaaSrchk
import Derived.Test.YtoeggpoeongnhaaSrfits
import Derived.Test.YtoeggpoeongnhaaSline
namespace Go.Proofs.Ytoeggpoeongnhaa
open Go.RowKit

theorem cell_lift {w W : World} {p : Addr} {v : Value} (h : w.cell? p = some v) (hb : Below w.heap.size w W) : W.cell? p = some v := (hb.cell (World.block_lt_of_cell? w _ h)).trans h
theorem line_cat3 (bs : List UInt8) (nm wd : ByteArray) : ((((⟨bs.toArray⟩ : ByteArray) ++ ⟨#[32]⟩) ++ nm) ++ ⟨#[58]⟩) ++ wd = ⟨(bs ++ ([32] ++ nm.data.toList ++ [58] ++ wd.data.toList)).toArray⟩ := by
  apply ByteArray.ext
  simp

set_option maxHeartbeats 400000 in
theorem ref_kind (k : Int) (w : World) (h1 : 1 ≤ k) (h3 : k ≤ 3) : Calls Try.prog 71 #[.int .i64 k] w fun e w' => e = .returned (.string (wordR k)) ∧ Below w.heap.size w w' := by
  rcases (show k = 1 ∨ k = 2 ∨ k = 3 by omega) with rfl | rfl | rfl
  all_goals
    clear h1 h3
    go_enter Try.func71, Try.ntmps71
    go_wp2
    go_ret
    exact ⟨rfl, one_new _ _⟩

set_option maxRecDepth 100000 in
set_option maxHeartbeats 4000000 in
theorem ref_line (Q : Nat → Prop) (x : Sc) (v : Value) (w : World) (hv : IsCols w Q v x.cols) :
    Calls Try.prog 27 #[.agg #[.string x.nm, v]] w fun e w' => e = .returned (.string ⟨(lineS x).toArray⟩) ∧ Below w.heap.size w w' := by
  have hv0 := hv.imp (Q' := fun _ => True) (fun _ _ _ => trivial)
  obtain ⟨hl, A, c, rfl, hA, hcap, hcs⟩ := hv
  have HV := Lib.hid hv0
  have HCS := Lib.hid (hcs.imp (Q' := fun _ => True) (fun _ _ _ => trivial))
  clear hv0 hcs hA
  have hF : ∀ W : World, Below w.heap.size w W → CellsQ W (fun _ => True) (some ⟨w.heap.size + 1, 0, none⟩) (flatS [(x.nm, .slice A x.cols.length c)]) → Calls Try.prog 70 #[.slice (some ⟨w.heap.size + 1, 0, none⟩) 1 1] W fun e w' => e = .returned (.int .i64 (faultR [x])) ∧ Below W.heap.size W w' :=
    fun W hb hc => ref_check (fun _ => True) _ [(x.nm, .slice A x.cols.length c)] [x] 1 1 W rfl (by decide) ⟨rfl, HV.out.below hb, trivial⟩ hc
  have HF := Lib.hid hF
  have hlit : CellsQ ((w.alloc (.cells #[.string x.nm, .slice A x.cols.length c] 52)).alloc (.cells #[.string x.nm, .slice A x.cols.length c] 52)) (fun _ => True) (some ⟨w.heap.size + 1, 0, none⟩) (flatS [(x.nm, .slice A x.cols.length c)]) := by
    have h := sc_lit1 (w.alloc (.cells #[.string x.nm, .slice A x.cols.length c] 52)) x.nm (.slice A x.cols.length c)
    rw [World.size_alloc] at h
    exact h
  have HLIT := Lib.hid hlit
  clear hF hlit
  by_cases h0 : faultR [x] = 0
  · obtain ⟨z1, z2, z3⟩ := fault_ok x h0
    have hls : lineS x = [107, 105, 110, 100, 32] ++ x.nm.data.toList ++ x.cols.flatMap colL := by unfold lineS; rw [if_pos h0]
    have H0 := Lib.hid h0
    have HZ3 := Lib.hid z3
    obtain ⟨R, hR⟩ : ∃ R, R = lineS x := ⟨_, rfl⟩
    rw [← hR]
    have HR := Lib.hid (hR.trans hls)
    clear h0 z3 hls hR
    go_enter Try.func27, Try.ntmps27
    go_wp2_with fail
    refine (HF.out _ (two_new _ _ _) HLIT.out).mono ?_
    rintro e w2 ⟨rfl, hb2⟩
    rw [H0.out]
    have b0 : w2.cell? ⟨w.heap.size, 0, none⟩ = some (.string x.nm) := (hb2.cell (p := ⟨w.heap.size, 0, none⟩) (by simp; omega)).trans (by simp [go_sem])
    have b1 : w2.cell? ⟨w.heap.size, 1, none⟩ = some (.slice A x.cols.length c) := (hb2.cell (p := ⟨w.heap.size, 1, none⟩) (by simp; omega)).trans (by simp [go_sem])
    have HB2 := Lib.hid ((two_new w _ _).trans (hb2.mono (by simp; omega)))
    have hs2 := HB2.out.size
    have hz2 : w.heap.size + 1 < w2.heap.size := Nat.lt_of_lt_of_le (by simp) hb2.size
    have B1 := Lib.hid b1
    clear hb2
    have o1 : ¬ 9223372036854775807 < 5 + x.nm.size := by omega
    go_wp2
    go_loopw [3, 4] (fun vv i wr => ∃ (k : Nat) (bs : List UInt8), k ≤ x.cols.length ∧ i = .int .i64 k ∧ vv = .string ⟨bs.toArray⟩ ∧ bs.length ≤ 21 + 23 * k ∧ R = bs ++ (x.cols.drop k).flatMap colL ∧ Below w2.heap.size w2 wr) (fun _ i _ => x.cols.length - (intOf i).toNat)
    case atStart => exact ⟨0, [107, 105, 110, 100, 32] ++ x.nm.data.toList, Nat.zero_le _, rfl, by rw [← line_head], by have : x.nm.data.toList.length = x.nm.size := rfl; simp only [List.length_append, List.length_cons, List.length_nil]; omega, by rw [List.drop_zero]; exact HR.out, Below.refl _ _⟩
    case round =>
      obtain ⟨k, bs, hk, rfl, rfl, hbl, hr, hb⟩ := hrel
      have HRR := Lib.hid hr
      have HB := Lib.hid hb
      have hsz : w2.heap.size ≤ wr.heap.size := hb.size
      have p1 : wr.cell? ⟨w.heap.size, 1, none⟩ = some (.slice A x.cols.length c) := cell_lift B1.out hb
      clear hr hb
      by_cases h1 : k < x.cols.length
      · obtain ⟨d, hd⟩ : ∃ d, x.cols[k]? = some d := ⟨_, List.getElem?_eq_getElem h1⟩
        obtain ⟨a, rfl, ha, a0, a1, a2⟩ := ((HCS.out.below HB2.out).below HB.out).col k d hd
        obtain ⟨y1, y2, y3⟩ := HZ3.out k d hd
        have hdr : (x.cols.drop k).flatMap colL = colL d ++ (x.cols.drop (k + 1)).flatMap colL := by
          obtain ⟨g1, g2⟩ := List.getElem?_eq_some_iff.1 hd
          rw [List.drop_eq_getElem_cons g1, g2, List.flatMap_cons]
        have HDR := Lib.hid hdr
        have hws := word_size d.k
        have HWD := Lib.hid (fun W : World => ref_kind d.k W y2 y3)
        obtain ⟨wd, hwd⟩ : ∃ wd, wordR d.k = wd := ⟨_, rfl⟩
        rw [hwd] at hws HWD
        have HW := Lib.hid hwd
        have hnl : d.nm.data.toList.length = d.nm.size := rfl
        have hwl : wd.data.toList.length = wd.size := rfl
        have HNL := Lib.hid (And.intro hnl hwl)
        have o1 : ¬ 9223372036854775807 < bs.length + 1 := by omega
        have o2 : ¬ 9223372036854775807 < bs.length + 1 + d.nm.size := by omega
        have o3 : ¬ 9223372036854775807 < bs.length + 1 + d.nm.size + 1 := by omega
        have o4 : ¬ 9223372036854775807 < bs.length + 1 + d.nm.size + 1 + wd.size := by omega
        have o5 : ¬ 9223372036854775807 < bs.length + 1 + d.nm.size + 1 + wd.size + 1 := by omega
        obtain ⟨XE, xf, hXN, hX1, hX0, hX2⟩ := ext_class wr.heap.size wr (Nat.le_refl _)
        have HX1 := Lib.hid hX1
        have HX2 := Lib.hid hX2
        have hin := hX0 wr.drew (Below.drew (Below.refl _ _))
        have P1 := Lib.hid p1
        have A0 := Lib.hid a0
        have A1 := Lib.hid a1
        have A2 := Lib.hid a2
        have e0 := fun e => cell_lift P1.out (HX1.out e)
        have e1 := fun e => cell_lift A0.out (HX1.out e)
        have e2 := fun e => cell_lift A1.out (HX1.out e)
        clear hX0 hX1 hX2
        clear hd hdr hwd hnl hwl
        go_wp2
        refine wp_region_quiet (C := fun W => ∃ e, W = xf e) (by kernel_rfl) (by kernel_rfl) hin ?_
        clear hin
        dsimp only
        repeat (go_big_quiet_step ((go_at_call 71; refine (HWD.out _).mono ?_; rintro e w5 ⟨rfl, hb5⟩; exact ⟨rfl, HX2.out _ _ hb5⟩)))
        refine wpQuiet_nil ?_
        intro w5 hW5
        obtain ⟨ee, hW5⟩ := hW5
        have hb5 : Below wr.heap.size wr w5 := by rw [hW5]; exact HX1.out ee
        have g1 := cell_lift P1.out hb5
        have g2 := cell_lift A2.out hb5
        have HB5 := Lib.hid (HB.out.trans (hb5.mono hsz))
        clear hW5 hb5 e0 e1 e2 p1 a0 a1 a2
        have hcat := line_cat3 bs d.nm wd
        have HCAT := Lib.hid hcat
        clear hcat
        obtain ⟨nm9, k9, nl⟩ := d
        have y9 : nm9.size ≤ 16 := y1
        have HNL9 : Hid (nm9.data.toList.length = nm9.size ∧ wd.data.toList.length = wd.size) := HNL
        cases nl with
        | true =>
          go_wp2
          go_roundw
          case rel =>
            refine ⟨k + 1, bs ++ ([32] ++ nm9.data.toList ++ [58] ++ wd.data.toList) ++ [63], by omega, by go_num, ?_, ?_, ?_, ?_⟩
            · rw [← line_cat2, ← HCAT.out]
            · have := HNL9.out; simp only [List.length_append, List.length_cons, List.length_nil] at this ⊢; omega
            · rw [HRR.out, HDR.out]; unfold colL; rw [HW.out]; simp
            · exact HB5.out
          case measure => simp [intOf]; omega
        | false =>
          go_wp2
          go_roundw
          case rel =>
            refine ⟨k + 1, bs ++ ([32] ++ nm9.data.toList ++ [58] ++ wd.data.toList), by omega, by go_num, ?_, ?_, ?_, ?_⟩
            · rw [← HCAT.out]
            · have := HNL9.out; simp only [List.length_append, List.length_cons, List.length_nil] at this ⊢; omega
            · rw [HRR.out, HDR.out]; unfold colL; rw [HW.out]; simp
            · exact HB5.out
          case measure => simp [intOf]; omega
      · obtain rfl : k = x.cols.length := by omega
        have hend : R = bs := by rw [HRR.out, List.drop_of_length_le (Nat.le_refl _)]; simp
        have HEND := Lib.hid hend
        clear hend
        go_wp2
        go_ret
        exact ⟨by rw [HEND.out]; exact rfl, HB2.out.trans (HB.out.mono hs2)⟩
  · have hls : lineS x = [] := by unfold lineS; rw [if_neg h0]
    rw [hls]
    generalize faultR [x] = z at *
    have bz : (z == 0) = false := by simpa using h0
    clear hls h0
    go_enter Try.func27, Try.ntmps27
    go_wp2_with fail
    refine (HF.out _ (two_new _ _ _) HLIT.out).mono ?_
    rintro e w2 ⟨rfl, hb2⟩
    go_wp2
    go_ret
    exact ⟨rfl, (two_new w _ _).trans (hb2.mono (by simp; omega))⟩
end Go.Proofs.Ytoeggpoeongnhaa
