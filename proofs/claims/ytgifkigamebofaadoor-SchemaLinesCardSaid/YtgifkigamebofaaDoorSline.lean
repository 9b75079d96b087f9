/-
  Line of package schema answers the line of a kind, at every kind; nothing where it can not be; nothing that was there is changed.
  No condition but that a kind has no more than a million columns.
-/
import Derived.Test.YtgifkigamebofaaDoorScolm
import Derived.Deep.QuietTactic
import Derived.BigQuiet
namespace Go.Proofs.YtgifkigamebofaaDoor
open Go.RowKit

/-- A column in a line. -/
def colL (c : Co) : List UInt8 := [32] ++ c.nm.data.toList ++ [58] ++ (wordR c.k).data.toList ++ (if c.nl then [63] else [])
/-- The line of a kind. -/
def lineS (x : Sc) : List UInt8 := if faultR [x] = 0 then [107, 105, 110, 100, 32] ++ x.nm.data.toList ++ x.cols.flatMap colL else []

theorem name_size (s : ByteArray) (h : nameR s.data.toList = true) : s.size ≤ 16 := by
  have hl : s.data.toList.length = s.size := rfl
  cases hd : s.data.toList with
  | nil => rw [hd] at hl; simp at hl; omega
  | cons c r =>
    rw [hd] at h hl
    simp only [nameR, Bool.and_eq_true, decide_eq_true_eq] at h
    omega
theorem colF_ok (ah : List Co) (c : Co) (h : colF ah c = 0) : c.nm.size ≤ 16 ∧ 1 ≤ c.k ∧ c.k ≤ 3 := by
  unfold colF at h
  split at h
  · cases h
  · rename_i h1
    split at h
    · cases h
    · rename_i h2
      refine ⟨name_size _ (by simpa using h1), by omega, by omega⟩
theorem colsF_ok (cs : List Co) : ∀ (f k : Nat), colsF cs f k = 0 → cs.length ≤ f + k → ∀ (i : Nat) (c : Co), k ≤ i → cs[i]? = some c → c.nm.size ≤ 16 ∧ 1 ≤ c.k ∧ c.k ≤ 3
  | 0, k, _, hl, i, c, hi, hc => by
    have := (List.getElem?_eq_some_iff.1 hc).1
    omega
  | f + 1, k, h, hl, i, c, hi, hc => by
    have hil := (List.getElem?_eq_some_iff.1 hc).1
    obtain ⟨d, hd⟩ : ∃ d, cs[k]? = some d := ⟨_, List.getElem?_eq_getElem (by omega)⟩
    rw [colsF_step cs f k d hd] at h
    by_cases h0 : colF (cs.take k) d = 0
    · rw [if_pos h0] at h
      by_cases hik : i = k
      · subst hik
        rw [hd] at hc
        injection hc with hc
        subst hc
        exact colF_ok _ _ h0
      · exact colsF_ok cs f (k + 1) h (by omega) i c (by omega) hc
    · rw [if_neg h0] at h
      exact absurd h h0
theorem fault_ok (x : Sc) (h : faultR [x] = 0) : x.nm.size ≤ 16 ∧ x.cols.length ≤ 6 ∧ ∀ (i : Nat) (c : Co), x.cols[i]? = some c → c.nm.size ≤ 16 ∧ 1 ≤ c.k ∧ c.k ≤ 3 := by
  have h1 : kindF [] x = 0 := by
    unfold faultR at h
    rw [if_neg (by simp)] at h
    have hs := kindsF_step [x] 0 0 x rfl
    rw [show kindsF [x] [x].length 0 = kindsF [x] (0 + 1) 0 from rfl, hs] at h
    by_cases h0 : kindF ([x].take 0) x = 0
    · exact h0
    · rw [if_neg h0] at h
      exact absurd h h0
  unfold kindF at h1
  split at h1
  · cases h1
  · rename_i g1
    rw [if_neg (by simp)] at h1
    split at h1
    · cases h1
    · rename_i g2
      exact ⟨name_size _ (by simp only [not_or] at g1; simpa using g1.1), by omega, fun i c hc => colsF_ok x.cols _ 0 h1 (by omega) i c (Nat.zero_le _) hc⟩
theorem word_size (k : Int) : (wordR k).size ≤ 4 := by
  unfold wordR
  split
  · decide
  · split
    · decide
    · split <;> decide

theorem line_cat (bs : List UInt8) (nm wd : ByteArray) : (⟨bs.toArray⟩ : ByteArray) ++ (((⟨#[32]⟩ ++ nm) ++ ⟨#[58]⟩) ++ wd) = ⟨(bs ++ ([32] ++ nm.data.toList ++ [58] ++ wd.data.toList)).toArray⟩ := by
  apply ByteArray.ext
  simp
theorem line_cat2 (bs : List UInt8) : (⟨bs.toArray⟩ : ByteArray) ++ ⟨#[63]⟩ = ⟨(bs ++ [63]).toArray⟩ := by
  apply ByteArray.ext
  simp
theorem line_head (nm : ByteArray) : (⟨#[107, 105, 110, 100, 32]⟩ : ByteArray) ++ nm = ⟨([107, 105, 110, 100, 32] ++ nm.data.toList).toArray⟩ := by
  apply ByteArray.ext
  simp

set_option maxRecDepth 100000 in
set_option maxHeartbeats 4000000 in
theorem s_line (Q : Nat → Prop) (x : Sc) (v : Value) (w : World) (hv : IsCols w Q v x.cols) :
    Calls Tryd.prog 18 #[.agg #[.string x.nm, v]] w fun e w' => e = .returned (.string ⟨(lineS x).toArray⟩) ∧ Below w.heap.size w w' := by
  have hv0 := hv.imp (Q' := fun _ => True) (fun _ _ _ => trivial)
  obtain ⟨hl, A, c, rfl, hA, hcap, hcs⟩ := hv
  have HV := Lib.hid hv0
  have HCS := Lib.hid (hcs.imp (Q' := fun _ => True) (fun _ _ _ => trivial))
  clear hv0 hcs hA
  have hF : ∀ W : World, Below w.heap.size w W → CellsQ W (fun _ => True) (some ⟨w.heap.size + 1, 0, none⟩) (flatS [(x.nm, .slice A x.cols.length c)]) → Calls Tryd.prog 23 #[.slice (some ⟨w.heap.size + 1, 0, none⟩) 1 1] W fun e w' => e = .returned (.int .i64 (faultR [x])) ∧ Below W.heap.size W w' :=
    fun W hb hc => s_fault (fun _ => True) _ [(x.nm, .slice A x.cols.length c)] [x] 1 1 W rfl (by decide) (Nat.le_refl _) ⟨rfl, HV.out.below hb, trivial⟩ hc
  have HF := Lib.hid hF
  have hlit : CellsQ ((w.alloc (.cells #[.string x.nm, .slice A x.cols.length c] 34)).alloc (.cells #[.string x.nm, .slice A x.cols.length c] 34)) (fun _ => True) (some ⟨w.heap.size + 1, 0, none⟩) (flatS [(x.nm, .slice A x.cols.length c)]) := by
    have h := sc_lit1 (w.alloc (.cells #[.string x.nm, .slice A x.cols.length c] 34)) x.nm (.slice A x.cols.length c)
    rw [World.size_alloc] at h
    exact h
  have HLIT := Lib.hid hlit
  clear hF hlit
  by_cases h0 : faultR [x] = 0
  · obtain ⟨z1, z2, z3⟩ := fault_ok x h0
    have hls : lineS x = [107, 105, 110, 100, 32] ++ x.nm.data.toList ++ x.cols.flatMap colL := by unfold lineS; rw [if_pos h0]
    have H0 := Lib.hid h0
    have HZ3 := Lib.hid z3
    obtain ⟨R, hR⟩ : ∃ R, R = lineS x := ⟨_, rfl⟩
    rw [← hR]
    have HR := Lib.hid (hR.trans hls)
    clear h0 z3 hls hR
    go_enter Tryd.func18, Tryd.ntmps18
    go_wp2_with fail
    refine (HF.out _ (two_new _ _ _) HLIT.out).mono ?_
    rintro e w2 ⟨rfl, hb2⟩
    rw [H0.out]
    have b0 : w2.cell? ⟨w.heap.size, 0, none⟩ = some (.string x.nm) := (hb2.cell (p := ⟨w.heap.size, 0, none⟩) (by simp; omega)).trans (by simp [go_sem])
    have b1 : w2.cell? ⟨w.heap.size, 1, none⟩ = some (.slice A x.cols.length c) := (hb2.cell (p := ⟨w.heap.size, 1, none⟩) (by simp; omega)).trans (by simp [go_sem])
    have HB2 := Lib.hid ((two_new w _ _).trans (hb2.mono (by simp; omega)))
    have hs2 := HB2.out.size
    clear hb2
    have o1 : ¬ 9223372036854775807 < 5 + x.nm.size := by omega
    go_wp2
    go_loopw [3, 16] (fun vv i wr => ∃ (k : Nat) (bs : List UInt8), k ≤ x.cols.length ∧ i = .int .i64 k ∧ vv = .string ⟨bs.toArray⟩ ∧ bs.length ≤ 21 + 23 * k ∧ R = bs ++ (x.cols.drop k).flatMap colL ∧ Below w2.heap.size w2 wr) (fun _ i _ => x.cols.length - (intOf i).toNat)
    case atStart => exact ⟨0, [107, 105, 110, 100, 32] ++ x.nm.data.toList, Nat.zero_le _, rfl, by rw [← line_head], by have : x.nm.data.toList.length = x.nm.size := rfl; simp only [List.length_append, List.length_cons, List.length_nil]; omega, by rw [List.drop_zero]; exact HR.out, Below.refl _ _⟩
    case round =>
      obtain ⟨k, bs, hk, rfl, rfl, hbl, hr, hb⟩ := hrel
      have HRR := Lib.hid hr
      have HB := Lib.hid hb
      have hsz : w2.heap.size ≤ wr.heap.size := hb.size
      clear hr hb
      by_cases h1 : k < x.cols.length
      · obtain ⟨d, hd⟩ : ∃ d, x.cols[k]? = some d := ⟨_, List.getElem?_eq_getElem h1⟩
        obtain ⟨a, rfl, ha, a0, a1, a2⟩ := ((HCS.out.below HB2.out).below HB.out).col k d hd
        obtain ⟨y1, y2, y3⟩ := HZ3.out k d hd
        have hdr : (x.cols.drop k).flatMap colL = colL d ++ (x.cols.drop (k + 1)).flatMap colL := by
          obtain ⟨g1, g2⟩ := List.getElem?_eq_some_iff.1 hd
          rw [List.drop_eq_getElem_cons g1, g2, List.flatMap_cons]
        have HDR := Lib.hid hdr
        have hws := word_size d.k
        have HWD := Lib.hid (fun W : World => s_word d.k W)
        obtain ⟨wd, hwd⟩ : ∃ wd, wordR d.k = wd := ⟨_, rfl⟩
        rw [hwd] at hws HWD
        have HW := Lib.hid hwd
        have hnl : d.nm.data.toList.length = d.nm.size := rfl
        have hwl : wd.data.toList.length = wd.size := rfl
        have HNL := Lib.hid (And.intro hnl hwl)
        have o1 : ¬ 9223372036854775807 < 1 + d.nm.size := by omega
        have o2 : ¬ 9223372036854775807 < 1 + d.nm.size + 1 := by omega
        have o3 : ¬ 9223372036854775807 < 1 + d.nm.size + 1 + wd.size := by omega
        have o4 : ¬ 9223372036854775807 < bs.length + (1 + d.nm.size + 1 + wd.size) := by omega
        have o5 : ¬ 9223372036854775807 < bs.length + (1 + d.nm.size + 1 + wd.size) + 1 := by omega
        clear hd hdr hwd hnl hwl
        go_wp2
        go_quiet ((go_at_call 32; exact Calls.quiet_of_same (HWD.out _)))
        have hcat := line_cat bs d.nm wd
        have HCAT := Lib.hid hcat
        clear hcat
        obtain ⟨nm9, k9, nl⟩ := d
        have y9 : nm9.size ≤ 16 := y1
        have HNL9 : Hid (nm9.data.toList.length = nm9.size ∧ wd.data.toList.length = wd.size) := HNL
        cases nl with
        | true =>
          go_wp2
          go_roundw
          case rel =>
            refine ⟨k + 1, bs ++ ([32] ++ nm9.data.toList ++ [58] ++ wd.data.toList) ++ [63], by omega, by go_num, ?_, ?_, ?_, ?_⟩
            · rw [← line_cat2, ← HCAT.out]
            · have := HNL9.out; simp only [List.length_append, List.length_cons, List.length_nil] at this ⊢; omega
            · rw [HRR.out, HDR.out]; unfold colL; rw [HW.out]; simp
            · exact HB.out.trans ((one_new_far _ _ hsz).trans (below_drewN' (Below.refl _ _) _))
          case measure => simp [intOf]; omega
        | false =>
          go_wp2
          go_roundw
          case rel =>
            refine ⟨k + 1, bs ++ ([32] ++ nm9.data.toList ++ [58] ++ wd.data.toList), by omega, by go_num, ?_, ?_, ?_, ?_⟩
            · rw [← HCAT.out]
            · have := HNL9.out; simp only [List.length_append, List.length_cons, List.length_nil] at this ⊢; omega
            · rw [HRR.out, HDR.out]; unfold colL; rw [HW.out]; simp
            · exact HB.out.trans ((one_new_far _ _ hsz).trans (below_drewN' (Below.refl _ _) _))
          case measure => simp [intOf]; omega
      · obtain rfl : k = x.cols.length := by omega
        have hend : R = bs := by rw [HRR.out, List.drop_of_length_le (Nat.le_refl _)]; simp
        have HEND := Lib.hid hend
        clear hend
        go_wp2
        go_ret
        exact ⟨by rw [HEND.out]; exact rfl, HB2.out.trans (HB.out.mono hs2)⟩
  · have hls : lineS x = [] := by unfold lineS; rw [if_neg h0]
    rw [hls]
    generalize faultR [x] = z at *
    have bz : (z == 0) = false := by simpa using h0
    clear hls h0
    go_enter Tryd.func18, Tryd.ntmps18
    go_wp2_with fail
    refine (HF.out _ (two_new _ _ _) HLIT.out).mono ?_
    rintro e w2 ⟨rfl, hb2⟩
    go_wp2
    go_ret
    exact ⟨rfl, (two_new w _ _).trans (hb2.mono (by simp; omega))⟩
end Go.Proofs.YtgifkigamebofaaDoor
