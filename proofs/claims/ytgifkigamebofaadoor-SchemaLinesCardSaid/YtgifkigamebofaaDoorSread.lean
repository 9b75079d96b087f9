/-
  Read of package schema answers the kind whose line a text is, and an error where there is none; nothing that was there is changed.
  Condition: the library's variable MaxLen holds a number; the text is no longer than a thousand bytes.
-/
import Derived.Test.YtgifkigamebofaaDoorSguess
namespace Go.Proofs.YtgifkigamebofaaDoor
open Go.RowKit

def noS : Sc := ⟨⟨#[]⟩, []⟩
/-- What Read answers. -/
def readS (s : ByteArray) : Sc × Int := if s.data.toList ≠ [] ∧ lineS (guessS s) = s.data.toList then (guessS s, 0) else (noS, 7)

set_option maxRecDepth 100000 in
set_option maxHeartbeats 4000000 in
theorem s_read (s : ByteArray) (w : World) (hs : s.size ≤ 1000) (hm : MV w) :
    Calls Tryd.prog 20 #[.string s] w fun e w' => ∃ v, e = .returned (.tuple #[.agg #[.string (readS s).1.nm, v], .int .i64 (readS s).2]) ∧ IsCols w' (Behind w) v (readS s).1.cols ∧ Below w.heap.size w w' := by
  have HG := Lib.hid (s_guess s (w.alloc (.cells #[.string ⟨#[]⟩, .slice none 0 0] 34)) hs (hm.later (one_new _ _)))
  have htl : s.toList = s.data.toList := ByteArray.toList_eq s
  obtain ⟨⟨nm, cs⟩, hgs⟩ : ∃ G, guessS s = G := ⟨_, rfl⟩
  rw [hgs] at HG
  obtain ⟨X, hX⟩ : ∃ X, lineS ⟨nm, cs⟩ = X := ⟨_, rfl⟩
  have HX := Lib.hid hX
  have hrd : readS s = if s.data.toList ≠ [] ∧ X = s.data.toList then (⟨nm, cs⟩, 0) else (noS, 7) := by unfold readS; rw [hgs, hX]
  clear hm hgs hX
  by_cases h1 : s.data.toList = []
  · have hr : readS s = (noS, 7) := by rw [hrd, if_neg (fun h => h.1 h1)]
    rw [hr]
    have b0 : (s.toList == []) = true := by rw [htl, h1]; rfl
    clear hrd hr h1 htl
    go_enter Tryd.func20, Tryd.ntmps20
    go_wp2_with fail
    refine HG.out.mono ?_
    rintro e w2 ⟨v, rfl, hv, hb2⟩
    obtain ⟨_, A, c, rfl, _⟩ := hv
    have HB := Lib.hid ((one_new w _).trans (hb2.mono (by simp)))
    have r0 : w2.cell? ⟨w.heap.size, 0, none⟩ = some (.string ⟨#[]⟩) := (hb2.cell (p := ⟨w.heap.size, 0, none⟩) (by simp)).trans (by simp [go_sem])
    have r1 : w2.cell? ⟨w.heap.size, 1, none⟩ = some (.slice none 0 0) := (hb2.cell (p := ⟨w.heap.size, 1, none⟩) (by simp)).trans (by simp [go_sem])
    have r2 : w2.frozen? ⟨w.heap.size, 0, none⟩ = false := (hb2.frozen (p := ⟨w.heap.size, 0, none⟩) (by simp)).trans (by simp [go_sem])
    have r3 : w2.frozen? ⟨w.heap.size, 1, none⟩ = false := (hb2.frozen (p := ⟨w.heap.size, 1, none⟩) (by simp)).trans (by simp [go_sem])
    have hz : w.heap.size < w2.heap.size := Nat.lt_of_lt_of_le (by simp) hb2.size
    clear hb2
    go_wp2
    exact bodyPost_ret (v := .tuple #[.agg #[.string ⟨#[]⟩, .slice none 0 0], .int .i64 7]) (by simp [results, Tryd.results20, go_sem, r0, r1, hz]) rfl ⟨_, rfl, IsCols.nil _ _, by repeat (first | exact HB.out | (refine bsetG ?_ (Nat.le_refl _)) | (refine Below.alloc ?_ (by simp; exact HB.out.size) _))⟩
  have b0 : (s.toList == []) = false := by rw [htl]; simpa using h1
  by_cases h2 : X = s.data.toList
  · have hr : readS s = (⟨nm, cs⟩, 0) := by rw [hrd, if_pos ⟨h1, h2⟩]
    rw [hr]
    have bx : (X == s.toList) = true := by rw [htl, h2]; simp
    clear hrd hr h1 h2 htl
    go_enter Tryd.func20, Tryd.ntmps20
    go_wp2_with fail
    refine HG.out.mono ?_
    rintro e w2 ⟨v, rfl, hv, hb2⟩
    have HV := Lib.hid hv
    obtain ⟨_, A, c, rfl, _⟩ := hv
    have HB := Lib.hid ((one_new w _).trans (hb2.mono (by simp)))
    have hz : w.heap.size < w2.heap.size := Nat.lt_of_lt_of_le (by simp) hb2.size
    have HB2 := Lib.hid hb2
    clear hb2
    go_wp2_with fail
    refine (s_line _ ⟨nm, cs⟩ _ _ (HV.out.below (one_new _ _))).mono ?_
    rintro e w3 ⟨rfl, hb3⟩
    rw [HX.out]
    have hb4 := (one_new w2 _).trans (hb3.mono (by simp))
    have k0 : w3.cell? ⟨w2.heap.size, 0, none⟩ = some (.string nm) := (hb3.cell (p := ⟨w2.heap.size, 0, none⟩) (by simp)).trans (new_cell _ _ _ 0 _ rfl)
    have k1 : w3.cell? ⟨w2.heap.size, 1, none⟩ = some (.slice A cs.length c) := (hb3.cell (p := ⟨w2.heap.size, 1, none⟩) (by simp)).trans (new_cell _ _ _ 1 _ rfl)
    have hb5 := HB2.out.trans (hb4.mono HB2.out.size)
    have r0 : w3.cell? ⟨w.heap.size, 0, none⟩ = some (.string ⟨#[]⟩) := (hb5.cell (p := ⟨w.heap.size, 0, none⟩) (by simp)).trans (by simp [go_sem])
    have r1 : w3.cell? ⟨w.heap.size, 1, none⟩ = some (.slice none 0 0) := (hb5.cell (p := ⟨w.heap.size, 1, none⟩) (by simp)).trans (by simp [go_sem])
    have r2 : w3.frozen? ⟨w.heap.size, 0, none⟩ = false := (hb5.frozen (p := ⟨w.heap.size, 0, none⟩) (by simp)).trans (by simp [go_sem])
    have r3 : w3.frozen? ⟨w.heap.size, 1, none⟩ = false := (hb5.frozen (p := ⟨w.heap.size, 1, none⟩) (by simp)).trans (by simp [go_sem])
    have HV3 := Lib.hid ((HV.out.below hb4).imp (Q' := fun j => w.heap.size < j) (fun j _ hj => by simp [Behind] at hj; omega))
    have HB3 := Lib.hid (HB.out.trans (hb4.mono HB.out.size))
    have hz3 : w2.heap.size < w3.heap.size := Nat.lt_of_lt_of_le (by simp) hb3.size
    have hne : w2.heap.size ≠ w.heap.size := by omega
    clear hb3 hb4 hb5
    go_wp2
    exact bodyPost_ret (v := .tuple #[.agg #[.string nm, .slice A cs.length c], .int .i64 0]) (by simp [results, Tryd.results20, go_sem, r0, r1]) rfl
      ⟨_, rfl, ((HV3.out.keep (keep_set (by simp))).keep (keep_set (by simp))).imp (fun j _ hj => Nat.le_of_lt hj), by repeat (first | exact HB3.out | (refine bsetG ?_ (Nat.le_refl _)))⟩
  · have hr : readS s = (noS, 7) := by rw [hrd, if_neg (fun h => h2 h.2)]
    rw [hr]
    have bx : (X == s.toList) = false := by rw [htl]; simpa using h2
    clear hrd hr h1 h2 htl
    go_enter Tryd.func20, Tryd.ntmps20
    go_wp2_with fail
    refine HG.out.mono ?_
    rintro e w2 ⟨v, rfl, hv, hb2⟩
    have HV := Lib.hid hv
    obtain ⟨_, A, c, rfl, _⟩ := hv
    have HB := Lib.hid ((one_new w _).trans (hb2.mono (by simp)))
    have HB2 := Lib.hid hb2
    have hz : w.heap.size < w2.heap.size := Nat.lt_of_lt_of_le (by simp) hb2.size
    clear hb2
    go_wp2_with fail
    refine (s_line _ ⟨nm, cs⟩ _ _ (HV.out.below (one_new _ _))).mono ?_
    rintro e w3 ⟨rfl, hb3⟩
    rw [HX.out]
    have hb4 := (one_new w2 _).trans (hb3.mono (by simp))
    have hb5 := HB2.out.trans (hb4.mono HB2.out.size)
    have r0 : w3.cell? ⟨w.heap.size, 0, none⟩ = some (.string ⟨#[]⟩) := (hb5.cell (p := ⟨w.heap.size, 0, none⟩) (by simp)).trans (by simp [go_sem])
    have r1 : w3.cell? ⟨w.heap.size, 1, none⟩ = some (.slice none 0 0) := (hb5.cell (p := ⟨w.heap.size, 1, none⟩) (by simp)).trans (by simp [go_sem])
    have r2 : w3.frozen? ⟨w.heap.size, 0, none⟩ = false := (hb5.frozen (p := ⟨w.heap.size, 0, none⟩) (by simp)).trans (by simp [go_sem])
    have r3 : w3.frozen? ⟨w.heap.size, 1, none⟩ = false := (hb5.frozen (p := ⟨w.heap.size, 1, none⟩) (by simp)).trans (by simp [go_sem])
    have HB3 := Lib.hid (HB.out.trans (hb4.mono HB.out.size))
    have hz3 : w.heap.size < w3.heap.size := Nat.lt_of_lt_of_le hz (Nat.le_trans (Nat.le_of_lt (by simp)) hb3.size)
    clear hb3 hb4 hb5
    go_wp2
    exact bodyPost_ret (v := .tuple #[.agg #[.string ⟨#[]⟩, .slice none 0 0], .int .i64 7]) (by simp [results, Tryd.results20, go_sem, r0, r1]) rfl ⟨_, rfl, IsCols.nil _ _, by repeat (first | exact HB3.out | (refine bsetG ?_ (Nat.le_refl _)))⟩
end Go.Proofs.YtgifkigamebofaaDoor
