/-
  Find of package schema at a store; fault of package store: why an object can not be there; find: the object that is there.
  No condition but that texts are no longer than texts can be.
-/
import Derived.Test.YtoeggpoeongnhaaStc
import Derived.Test.YtoeggpoeongnhaaSfits
import Derived.BigQuiet
import Derived.Deep.RegionLaw
namespace Go.Proofs.Ytoeggpoeongnhaa
open Go.RowKit Go.Maps

theorem set2_heap {W : World} {p : Nat} {T : TypeId} {z0 z1 : Value} (h : W.heap[p]? = some (.cells #[z0, z1] T (0, 0))) (a0 a1 : Value) : ((W.setCell ⟨p, 0, none⟩ a0).setCell ⟨p, 1, none⟩ a1).heap[p]? = some (.cells #[a0, a1] T (0, 0)) :=
  heap_setCell_same _ p 1 _ _ a1 (heap_setCell_same W p 0 _ _ a0 h)
def codeS (o : Option Sc) : Int := if o.isSome = true then 0 else 20

set_option maxRecDepth 100000 in
set_option maxHeartbeats 2000000 in
theorem s_FindP (Q : Nat → Prop) (g : Nat) (l : List Sc) (kind : ByteArray) (w : World) (hs : SetIs w Q g l) :
    Calls Try.prog 100 #[.pointer (some ⟨g, 0, none⟩), .string kind] w fun e w' => ∃ nm A n c, e = .returned (.tuple #[.agg #[.string nm, .slice A n c], .int .i64 (codeS (findS l kind))]) ∧ Below w.heap.size w w' := by
  have hba := one_new w (.cells #[.string ⟨#[]⟩, .slice none 0 0] 52)
  have HF := Lib.hid (s_find Q g l kind _ (hs.below hba))
  have HBA := Lib.hid hba
  clear hs hba
  cases hfs : findS l kind with
  | none =>
    rw [hfs] at HF
    clear hfs
    go_enter Try.func100, Try.ntmps100
    go_wp2_with fail
    refine HF.out.mono ?_
    rintro e w1 ⟨hb1, rfl⟩
    have x1 := (hb1.block w.heap.size (by simp)).trans (World.alloc_heap_new w _)
    have HB1 := Lib.hid (HBA.out.trans (hb1.mono (by simp)))
    have HO := Lib.hid (s_own ⟨#[]⟩ (.slice none 0 0) [] (fun _ => True) (w1.alloc (.cells #[.string ⟨#[]⟩, .slice none 0 0] 52)) (IsCols.nil _ _))
    have hw1 := (Array.getElem?_eq_some_iff.1 x1).1
    clear hb1
    go_wp2_with fail
    refine HO.out.mono ?_
    rintro e w2 ⟨v', rfl, hcs, hb2⟩
    have x2 := ((one_new w1 (.cells #[.string ⟨#[]⟩, .slice none 0 0] 52)).trans (hb2.mono (by simp))).block w.heap.size hw1 |>.trans x1
    have HB2 := Lib.hid (HB1.out.trans (((one_new w1 (.cells #[.string ⟨#[]⟩, .slice none 0 0] 52)).trans (hb2.mono (by simp))).mono HB1.out.size))
    obtain ⟨_, A', c', rfl, _, _, _⟩ := hcs
    have a0 := cell_of_row w2 w.heap.size 0 _ _ _ x2
    have a1 := cell_of_row w2 w.heap.size 1 _ _ _ x2
    have f0 := frozen_of_row w2 w.heap.size 0 _ _ x2
    have f1 := frozen_of_row w2 w.heap.size 1 _ _ x2
    have z2 := set2_heap x2 (.string ⟨#[]⟩) (.slice A' ([] : List Co).length c')
    have r0 := cell_of_row _ w.heap.size 0 _ _ _ z2
    have r1 := cell_of_row _ w.heap.size 1 _ _ _ z2
    simp only [List.length_nil] at r0 r1
    have hfb := (HB2.out.setCell (p := ⟨w.heap.size, 0, none⟩) (Nat.le_refl _) (.string ⟨#[]⟩)).setCell (p := ⟨w.heap.size, 1, none⟩) (Nat.le_refl _) (.slice A' 0 c')
    have HFB := Lib.hid hfb
    clear hb2 x1 x2 z2 hfb
    go_wp2
    exact bodyPost_ret (v := .tuple #[.agg #[.string ⟨#[]⟩, .slice A' 0 c'], .int .i64 20]) (by simp [results, Try.results100, r0, r1, go_sem]) rfl ⟨_, _, _, _, rfl, HFB.out⟩
  | some x =>
    rw [hfs] at HF
    clear hfs
    go_enter Try.func100, Try.ntmps100
    go_wp2_with fail
    refine HF.out.mono ?_
    rintro e w1 ⟨hb1, v1, rfl, hcs1⟩
    have x1 := (hb1.block w.heap.size (by simp)).trans (World.alloc_heap_new w _)
    have HB1 := Lib.hid (HBA.out.trans (hb1.mono (by simp)))
    have HO := Lib.hid (s_own x.nm v1 x.cols Q (w1.alloc (.cells #[.string x.nm, v1] 52)) (hcs1.below (one_new _ _)))
    have hw1 := (Array.getElem?_eq_some_iff.1 x1).1
    obtain ⟨_, A1, c1, rfl, _, _, _⟩ := hcs1
    clear hb1
    go_wp2_with fail
    refine HO.out.mono ?_
    rintro e w2 ⟨v', rfl, hcs, hb2⟩
    have x2 := ((one_new w1 (.cells #[.string x.nm, .slice A1 x.cols.length c1] 52)).trans (hb2.mono (by simp))).block w.heap.size hw1 |>.trans x1
    have HB2 := Lib.hid (HB1.out.trans (((one_new w1 (.cells #[.string x.nm, .slice A1 x.cols.length c1] 52)).trans (hb2.mono (by simp))).mono HB1.out.size))
    obtain ⟨_, A', c', rfl, _, _, _⟩ := hcs
    generalize x.cols.length = nc at *
    have a0 := cell_of_row w2 w.heap.size 0 _ _ _ x2
    have a1 := cell_of_row w2 w.heap.size 1 _ _ _ x2
    have f0 := frozen_of_row w2 w.heap.size 0 _ _ x2
    have f1 := frozen_of_row w2 w.heap.size 1 _ _ x2
    have z2 := set2_heap x2 (.string x.nm) (.slice A' nc c')
    have r0 := cell_of_row _ w.heap.size 0 _ _ _ z2
    have r1 := cell_of_row _ w.heap.size 1 _ _ _ z2
    have hfb := (HB2.out.setCell (p := ⟨w.heap.size, 0, none⟩) (Nat.le_refl _) (.string x.nm)).setCell (p := ⟨w.heap.size, 1, none⟩) (Nat.le_refl _) (.slice A' nc c')
    have HFB := Lib.hid hfb
    clear hb2 x1 x2 z2 hfb HO HF
    go_wp2
    exact bodyPost_ret (v := .tuple #[.agg #[.string x.nm, .slice A' nc c'], .int .i64 0]) (by simp [results, Try.results100, r0, r1, go_sem]) rfl ⟨_, _, _, _, rfl, HFB.out⟩

/-- The set that a store has. -/
theorem StoB.set {w : World} {Q : Nat → Prop} {s b : Nat} {os : List Ob} {last : Int} {KL : List Sc} (h : StoB w Q s b os last KL) : SetIs w (fun k => Q k ∨ k = s) s KL := by
  obtain ⟨kv, D, es, h1, h2, _⟩ := h
  exact ⟨kv, cell_of_row w s 0 _ _ _ h1, .inr rfl, h2.imp fun k _ hk => .inl hk⟩
/-- Why an object can not be. -/
def mayR (KL : List Sc) (k : Ky) (c : List V) : Int := if (findS KL k.1).isSome = true ∧ ¬ (nameR k.2.1.data.toList = true ∧ nameR k.2.2.data.toList = true) then 3 else fitsR (findS KL k.1) c

theorem fitsR_none (c : List V) : fitsR none c = 20 := rfl
theorem fitsR_some (x : Sc) (c : List V) : (fitsR (some x) c != 20) = true := by
  show ((if c.length = x.cols.length then (if okCs x.cols c = true then (0 : Int) else 11) else 9) != 20) = true
  split
  · split <;> rfl
  · rfl
set_option maxRecDepth 100000 in
set_option maxHeartbeats 4000000 in
theorem o_fault (Q R : Nat → Prop) (s b : Nat) (os : List Ob) (last : Int) (KL : List Sc) (e : OE) (c : List V) (w : World) (hS : StoB w Q s b os last KL) (hr : IsRow w R e.u c) :
    Calls Try.prog 66 #[.pointer (some ⟨s, 0, none⟩), oV e] w fun r w' => r = .returned (.int .i64 (mayR KL e.key c)) ∧ Below w.heap.size w w' := by
  obtain ⟨⟨k1, k2, k3⟩, v, u⟩ := e
  obtain ⟨hl, A, cu, rfl, hA, hrow⟩ := hr
  unfold oV
  simp only
  have hba := one_new w (.cells #[.string k1, .string k2, .string k3, .int .i64 v, .slice A c.length cu] 30)
  have HBA := Lib.hid hba
  have HFT := Lib.hid (fun W (h : Below w.heap.size w W) => s_Fits _ s KL k1 A c c.length cu W (hS.below h).set rfl hl (hrow.keep (Below.keepQ h R)).at)
  have x0 := five_cells (World.alloc_heap_new w (.cells #[.string k1, .string k2, .string k3, .int .i64 v, .slice A c.length cu] 30))
  obtain ⟨a0, a1, a2, a3, a4⟩ := x0
  clear hS hrow hba
  cases hf : findS KL k1 with
  | none =>
    rw [hf, fitsR_none] at HFT
    have HM := Lib.hid (show mayR KL (k1, k2, k3) c = 20 by unfold mayR; simp only [hf]; rfl)
    clear hf
    go_enter Try.func66, Try.ntmps66
    go_wp2_with fail
    go_region_held3 (fun W : World => W.cell? ⟨w.heap.size, 0, none⟩ = some (.string k1) ∧ W.cell? ⟨w.heap.size, 4, none⟩ = some (.slice A c.length cu)) (go_keep)
      (first | (go_at_call 99; refine (HFT.out _ (by exact HBA.out.drew)).mono ?_; rintro r w1 ⟨rfl, hb1⟩; have HB1 := Lib.hid ((HBA.out.drew).trans (hb1.mono (by simp))); have e0 := (hb1.cell (p := ⟨w.heap.size, 0, none⟩) (by simp)).trans a0; have e1 := (hb1.cell (p := ⟨w.heap.size, 1, none⟩) (by simp)).trans a1; have e2 := (hb1.cell (p := ⟨w.heap.size, 2, none⟩) (by simp)).trans a2; have e4 := (hb1.cell (p := ⟨w.heap.size, 4, none⟩) (by simp)).trans a4; clear hb1))
    go_wp2
    go_ret
    exact ⟨by rw [HM.out]; rfl, HB1.out⟩
  | some x =>
    have h20 := fitsR_some x c
    have HM := Lib.hid (show mayR KL (k1, k2, k3) c = if ¬ (nameR k2.data.toList = true ∧ nameR k3.data.toList = true) then 3 else fitsR (some x) c by unfold mayR; simp only [hf, Option.isSome_some, true_and])
    rw [hf] at HFT
    generalize fitsR (some x) c = fr at *
    clear hf
    go_enter Try.func66, Try.ntmps66
    go_wp2_with fail
    go_region_held3 (fun W : World => W.cell? ⟨w.heap.size, 0, none⟩ = some (.string k1) ∧ W.cell? ⟨w.heap.size, 4, none⟩ = some (.slice A c.length cu)) (go_keep)
      (first | (go_at_call 99; refine (HFT.out _ (by exact HBA.out.drew)).mono ?_; rintro r w1 ⟨rfl, hb1⟩; have HB1 := Lib.hid ((HBA.out.drew).trans (hb1.mono (by simp))); have e0 := (hb1.cell (p := ⟨w.heap.size, 0, none⟩) (by simp)).trans a0; have e1 := (hb1.cell (p := ⟨w.heap.size, 1, none⟩) (by simp)).trans a1; have e2 := (hb1.cell (p := ⟨w.heap.size, 2, none⟩) (by simp)).trans a2; have e4 := (hb1.cell (p := ⟨w.heap.size, 4, none⟩) (by simp)).trans a4; clear hb1))
    go_wp2_with fail
    refine (s_name k2 w1).mono ?_
    rintro r w2 ⟨rfl, hw2⟩
    have hw2 := hw2.symm
    subst hw2
    rcases Bool.eq_false_or_eq_true (nameR k2.data.toList) with h2 | h2
    · rw [h2]
      go_wp2_with fail
      refine (s_name k3 w1).mono ?_
      rintro r w3 ⟨rfl, hw3⟩
      have hw3 := hw3.symm
      subst hw3
      rcases Bool.eq_false_or_eq_true (nameR k3.data.toList) with h3 | h3
      · rw [h3]
        have HMM := Lib.hid (show mayR KL (k1, k2, k3) c = fr by rw [HM.out, if_neg (by simp [h2, h3])])
        clear h2 h3
        go_wp2
        go_ret
        exact ⟨by rw [HMM.out]; rfl, HB1.out⟩
      · rw [h3]
        have HMM := Lib.hid (show mayR KL (k1, k2, k3) c = 3 by rw [HM.out, if_pos (by simp [h3])])
        clear h2 h3
        go_wp2
        go_ret
        exact ⟨by rw [HMM.out]; rfl, HB1.out⟩
    · rw [h2]
      have HMM := Lib.hid (show mayR KL (k1, k2, k3) c = 3 by rw [HM.out, if_pos (by simp [h2])])
      clear h2
      go_wp2
      go_ret
      exact ⟨by rw [HMM.out]; rfl, HB1.out⟩
end Go.Proofs.Ytoeggpoeongnhaa
