/-
  Find of package schema at a store; fault of package store: why an object can not be there; find: the object that is there.
  No condition but that texts are no longer than texts can be.
  find of package store: the object that is there, or why there is none.
  No condition but that texts are no longer than texts can be.
-/
import Derived.BigQuiet
import Derived.Deep.RegionLaw
import Derived.Test.YtdhpoaecedpbdaaGreatZ19
import Derived.Test.YtdhpoaecedpbdaaGreatZ22
namespace Go.Proofs.YtdhpoaecedpbdaaGreat
section
open Go.RowKit Go.Maps

theorem set2_heap {W : World} {p : Nat} {T : TypeId} {z0 z1 : Value} (h : W.heap[p]? = some (.cells #[z0, z1] T (0, 0))) (a0 a1 : Value) : ((W.setCell ⟨p, 0, none⟩ a0).setCell ⟨p, 1, none⟩ a1).heap[p]? = some (.cells #[a0, a1] T (0, 0)) :=
  heap_setCell_same _ p 1 _ _ a1 (heap_setCell_same W p 0 _ _ a0 h)
def codeS (o : Option Sc) : Int := if o.isSome = true then 0 else 20

set_option maxRecDepth 100000 in
set_option maxHeartbeats 2000000 in
theorem s_FindP (Q : Nat → Prop) (g : Nat) (l : List Sc) (kind : ByteArray) (w : World) (hs : SetIs w Q g l) :
    Calls Tryz.prog 112 #[.pointer (some ⟨g, 0, none⟩), .string kind] w fun e w' => ∃ nm A n c, e = .returned (.tuple #[.agg #[.string nm, .slice A n c], .int .i64 (codeS (findS l kind))]) ∧ Below w.heap.size w w' := by
  have hba := one_new w (.cells #[.string ⟨#[]⟩, .slice none 0 0] 126)
  have HF := Lib.hid (s_find Q g l kind _ (hs.below hba))
  have HBA := Lib.hid hba
  clear hs hba
  cases hfs : findS l kind with
  | none =>
    rw [hfs] at HF
    clear hfs
    go_enter Tryz.func112, Tryz.ntmps112
    go_wp2_with fail
    refine HF.out.mono ?_
    rintro e w1 ⟨hb1, rfl⟩
    have x1 := (hb1.block w.heap.size (by simp)).trans (World.alloc_heap_new w _)
    have HB1 := Lib.hid (HBA.out.trans (hb1.mono (by simp)))
    have HO := Lib.hid (s_own ⟨#[]⟩ (.slice none 0 0) [] (fun _ => True) (w1.alloc (.cells #[.string ⟨#[]⟩, .slice none 0 0] 126)) (IsCols.nil _ _))
    have hw1 := (Array.getElem?_eq_some_iff.1 x1).1
    clear hb1
    go_wp2_with fail
    refine HO.out.mono ?_
    rintro e w2 ⟨v', rfl, hcs, hb2⟩
    have x2 := ((one_new w1 (.cells #[.string ⟨#[]⟩, .slice none 0 0] 126)).trans (hb2.mono (by simp))).block w.heap.size hw1 |>.trans x1
    have HB2 := Lib.hid (HB1.out.trans (((one_new w1 (.cells #[.string ⟨#[]⟩, .slice none 0 0] 126)).trans (hb2.mono (by simp))).mono HB1.out.size))
    obtain ⟨_, A', c', rfl, _, _, _⟩ := hcs
    have a0 := cell_of_row w2 w.heap.size 0 _ _ _ x2
    have a1 := cell_of_row w2 w.heap.size 1 _ _ _ x2
    have f0 := frozen_of_row w2 w.heap.size 0 _ _ x2
    have f1 := frozen_of_row w2 w.heap.size 1 _ _ x2
    have z2 := set2_heap x2 (.string ⟨#[]⟩) (.slice A' ([] : List Co).length c')
    have r0 := cell_of_row _ w.heap.size 0 _ _ _ z2
    have r1 := cell_of_row _ w.heap.size 1 _ _ _ z2
    simp only [List.length_nil] at r0 r1
    have hfb := (HB2.out.setCell (p := ⟨w.heap.size, 0, none⟩) (Nat.le_refl _) (.string ⟨#[]⟩)).setCell (p := ⟨w.heap.size, 1, none⟩) (Nat.le_refl _) (.slice A' 0 c')
    have HFB := Lib.hid hfb
    clear hb2 x1 x2 z2 hfb
    go_wp2
    exact bodyPost_ret (v := .tuple #[.agg #[.string ⟨#[]⟩, .slice A' 0 c'], .int .i64 20]) (by simp [results, Tryz.results112, r0, r1, go_sem]) rfl ⟨_, _, _, _, rfl, HFB.out⟩
  | some x =>
    rw [hfs] at HF
    clear hfs
    go_enter Tryz.func112, Tryz.ntmps112
    go_wp2_with fail
    refine HF.out.mono ?_
    rintro e w1 ⟨hb1, v1, rfl, hcs1⟩
    have x1 := (hb1.block w.heap.size (by simp)).trans (World.alloc_heap_new w _)
    have HB1 := Lib.hid (HBA.out.trans (hb1.mono (by simp)))
    have HO := Lib.hid (s_own x.nm v1 x.cols Q (w1.alloc (.cells #[.string x.nm, v1] 126)) (hcs1.below (one_new _ _)))
    have hw1 := (Array.getElem?_eq_some_iff.1 x1).1
    obtain ⟨_, A1, c1, rfl, _, _, _⟩ := hcs1
    clear hb1
    go_wp2_with fail
    refine HO.out.mono ?_
    rintro e w2 ⟨v', rfl, hcs, hb2⟩
    have x2 := ((one_new w1 (.cells #[.string x.nm, .slice A1 x.cols.length c1] 126)).trans (hb2.mono (by simp))).block w.heap.size hw1 |>.trans x1
    have HB2 := Lib.hid (HB1.out.trans (((one_new w1 (.cells #[.string x.nm, .slice A1 x.cols.length c1] 126)).trans (hb2.mono (by simp))).mono HB1.out.size))
    obtain ⟨_, A', c', rfl, _, _, _⟩ := hcs
    generalize x.cols.length = nc at *
    have a0 := cell_of_row w2 w.heap.size 0 _ _ _ x2
    have a1 := cell_of_row w2 w.heap.size 1 _ _ _ x2
    have f0 := frozen_of_row w2 w.heap.size 0 _ _ x2
    have f1 := frozen_of_row w2 w.heap.size 1 _ _ x2
    have z2 := set2_heap x2 (.string x.nm) (.slice A' nc c')
    have r0 := cell_of_row _ w.heap.size 0 _ _ _ z2
    have r1 := cell_of_row _ w.heap.size 1 _ _ _ z2
    have hfb := (HB2.out.setCell (p := ⟨w.heap.size, 0, none⟩) (Nat.le_refl _) (.string x.nm)).setCell (p := ⟨w.heap.size, 1, none⟩) (Nat.le_refl _) (.slice A' nc c')
    have HFB := Lib.hid hfb
    clear hb2 x1 x2 z2 hfb HO HF
    go_wp2
    exact bodyPost_ret (v := .tuple #[.agg #[.string x.nm, .slice A' nc c'], .int .i64 0]) (by simp [results, Tryz.results112, r0, r1, go_sem]) rfl ⟨_, _, _, _, rfl, HFB.out⟩

/-- The set that a store has. -/
theorem StoB.set {w : World} {Q : Nat → Prop} {s b : Nat} {os : List Ob} {last : Int} {KL : List Sc} (h : StoB w Q s b os last KL) : SetIs w (fun k => Q k ∨ k = s) s KL := by
  obtain ⟨kv, D, es, h1, h2, _⟩ := h
  exact ⟨kv, cell_of_row w s 0 _ _ _ h1, .inr rfl, h2.imp fun k _ hk => .inl hk⟩
/-- Why an object can not be. -/
def mayR (KL : List Sc) (k : Ky) (c : List V) : Int := if (findS KL k.1).isSome = true ∧ ¬ (nameR k.2.1.data.toList = true ∧ nameR k.2.2.data.toList = true) then 3 else fitsR (findS KL k.1) c

theorem fitsR_none (c : List V) : fitsR none c = 20 := rfl
theorem fitsR_some (x : Sc) (c : List V) : (fitsR (some x) c != 20) = true := by
  show ((if c.length = x.cols.length then (if okCs x.cols c = true then (0 : Int) else 11) else 9) != 20) = true
  split
  · split <;> rfl
  · rfl
set_option maxRecDepth 100000 in
set_option maxHeartbeats 4000000 in
theorem o_fault (Q R : Nat → Prop) (s b : Nat) (os : List Ob) (last : Int) (KL : List Sc) (e : OE) (c : List V) (w : World) (hS : StoB w Q s b os last KL) (hr : IsRow w R e.u c) :
    Calls Tryz.prog 74 #[.pointer (some ⟨s, 0, none⟩), oV e] w fun r w' => r = .returned (.int .i64 (mayR KL e.key c)) ∧ Below w.heap.size w w' := by
  obtain ⟨⟨k1, k2, k3⟩, v, u⟩ := e
  obtain ⟨hl, A, cu, rfl, hA, hrow⟩ := hr
  unfold oV
  simp only
  have hba := one_new w (.cells #[.string k1, .string k2, .string k3, .int .i64 v, .slice A c.length cu] 25)
  have HBA := Lib.hid hba
  have HFT := Lib.hid (fun W (h : Below w.heap.size w W) => s_Fits _ s KL k1 A c c.length cu W (hS.below h).set rfl hl (hrow.keep (Below.keepQ h R)).at)
  have x0 := five_cells (World.alloc_heap_new w (.cells #[.string k1, .string k2, .string k3, .int .i64 v, .slice A c.length cu] 25))
  obtain ⟨a0, a1, a2, a3, a4⟩ := x0
  clear hS hrow hba
  cases hf : findS KL k1 with
  | none =>
    rw [hf, fitsR_none] at HFT
    have HM := Lib.hid (show mayR KL (k1, k2, k3) c = 20 by unfold mayR; simp only [hf]; rfl)
    clear hf
    go_enter Tryz.func74, Tryz.ntmps74
    go_wp2_with fail
    go_region_held3 (fun W : World => W.cell? ⟨w.heap.size, 0, none⟩ = some (.string k1) ∧ W.cell? ⟨w.heap.size, 4, none⟩ = some (.slice A c.length cu)) (go_keep)
      (first | (go_at_call 108; refine (HFT.out _ (by exact HBA.out.drew)).mono ?_; rintro r w1 ⟨rfl, hb1⟩; have HB1 := Lib.hid ((HBA.out.drew).trans (hb1.mono (by simp))); have e0 := (hb1.cell (p := ⟨w.heap.size, 0, none⟩) (by simp)).trans a0; have e1 := (hb1.cell (p := ⟨w.heap.size, 1, none⟩) (by simp)).trans a1; have e2 := (hb1.cell (p := ⟨w.heap.size, 2, none⟩) (by simp)).trans a2; have e4 := (hb1.cell (p := ⟨w.heap.size, 4, none⟩) (by simp)).trans a4; clear hb1))
    go_wp2
    go_ret
    exact ⟨by rw [HM.out]; rfl, HB1.out⟩
  | some x =>
    have h20 := fitsR_some x c
    have HM := Lib.hid (show mayR KL (k1, k2, k3) c = if ¬ (nameR k2.data.toList = true ∧ nameR k3.data.toList = true) then 3 else fitsR (some x) c by unfold mayR; simp only [hf, Option.isSome_some, true_and])
    rw [hf] at HFT
    generalize fitsR (some x) c = fr at *
    clear hf
    go_enter Tryz.func74, Tryz.ntmps74
    go_wp2_with fail
    go_region_held3 (fun W : World => W.cell? ⟨w.heap.size, 0, none⟩ = some (.string k1) ∧ W.cell? ⟨w.heap.size, 4, none⟩ = some (.slice A c.length cu)) (go_keep)
      (first | (go_at_call 108; refine (HFT.out _ (by exact HBA.out.drew)).mono ?_; rintro r w1 ⟨rfl, hb1⟩; have HB1 := Lib.hid ((HBA.out.drew).trans (hb1.mono (by simp))); have e0 := (hb1.cell (p := ⟨w.heap.size, 0, none⟩) (by simp)).trans a0; have e1 := (hb1.cell (p := ⟨w.heap.size, 1, none⟩) (by simp)).trans a1; have e2 := (hb1.cell (p := ⟨w.heap.size, 2, none⟩) (by simp)).trans a2; have e4 := (hb1.cell (p := ⟨w.heap.size, 4, none⟩) (by simp)).trans a4; clear hb1))
    go_wp2_with fail
    refine (s_name k2 w1).mono ?_
    rintro r w2 ⟨rfl, hw2⟩
    have hw2 := hw2.symm
    subst hw2
    rcases Bool.eq_false_or_eq_true (nameR k2.data.toList) with h2 | h2
    · rw [h2]
      go_wp2_with fail
      refine (s_name k3 w1).mono ?_
      rintro r w3 ⟨rfl, hw3⟩
      have hw3 := hw3.symm
      subst hw3
      rcases Bool.eq_false_or_eq_true (nameR k3.data.toList) with h3 | h3
      · rw [h3]
        have HMM := Lib.hid (show mayR KL (k1, k2, k3) c = fr by rw [HM.out, if_neg (by simp [h2, h3])])
        clear h2 h3
        go_wp2
        go_ret
        exact ⟨by rw [HMM.out]; rfl, HB1.out⟩
      · rw [h3]
        have HMM := Lib.hid (show mayR KL (k1, k2, k3) c = 3 by rw [HM.out, if_pos (by simp [h3])])
        clear h2 h3
        go_wp2
        go_ret
        exact ⟨by rw [HMM.out]; rfl, HB1.out⟩
    · rw [h2]
      have HMM := Lib.hid (show mayR KL (k1, k2, k3) c = 3 by rw [HM.out, if_pos (by simp [h2])])
      clear h2
      go_wp2
      go_ret
      exact ⟨by rw [HMM.out]; rfl, HB1.out⟩
end
section
open Go.RowKit Go.Maps

theorem alloc3_new (w : World) (o1 o2 o3 : Obj) : (((w.alloc o1).alloc o2).alloc o3).heap[w.heap.size + 2]? = some o3 := by
  have h := World.alloc_heap_new ((w.alloc o1).alloc o2) o3
  rw [World.size_alloc, World.size_alloc] at h
  exact h
set_option maxRecDepth 100000 in
theorem look_O (W : World) (b : Nat) (D : DataW Value) (es : List OE) (k : Ky) (hown : W.ownsMap Tryz.prog 103 RpO b es.length D) (hr : RelO D es) (hk : kOk k) :
    (Instr.lookup 98 (.map (some b)) (kV k) true).run Tryz.prog W = .ok (.tuple #[orO (findO es k), .bool (findO es k).isSome]) W := by
  obtain ⟨v, ps, hrun, hv⟩ := hown.look_ok (t := 98) lawO Tryz.underlying98 (zeroO W) (show RpO noO = some (.held noO, []) from rfl) (keyOf_ky hk)
  rw [hr.2.1 k hk] at hrun
  unfold RpO at hv
  rw [hr.1 k hk] at hv
  injection hv with hv
  injection hv with hv _
  injection hv with hv
  rw [hv] at hrun
  exact hrun
/-- What find answers. -/
def fndR (KL : List Sc) (os : List Ob) (k : Ky) : Int := if (findS KL k.1).isSome = true then (if (findB os k).isSome = true then 0 else 5) else 20
/-- What find hands back. -/
def FndIs (w' : World) (Q : Nat → Prop) (o : Option Ob) (e : OE) : Prop := match o with
  | some x => e.key = x.key ∧ e.v = x.v ∧ IsRow w' Q e.u x.c
  | none => e = ⟨(⟨#[]⟩, ⟨#[]⟩, ⟨#[]⟩), 0, .slice none 0 0⟩
set_option maxRecDepth 100000 in
set_option maxHeartbeats 400000 in
theorem o_find (Q : Nat → Prop) (s b : Nat) (os : List Ob) (last : Int) (KL : List Sc) (k : Ky) (w : World) (hS : StoB w Q s b os last KL) (hk : kOk k) :
    Calls Tryz.prog 80 #[.pointer (some ⟨s, 0, none⟩), kV k] w fun r w' => ∃ e, r = .returned (.tuple #[oV e, .int .i64 (fndR KL os k)]) ∧ FndIs w' Q (if (findS KL k.1).isSome = true then findB os k else none) e ∧ Below w.heap.size w w' := by
  obtain ⟨k1, k2, k3⟩ := k
  have HS := Lib.hid hS
  have hba := two_new w (.cells #[.string k1, .string k2, .string k3] 103) (.cells #[.string ⟨#[]⟩, .string ⟨#[]⟩, .string ⟨#[]⟩, .int .i64 0, .slice none 0 0] 25)
  have HBA := Lib.hid hba
  have HSA := Lib.hid (hS.below hba)
  have hx0 := ((one_new (w.alloc (.cells #[.string k1, .string k2, .string k3] 103)) (.cells #[.string ⟨#[]⟩, .string ⟨#[]⟩, .string ⟨#[]⟩, .int .i64 0, .slice none 0 0] 25)).block w.heap.size (by simp)).trans (World.alloc_heap_new w _)
  have hy0 := alloc2_new w (.cells #[.string k1, .string k2, .string k3] 103) (.cells #[.string ⟨#[]⟩, .string ⟨#[]⟩, .string ⟨#[]⟩, .int .i64 0, .slice none 0 0] 25)
  have HX0 := Lib.hid hx0
  have HY0 := Lib.hid hy0
  clear hba hx0 hy0
  unfold kV
  have HFP := Lib.hid (fun W (h : Below w.heap.size w W) => s_FindP _ s KL k1 W (hS.below h).set)
  clear hS
  rcases Bool.eq_false_or_eq_true (findS KL k1).isSome with hq | hq
  · have hc : codeS (findS KL k1) = 0 := by unfold codeS; rw [if_pos hq]
    rw [hc] at HFP
    have HFR := Lib.hid (show fndR KL os (k1, k2, k3) = if (findB os (k1, k2, k3)).isSome = true then 0 else 5 by unfold fndR; rw [if_pos hq])
    have HFI := Lib.hid (show (if (findS KL k1).isSome = true then findB os (k1, k2, k3) else none) = findB os (k1, k2, k3) by rw [if_pos hq])
    simp only [hq, if_true]
    clear hq hc
    go_enter Tryz.func80, Tryz.ntmps80
    go_wp2_with fail
    go_region_law (first
      | (go_simp; go_at_call 112; refine (HFP.out _ (by exact HBA.out.drew)).mono ?_; rintro r w1 ⟨nm, A1, n1, c1, rfl, hb1⟩; have HB1 := Lib.hid (HBA.out.drew.trans (hb1.mono (by simp <;> omega))); have HX1 := Lib.hid ((hb1.block w.heap.size (by simp <;> omega)).trans HX0.out); have HX2 := Lib.hid ((hb1.block (w.heap.size + 1) (by simp <;> omega)).trans HY0.out))
      | (go_simp; go_at_call 112; refine (HFP.out _ (by exact (HBA.out.trans ((one_new _ _).mono (by simp <;> omega))).drew)).mono ?_; rintro r w1 ⟨nm, A1, n1, c1, rfl, hb1⟩; have HB1 := Lib.hid ((HBA.out.trans ((one_new _ _).mono (by simp <;> omega))).drew.trans (hb1.mono (by simp <;> omega))); have HX1 := Lib.hid ((hb1.block w.heap.size (by simp <;> omega)).trans (((one_new _ _).block w.heap.size (by simp <;> omega)).trans HX0.out)); have HX2 := Lib.hid ((hb1.block (w.heap.size + 1) (by simp <;> omega)).trans (((one_new _ _).block (w.heap.size + 1) (by simp <;> omega)).trans HY0.out)); have x6 := (hb1.block (w.heap.size + 2) (by simp <;> omega)).trans (alloc3_new _ _ _ _); have e60 := cell_of_row w1 (w.heap.size + 2) 0 _ _ _ x6; have e61 := cell_of_row w1 (w.heap.size + 2) 1 _ _ _ x6; have f60 := frozen_of_row w1 (w.heap.size + 2) 0 _ _ x6; have f61 := frozen_of_row w1 (w.heap.size + 2) 1 _ _ x6; clear x6))
    · have HBQ := Lib.hid (HB1.out.trans ((one_new w1 (.cells #[.string nm, .slice A1 n1 c1] 126)).mono HB1.out.size))
      have HXQ := Lib.hid (((one_new w1 (.cells #[.string nm, .slice A1 n1 c1] 126)).block w.heap.size (Array.getElem?_eq_some_iff.1 HX1.out).1).trans HX1.out)
      have HYQ := Lib.hid (((one_new w1 (.cells #[.string nm, .slice A1 n1 c1] 126)).block (w.heap.size + 1) (Array.getElem?_eq_some_iff.1 HX2.out).1).trans HX2.out)
      generalize (w1.alloc (.cells #[.string nm, .slice A1 n1 c1] 126)) = wq at *
      obtain ⟨kv, D, es, h1w, -, h3w, h4, h5, -, hbl, -, -⟩ := HS.out
      have h1 := (HBQ.out.block s HS.out.lt.1).trans h1w
      have h3 := ownsMapO_block h3w (HBQ.out.block b hbl)
      have cs1 : _ = some (Value.map (some b)) := cell_of_row wq s 1 _ _ _ h1
      have p0 : _ = some (Value.string k1) := cell_of_row wq w.heap.size 0 _ _ _ HXQ.out
      have p1 : _ = some (Value.string k2) := cell_of_row wq w.heap.size 1 _ _ _ HXQ.out
      have p2 : _ = some (Value.string k3) := cell_of_row wq w.heap.size 2 _ _ _ HXQ.out
      have l1 := look_O wq.drew b D es (k1, k2, k3) (ownsMapO_block h3 rfl) h4 hk
      have HYZ := Lib.hid HYQ.out
      have hsz := HBQ.out.size
      have hon := one_new wq (.cells #[.string ⟨#[]⟩, .string ⟨#[]⟩, .string ⟨#[]⟩, .int .i64 0, .slice none 0 0] 25)
      have l2 := look_O (wq.alloc (.cells #[.string ⟨#[]⟩, .string ⟨#[]⟩, .string ⟨#[]⟩, .int .i64 0, .slice none 0 0] 25)).drew b D es (k1, k2, k3) (ownsMapO_block (w' := (wq.alloc (.cells #[.string ⟨#[]⟩, .string ⟨#[]⟩, .string ⟨#[]⟩, .int .i64 0, .slice none 0 0] 25)).drew) h3 (by exact hon.block b h3.lt)) h4 hk
      have ca1 := (hon.cell (p := ⟨s, 1, none⟩) (World.block_lt_of_cell? wq _ cs1)).trans cs1
      have pa0 := (hon.cell (p := ⟨w.heap.size, 0, none⟩) (World.block_lt_of_cell? wq _ p0)).trans p0
      have pa1 := (hon.cell (p := ⟨w.heap.size, 1, none⟩) (World.block_lt_of_cell? wq _ p1)).trans p1
      have pa2 := (hon.cell (p := ⟨w.heap.size, 2, none⟩) (World.block_lt_of_cell? wq _ p2)).trans p2
      unfold kV at l1 l2
      rcases h5.find (k1, k2, k3) with ⟨f1, f2⟩ | ⟨e, o, f1, f2, f3, f4, f5, f6⟩
      · rw [f1] at l1 l2
        unfold orO noO at l1 l2
        clear h1 h1w h3 h3w h4 h5 HFP HX0 HY0 HBA HSA HS HB1 HX1 HX2
        have HYZ2 := Lib.hid (show (wq.alloc (.cells #[.string ⟨#[]⟩, .string ⟨#[]⟩, .string ⟨#[]⟩, .int .i64 0, .slice none 0 0] 25)).drew.heap[w.heap.size + 1]? = some (.cells #[.string ⟨#[]⟩, .string ⟨#[]⟩, .string ⟨#[]⟩, .int .i64 0, .slice none 0 0] 25 (0, 0)) from (hon.block (w.heap.size + 1) (Array.getElem?_eq_some_iff.1 HYQ.out).1).trans HYQ.out)
        have HBZ := Lib.hid ((HBQ.out.trans (hon.mono hsz)).drew)
        have HFM : Hid (findB os (k1, k2, k3) = none) := Lib.hid f2
        clear hon HYQ HXQ HYZ HBQ
        go_wp2_with fail
        go_region
        all_goals
          generalize (wq.alloc (.cells #[.string ⟨#[]⟩, .string ⟨#[]⟩, .string ⟨#[]⟩, .int .i64 0, .slice none 0 0] 25)).drew = wz at *
          obtain ⟨y0, y1, y2, y3, y4, hyz⟩ : ∃ y0 y1 y2 y3 y4, wz.heap[w.heap.size + 1]? = some (.cells #[y0, y1, y2, y3, y4] 25 (0, 0)) := ⟨_, _, _, _, _, HYZ2.out⟩
          obtain ⟨b0, b1, b2, b3, b4⟩ := five_cells hyz
          obtain ⟨g0, g1, g2, g3, g4⟩ := five_thaw hyz
          have HYZ := Lib.hid hyz
          clear hyz HYZ2 l1 l2 cs1 p0 p1 p2 ca1 pa0 pa1 pa2
          go_wp2
          have hfb := set5_below HBZ.out (Nat.le_succ w.heap.size) (.string ⟨#[]⟩) (.string ⟨#[]⟩) (.string ⟨#[]⟩) (.int .i64 0) (.slice none 0 0)
          obtain ⟨r0, r1, r2, r3, r4⟩ := five_cells (set5_heap HYZ.out (.string ⟨#[]⟩) (.string ⟨#[]⟩) (.string ⟨#[]⟩) (.int .i64 0) (.slice none 0 0))
          unfold set5 at r0 r1 r2 r3 r4 hfb
          refine bodyPost_ret (v := .tuple #[noO, .int .i64 5]) (by simp [results, noO, Tryz.results80, r0, r1, r2, r3, r4, go_sem]) rfl ⟨⟨(⟨#[]⟩, ⟨#[]⟩, ⟨#[]⟩), 0, .slice none 0 0⟩, by rw [HFR.out, HFM.out]; rfl, ?_, hfb⟩
          rw [HFM.out]
          rfl
      · obtain ⟨⟨e1, e2, e3⟩, ev, eu⟩ := e
        simp only at f3 f5 f6
        obtain ⟨rfl, rfl, rfl⟩ : e1 = k1 ∧ e2 = k2 ∧ e3 = k3 := by
          simp only [Prod.mk.injEq] at f3
          exact f3
        obtain ⟨hl6, A6, c6, rfl, hA6, hrow6⟩ := f6
        rw [f1] at l1 l2
        unfold orO oV at l1 l2
        simp only at l1 l2
        have hon2 := one_new wq (.cells #[.string e1, .string e2, .string e3, .int .i64 o.v, .slice A6 o.c.length c6] 25)
        have HYZ2 := Lib.hid (show (wq.alloc (.cells #[.string e1, .string e2, .string e3, .int .i64 o.v, .slice A6 o.c.length c6] 25)).drew.heap[w.heap.size + 1]? = some (.cells #[.string ⟨#[]⟩, .string ⟨#[]⟩, .string ⟨#[]⟩, .int .i64 0, .slice none 0 0] 25 (0, 0)) from (hon2.block (w.heap.size + 1) (Array.getElem?_eq_some_iff.1 HYQ.out).1).trans HYQ.out)
        have HDZ := Lib.hid (show (wq.alloc (.cells #[.string e1, .string e2, .string e3, .int .i64 o.v, .slice A6 o.c.length c6] 25)).drew.heap[wq.heap.size]? = some (.cells #[.string e1, .string e2, .string e3, .int .i64 o.v, .slice A6 o.c.length c6] 25 (0, 0)) from World.alloc_heap_new wq _)
        have HBZ := Lib.hid ((HBQ.out.trans (hon2.mono hsz)).drew)
        have HRW2 := Lib.hid hrow6
        have HFM : Hid (findB os (e1, e2, e3) = some o) := Lib.hid f2
        have hlt := (Array.getElem?_eq_some_iff.1 HXQ.out).1
        clear hon hon2 h1 h1w h3 h3w h4 h5 HFP HX0 HY0 HBA HSA HS HB1 HX1 HX2 hrow6 HYQ HXQ HYZ HBQ
        go_wp2_with fail
        go_region
        all_goals
          have hwl : w.heap.size + 1 < (wq.alloc (.cells #[.string e1, .string e2, .string e3, .int .i64 o.v, .slice A6 o.c.length c6] 25)).drew.heap.size := (Array.getElem?_eq_some_iff.1 HYZ2.out).1
          generalize (wq.alloc (.cells #[.string e1, .string e2, .string e3, .int .i64 o.v, .slice A6 o.c.length c6] 25)).drew = wz at *
          obtain ⟨y0, y1, y2, y3, y4, hyz⟩ : ∃ y0 y1 y2 y3 y4, wz.heap[w.heap.size + 1]? = some (.cells #[y0, y1, y2, y3, y4] 25 (0, 0)) := ⟨_, _, _, _, _, HYZ2.out⟩
          obtain ⟨b0, b1, b2, b3, b4⟩ := five_cells hyz
          obtain ⟨g0, g1, g2, g3, g4⟩ := five_thaw hyz
          obtain ⟨d0, d1, d2, d3, d4⟩ := five_cells HDZ.out
          have HYZ := Lib.hid hyz
          clear hyz HYZ2 l1 l2 cs1 p0 p1 p2 ca1 pa0 pa1 pa2 HDZ
          go_wp2
          have hfb := set5_below HBZ.out (Nat.le_succ w.heap.size) (.string e1) (.string e2) (.string e3) (.int .i64 o.v) (.slice A6 o.c.length c6)
          obtain ⟨r0, r1, r2, r3, r4⟩ := five_cells (set5_heap HYZ.out (.string e1) (.string e2) (.string e3) (.int .i64 o.v) (.slice A6 o.c.length c6))
          unfold set5 at r0 r1 r2 r3 r4 hfb
          have hrf := HRW2.out.keep (Below.keepQ hfb Q)
          refine bodyPost_ret (v := .tuple #[oV ⟨(e1, e2, e3), o.v, .slice A6 o.c.length c6⟩, .int .i64 0]) (by simp [results, oV, Tryz.results80, r0, r1, r2, r3, r4, go_sem]) rfl ⟨⟨(e1, e2, e3), o.v, .slice A6 o.c.length c6⟩, by rw [HFR.out, HFM.out]; rfl, ?_, hfb⟩
          rw [HFM.out]
          exact ⟨f4.symm, rfl, hl6, A6, c6, rfl, hA6, hrf⟩
    all_goals
      have HBQ := Lib.hid ((HB1.out.setCell (p := ⟨w.heap.size + 1 + 1, 0, none⟩) (by show w.heap.size ≤ w.heap.size + 1 + 1; omega) (.string nm)).setCell (p := ⟨w.heap.size + 1 + 1, 1, none⟩) (by show w.heap.size ≤ w.heap.size + 1 + 1; omega) (.slice A1 n1 c1))
      have HXQ := Lib.hid ((Below.heap_setCell (w1.setCell ⟨w.heap.size + 1 + 1, 0, none⟩ (.string nm)) ⟨w.heap.size + 1 + 1, 1, none⟩ (.slice A1 n1 c1) w.heap.size (by show w.heap.size ≠ w.heap.size + 1 + 1; omega)).trans ((Below.heap_setCell w1 ⟨w.heap.size + 1 + 1, 0, none⟩ (.string nm) w.heap.size (by show w.heap.size ≠ w.heap.size + 1 + 1; omega)).trans HX1.out))
      have HYQ := Lib.hid ((Below.heap_setCell (w1.setCell ⟨w.heap.size + 1 + 1, 0, none⟩ (.string nm)) ⟨w.heap.size + 1 + 1, 1, none⟩ (.slice A1 n1 c1) (w.heap.size + 1) (by show w.heap.size + 1 ≠ w.heap.size + 1 + 1; omega)).trans ((Below.heap_setCell w1 ⟨w.heap.size + 1 + 1, 0, none⟩ (.string nm) (w.heap.size + 1) (by show w.heap.size + 1 ≠ w.heap.size + 1 + 1; omega)).trans HX2.out))
      generalize ((w1.setCell ⟨w.heap.size + 1 + 1, 0, none⟩ (.string nm)).setCell ⟨w.heap.size + 1 + 1, 1, none⟩ (.slice A1 n1 c1)) = wq at *
      obtain ⟨kv, D, es, h1w, -, h3w, h4, h5, -, hbl, -, -⟩ := HS.out
      have h1 := (HBQ.out.block s HS.out.lt.1).trans h1w
      have h3 := ownsMapO_block h3w (HBQ.out.block b hbl)
      have cs1 : _ = some (Value.map (some b)) := cell_of_row wq s 1 _ _ _ h1
      have p0 : _ = some (Value.string k1) := cell_of_row wq w.heap.size 0 _ _ _ HXQ.out
      have p1 : _ = some (Value.string k2) := cell_of_row wq w.heap.size 1 _ _ _ HXQ.out
      have p2 : _ = some (Value.string k3) := cell_of_row wq w.heap.size 2 _ _ _ HXQ.out
      have l1 := look_O wq.drew b D es (k1, k2, k3) (ownsMapO_block h3 rfl) h4 hk
      have HYZ := Lib.hid HYQ.out
      have hsz := HBQ.out.size
      have hon := one_new wq (.cells #[.string ⟨#[]⟩, .string ⟨#[]⟩, .string ⟨#[]⟩, .int .i64 0, .slice none 0 0] 25)
      have l2 := look_O (wq.alloc (.cells #[.string ⟨#[]⟩, .string ⟨#[]⟩, .string ⟨#[]⟩, .int .i64 0, .slice none 0 0] 25)).drew b D es (k1, k2, k3) (ownsMapO_block (w' := (wq.alloc (.cells #[.string ⟨#[]⟩, .string ⟨#[]⟩, .string ⟨#[]⟩, .int .i64 0, .slice none 0 0] 25)).drew) h3 (by exact hon.block b h3.lt)) h4 hk
      have ca1 := (hon.cell (p := ⟨s, 1, none⟩) (World.block_lt_of_cell? wq _ cs1)).trans cs1
      have pa0 := (hon.cell (p := ⟨w.heap.size, 0, none⟩) (World.block_lt_of_cell? wq _ p0)).trans p0
      have pa1 := (hon.cell (p := ⟨w.heap.size, 1, none⟩) (World.block_lt_of_cell? wq _ p1)).trans p1
      have pa2 := (hon.cell (p := ⟨w.heap.size, 2, none⟩) (World.block_lt_of_cell? wq _ p2)).trans p2
      unfold kV at l1 l2
      rcases h5.find (k1, k2, k3) with ⟨f1, f2⟩ | ⟨e, o, f1, f2, f3, f4, f5, f6⟩
      · rw [f1] at l1 l2
        unfold orO noO at l1 l2
        clear h1 h1w h3 h3w h4 h5 HFP HX0 HY0 HBA HSA HS HB1 HX1 HX2
        have HYZ2 := Lib.hid (show (wq.alloc (.cells #[.string ⟨#[]⟩, .string ⟨#[]⟩, .string ⟨#[]⟩, .int .i64 0, .slice none 0 0] 25)).drew.heap[w.heap.size + 1]? = some (.cells #[.string ⟨#[]⟩, .string ⟨#[]⟩, .string ⟨#[]⟩, .int .i64 0, .slice none 0 0] 25 (0, 0)) from (hon.block (w.heap.size + 1) (Array.getElem?_eq_some_iff.1 HYQ.out).1).trans HYQ.out)
        have HBZ := Lib.hid ((HBQ.out.trans (hon.mono hsz)).drew)
        have HFM : Hid (findB os (k1, k2, k3) = none) := Lib.hid f2
        clear hon HYQ HXQ HYZ HBQ
        go_wp2_with fail
        go_region
        all_goals
          generalize (wq.alloc (.cells #[.string ⟨#[]⟩, .string ⟨#[]⟩, .string ⟨#[]⟩, .int .i64 0, .slice none 0 0] 25)).drew = wz at *
          obtain ⟨y0, y1, y2, y3, y4, hyz⟩ : ∃ y0 y1 y2 y3 y4, wz.heap[w.heap.size + 1]? = some (.cells #[y0, y1, y2, y3, y4] 25 (0, 0)) := ⟨_, _, _, _, _, HYZ2.out⟩
          obtain ⟨b0, b1, b2, b3, b4⟩ := five_cells hyz
          obtain ⟨g0, g1, g2, g3, g4⟩ := five_thaw hyz
          have HYZ := Lib.hid hyz
          clear hyz HYZ2 l1 l2 cs1 p0 p1 p2 ca1 pa0 pa1 pa2
          go_wp2
          have hfb := set5_below HBZ.out (Nat.le_succ w.heap.size) (.string ⟨#[]⟩) (.string ⟨#[]⟩) (.string ⟨#[]⟩) (.int .i64 0) (.slice none 0 0)
          obtain ⟨r0, r1, r2, r3, r4⟩ := five_cells (set5_heap HYZ.out (.string ⟨#[]⟩) (.string ⟨#[]⟩) (.string ⟨#[]⟩) (.int .i64 0) (.slice none 0 0))
          unfold set5 at r0 r1 r2 r3 r4 hfb
          refine bodyPost_ret (v := .tuple #[noO, .int .i64 5]) (by simp [results, noO, Tryz.results80, r0, r1, r2, r3, r4, go_sem]) rfl ⟨⟨(⟨#[]⟩, ⟨#[]⟩, ⟨#[]⟩), 0, .slice none 0 0⟩, by rw [HFR.out, HFM.out]; rfl, ?_, hfb⟩
          rw [HFM.out]
          rfl
      · obtain ⟨⟨e1, e2, e3⟩, ev, eu⟩ := e
        simp only at f3 f5 f6
        obtain ⟨rfl, rfl, rfl⟩ : e1 = k1 ∧ e2 = k2 ∧ e3 = k3 := by
          simp only [Prod.mk.injEq] at f3
          exact f3
        obtain ⟨hl6, A6, c6, rfl, hA6, hrow6⟩ := f6
        rw [f1] at l1 l2
        unfold orO oV at l1 l2
        simp only at l1 l2
        have hon2 := one_new wq (.cells #[.string e1, .string e2, .string e3, .int .i64 o.v, .slice A6 o.c.length c6] 25)
        have HYZ2 := Lib.hid (show (wq.alloc (.cells #[.string e1, .string e2, .string e3, .int .i64 o.v, .slice A6 o.c.length c6] 25)).drew.heap[w.heap.size + 1]? = some (.cells #[.string ⟨#[]⟩, .string ⟨#[]⟩, .string ⟨#[]⟩, .int .i64 0, .slice none 0 0] 25 (0, 0)) from (hon2.block (w.heap.size + 1) (Array.getElem?_eq_some_iff.1 HYQ.out).1).trans HYQ.out)
        have HDZ := Lib.hid (show (wq.alloc (.cells #[.string e1, .string e2, .string e3, .int .i64 o.v, .slice A6 o.c.length c6] 25)).drew.heap[wq.heap.size]? = some (.cells #[.string e1, .string e2, .string e3, .int .i64 o.v, .slice A6 o.c.length c6] 25 (0, 0)) from World.alloc_heap_new wq _)
        have HBZ := Lib.hid ((HBQ.out.trans (hon2.mono hsz)).drew)
        have HRW2 := Lib.hid hrow6
        have HFM : Hid (findB os (e1, e2, e3) = some o) := Lib.hid f2
        have hlt := (Array.getElem?_eq_some_iff.1 HXQ.out).1
        clear hon hon2 h1 h1w h3 h3w h4 h5 HFP HX0 HY0 HBA HSA HS HB1 HX1 HX2 hrow6 HYQ HXQ HYZ HBQ
        go_wp2_with fail
        go_region
        all_goals
          have hwl : w.heap.size + 1 < (wq.alloc (.cells #[.string e1, .string e2, .string e3, .int .i64 o.v, .slice A6 o.c.length c6] 25)).drew.heap.size := (Array.getElem?_eq_some_iff.1 HYZ2.out).1
          generalize (wq.alloc (.cells #[.string e1, .string e2, .string e3, .int .i64 o.v, .slice A6 o.c.length c6] 25)).drew = wz at *
          obtain ⟨y0, y1, y2, y3, y4, hyz⟩ : ∃ y0 y1 y2 y3 y4, wz.heap[w.heap.size + 1]? = some (.cells #[y0, y1, y2, y3, y4] 25 (0, 0)) := ⟨_, _, _, _, _, HYZ2.out⟩
          obtain ⟨b0, b1, b2, b3, b4⟩ := five_cells hyz
          obtain ⟨g0, g1, g2, g3, g4⟩ := five_thaw hyz
          obtain ⟨d0, d1, d2, d3, d4⟩ := five_cells HDZ.out
          have HYZ := Lib.hid hyz
          clear hyz HYZ2 l1 l2 cs1 p0 p1 p2 ca1 pa0 pa1 pa2 HDZ
          go_wp2
          have hfb := set5_below HBZ.out (Nat.le_succ w.heap.size) (.string e1) (.string e2) (.string e3) (.int .i64 o.v) (.slice A6 o.c.length c6)
          obtain ⟨r0, r1, r2, r3, r4⟩ := five_cells (set5_heap HYZ.out (.string e1) (.string e2) (.string e3) (.int .i64 o.v) (.slice A6 o.c.length c6))
          unfold set5 at r0 r1 r2 r3 r4 hfb
          have hrf := HRW2.out.keep (Below.keepQ hfb Q)
          refine bodyPost_ret (v := .tuple #[oV ⟨(e1, e2, e3), o.v, .slice A6 o.c.length c6⟩, .int .i64 0]) (by simp [results, oV, Tryz.results80, r0, r1, r2, r3, r4, go_sem]) rfl ⟨⟨(e1, e2, e3), o.v, .slice A6 o.c.length c6⟩, by rw [HFR.out, HFM.out]; rfl, ?_, hfb⟩
          rw [HFM.out]
          exact ⟨f4.symm, rfl, hl6, A6, c6, rfl, hA6, hrf⟩
  · have hc : codeS (findS KL k1) = 20 := by unfold codeS; rw [hq]; rfl
    rw [hc] at HFP
    have HFR := Lib.hid (show fndR KL os (k1, k2, k3) = 20 by unfold fndR; rw [hq]; rfl)
    have HFI : Hid (∀ W, FndIs W Q (none : Option Ob) ⟨(⟨#[]⟩, ⟨#[]⟩, ⟨#[]⟩), 0, .slice none 0 0⟩) := Lib.hid (fun _ => rfl)
    have hgl : (if (findS KL k1).isSome = true then findB os (k1, k2, k3) else none) = none := by rw [hq]; rfl
    simp only [hgl]
    clear hgl
    clear hq hc
    go_enter Tryz.func80, Tryz.ntmps80
    go_wp2_with fail
    go_region_law (first
      | (go_simp; go_at_call 112; refine (HFP.out _ (by exact HBA.out.drew)).mono ?_; rintro r w1 ⟨nm, A1, n1, c1, rfl, hb1⟩; have HB1 := Lib.hid (HBA.out.drew.trans (hb1.mono (by simp <;> omega))); have HX1 := Lib.hid ((hb1.block w.heap.size (by simp <;> omega)).trans HX0.out); have HX2 := Lib.hid ((hb1.block (w.heap.size + 1) (by simp <;> omega)).trans HY0.out))
      | (go_simp; go_at_call 112; refine (HFP.out _ (by exact (HBA.out.trans ((one_new _ _).mono (by simp <;> omega))).drew)).mono ?_; rintro r w1 ⟨nm, A1, n1, c1, rfl, hb1⟩; have HB1 := Lib.hid ((HBA.out.trans ((one_new _ _).mono (by simp <;> omega))).drew.trans (hb1.mono (by simp <;> omega))); have HX1 := Lib.hid ((hb1.block w.heap.size (by simp <;> omega)).trans (((one_new _ _).block w.heap.size (by simp <;> omega)).trans HX0.out)); have HX2 := Lib.hid ((hb1.block (w.heap.size + 1) (by simp <;> omega)).trans (((one_new _ _).block (w.heap.size + 1) (by simp <;> omega)).trans HY0.out)); have x6 := (hb1.block (w.heap.size + 2) (by simp <;> omega)).trans (alloc3_new _ _ _ _); have e60 := cell_of_row w1 (w.heap.size + 2) 0 _ _ _ x6; have e61 := cell_of_row w1 (w.heap.size + 2) 1 _ _ _ x6; have f60 := frozen_of_row w1 (w.heap.size + 2) 0 _ _ x6; have f61 := frozen_of_row w1 (w.heap.size + 2) 1 _ _ x6; clear x6))
    · have HBQ := Lib.hid (HB1.out.trans ((one_new w1 (.cells #[.string nm, .slice A1 n1 c1] 126)).mono HB1.out.size))
      have HXQ := Lib.hid (((one_new w1 (.cells #[.string nm, .slice A1 n1 c1] 126)).block w.heap.size (Array.getElem?_eq_some_iff.1 HX1.out).1).trans HX1.out)
      have HYQ := Lib.hid (((one_new w1 (.cells #[.string nm, .slice A1 n1 c1] 126)).block (w.heap.size + 1) (Array.getElem?_eq_some_iff.1 HX2.out).1).trans HX2.out)
      generalize (w1.alloc (.cells #[.string nm, .slice A1 n1 c1] 126)) = wq at *
      obtain ⟨y0, y1, y2, y3, y4, hyz⟩ : ∃ y0 y1 y2 y3 y4, wq.heap[w.heap.size + 1]? = some (.cells #[y0, y1, y2, y3, y4] 25 (0, 0)) := ⟨_, _, _, _, _, HYQ.out⟩
      obtain ⟨b0, b1, b2, b3, b4⟩ := five_cells hyz
      obtain ⟨g0, g1, g2, g3, g4⟩ := five_thaw hyz
      have HYZ := Lib.hid hyz
      clear hyz HFP HX0 HY0 HBA HSA HS HXQ HYQ HB1 HX1 HX2
      go_wp2
      have hfb := set5_below HBQ.out (Nat.le_succ w.heap.size) (.string ⟨#[]⟩) (.string ⟨#[]⟩) (.string ⟨#[]⟩) (.int .i64 0) (.slice none 0 0)
      obtain ⟨r0, r1, r2, r3, r4⟩ := five_cells (set5_heap HYZ.out (.string ⟨#[]⟩) (.string ⟨#[]⟩) (.string ⟨#[]⟩) (.int .i64 0) (.slice none 0 0))
      unfold set5 at r0 r1 r2 r3 r4 hfb
      exact bodyPost_ret (v := .tuple #[noO, .int .i64 20]) (by simp [results, noO, Tryz.results80, r0, r1, r2, r3, r4, go_sem]) rfl ⟨⟨(⟨#[]⟩, ⟨#[]⟩, ⟨#[]⟩), 0, .slice none 0 0⟩, by rw [HFR.out]; rfl, HFI.out _, hfb⟩
    all_goals
      have HBQ := Lib.hid ((HB1.out.setCell (p := ⟨w.heap.size + 1 + 1, 0, none⟩) (by show w.heap.size ≤ w.heap.size + 1 + 1; omega) (.string nm)).setCell (p := ⟨w.heap.size + 1 + 1, 1, none⟩) (by show w.heap.size ≤ w.heap.size + 1 + 1; omega) (.slice A1 n1 c1))
      have HXQ := Lib.hid ((Below.heap_setCell (w1.setCell ⟨w.heap.size + 1 + 1, 0, none⟩ (.string nm)) ⟨w.heap.size + 1 + 1, 1, none⟩ (.slice A1 n1 c1) w.heap.size (by show w.heap.size ≠ w.heap.size + 1 + 1; omega)).trans ((Below.heap_setCell w1 ⟨w.heap.size + 1 + 1, 0, none⟩ (.string nm) w.heap.size (by show w.heap.size ≠ w.heap.size + 1 + 1; omega)).trans HX1.out))
      have HYQ := Lib.hid ((Below.heap_setCell (w1.setCell ⟨w.heap.size + 1 + 1, 0, none⟩ (.string nm)) ⟨w.heap.size + 1 + 1, 1, none⟩ (.slice A1 n1 c1) (w.heap.size + 1) (by show w.heap.size + 1 ≠ w.heap.size + 1 + 1; omega)).trans ((Below.heap_setCell w1 ⟨w.heap.size + 1 + 1, 0, none⟩ (.string nm) (w.heap.size + 1) (by show w.heap.size + 1 ≠ w.heap.size + 1 + 1; omega)).trans HX2.out))
      generalize ((w1.setCell ⟨w.heap.size + 1 + 1, 0, none⟩ (.string nm)).setCell ⟨w.heap.size + 1 + 1, 1, none⟩ (.slice A1 n1 c1)) = wq at *
      obtain ⟨y0, y1, y2, y3, y4, hyz⟩ : ∃ y0 y1 y2 y3 y4, wq.heap[w.heap.size + 1]? = some (.cells #[y0, y1, y2, y3, y4] 25 (0, 0)) := ⟨_, _, _, _, _, HYQ.out⟩
      obtain ⟨b0, b1, b2, b3, b4⟩ := five_cells hyz
      obtain ⟨g0, g1, g2, g3, g4⟩ := five_thaw hyz
      have HYZ := Lib.hid hyz
      clear hyz HFP HX0 HY0 HBA HSA HS HXQ HYQ HB1 HX1 HX2
      go_wp2
      have hfb := set5_below HBQ.out (Nat.le_succ w.heap.size) (.string ⟨#[]⟩) (.string ⟨#[]⟩) (.string ⟨#[]⟩) (.int .i64 0) (.slice none 0 0)
      obtain ⟨r0, r1, r2, r3, r4⟩ := five_cells (set5_heap HYZ.out (.string ⟨#[]⟩) (.string ⟨#[]⟩) (.string ⟨#[]⟩) (.int .i64 0) (.slice none 0 0))
      unfold set5 at r0 r1 r2 r3 r4 hfb
      exact bodyPost_ret (v := .tuple #[noO, .int .i64 20]) (by simp [results, noO, Tryz.results80, r0, r1, r2, r3, r4, go_sem]) rfl ⟨⟨(⟨#[]⟩, ⟨#[]⟩, ⟨#[]⟩), 0, .slice none 0 0⟩, by rw [HFR.out]; rfl, HFI.out _, hfb⟩
end
end Go.Proofs.YtdhpoaecedpbdaaGreat
