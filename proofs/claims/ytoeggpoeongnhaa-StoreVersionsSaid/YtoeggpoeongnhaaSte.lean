/-
  find of package store: the object that is there, or why there is none.
  No condition but that texts are no longer than texts can be.
-/
import Derived.Test.YtoeggpoeongnhaaStd
namespace Go.Proofs.Ytoeggpoeongnhaa
open Go.RowKit Go.Maps

theorem alloc3_new (w : World) (o1 o2 o3 : Obj) : (((w.alloc o1).alloc o2).alloc o3).heap[w.heap.size + 2]? = some o3 := by
  have h := World.alloc_heap_new ((w.alloc o1).alloc o2) o3
  rw [World.size_alloc, World.size_alloc] at h
  exact h
set_option maxRecDepth 100000 in
theorem look_O (W : World) (b : Nat) (D : DataW Value) (es : List OE) (k : Ky) (hown : W.ownsMap Try.prog 103 RpO b es.length D) (hr : RelO D es) (hk : kOk k) :
    (Instr.lookup 99 (.map (some b)) (kV k) true).run Try.prog W = .ok (.tuple #[orO (findO es k), .bool (findO es k).isSome]) W := by
  obtain ⟨v, ps, hrun, hv⟩ := hown.look_ok (t := 99) lawO Try.underlying99 (zeroO W) (show RpO noO = some (.held noO, []) from rfl) (keyOf_ky hk)
  rw [hr.2.1 k hk] at hrun
  unfold RpO at hv
  rw [hr.1 k hk] at hv
  injection hv with hv
  injection hv with hv _
  injection hv with hv
  rw [hv] at hrun
  exact hrun
/-- What find answers. -/
def fndR (KL : List Sc) (os : List Ob) (k : Ky) : Int := if (findS KL k.1).isSome = true then (if (findB os k).isSome = true then 0 else 5) else 20
/-- What find hands back. -/
def FndIs (w' : World) (Q : Nat → Prop) (o : Option Ob) (e : OE) : Prop := match o with
  | some x => e.key = x.key ∧ e.v = x.v ∧ IsRow w' Q e.u x.c
  | none => e = ⟨(⟨#[]⟩, ⟨#[]⟩, ⟨#[]⟩), 0, .slice none 0 0⟩
set_option maxRecDepth 100000 in
set_option maxHeartbeats 400000 in
theorem o_find (Q : Nat → Prop) (s b : Nat) (os : List Ob) (last : Int) (KL : List Sc) (k : Ky) (w : World) (hS : StoB w Q s b os last KL) (hk : kOk k) :
    Calls Try.prog 69 #[.pointer (some ⟨s, 0, none⟩), kV k] w fun r w' => ∃ e, r = .returned (.tuple #[oV e, .int .i64 (fndR KL os k)]) ∧ FndIs w' Q (if (findS KL k.1).isSome = true then findB os k else none) e ∧ Below w.heap.size w w' := by
  obtain ⟨k1, k2, k3⟩ := k
  have HS := Lib.hid hS
  have hba := two_new w (.cells #[.string k1, .string k2, .string k3] 103) (.cells #[.string ⟨#[]⟩, .string ⟨#[]⟩, .string ⟨#[]⟩, .int .i64 0, .slice none 0 0] 30)
  have HBA := Lib.hid hba
  have HSA := Lib.hid (hS.below hba)
  have hx0 := ((one_new (w.alloc (.cells #[.string k1, .string k2, .string k3] 103)) (.cells #[.string ⟨#[]⟩, .string ⟨#[]⟩, .string ⟨#[]⟩, .int .i64 0, .slice none 0 0] 30)).block w.heap.size (by simp)).trans (World.alloc_heap_new w _)
  have hy0 := alloc2_new w (.cells #[.string k1, .string k2, .string k3] 103) (.cells #[.string ⟨#[]⟩, .string ⟨#[]⟩, .string ⟨#[]⟩, .int .i64 0, .slice none 0 0] 30)
  have HX0 := Lib.hid hx0
  have HY0 := Lib.hid hy0
  clear hba hx0 hy0
  unfold kV
  have HFP := Lib.hid (fun W (h : Below w.heap.size w W) => s_FindP _ s KL k1 W (hS.below h).set)
  clear hS
  rcases Bool.eq_false_or_eq_true (findS KL k1).isSome with hq | hq
  · have hc : codeS (findS KL k1) = 0 := by unfold codeS; rw [if_pos hq]
    rw [hc] at HFP
    have HFR := Lib.hid (show fndR KL os (k1, k2, k3) = if (findB os (k1, k2, k3)).isSome = true then 0 else 5 by unfold fndR; rw [if_pos hq])
    have HFI := Lib.hid (show (if (findS KL k1).isSome = true then findB os (k1, k2, k3) else none) = findB os (k1, k2, k3) by rw [if_pos hq])
    simp only [hq, if_true]
    clear hq hc
    go_enter Try.func69, Try.ntmps69
    go_wp2_with fail
    go_region_law (first
      | (go_simp; go_at_call 100; refine (HFP.out _ (by exact HBA.out.drew)).mono ?_; rintro r w1 ⟨nm, A1, n1, c1, rfl, hb1⟩; have HB1 := Lib.hid (HBA.out.drew.trans (hb1.mono (by simp <;> omega))); have HX1 := Lib.hid ((hb1.block w.heap.size (by simp <;> omega)).trans HX0.out); have HX2 := Lib.hid ((hb1.block (w.heap.size + 1) (by simp <;> omega)).trans HY0.out))
      | (go_simp; go_at_call 100; refine (HFP.out _ (by exact (HBA.out.trans ((one_new _ _).mono (by simp <;> omega))).drew)).mono ?_; rintro r w1 ⟨nm, A1, n1, c1, rfl, hb1⟩; have HB1 := Lib.hid ((HBA.out.trans ((one_new _ _).mono (by simp <;> omega))).drew.trans (hb1.mono (by simp <;> omega))); have HX1 := Lib.hid ((hb1.block w.heap.size (by simp <;> omega)).trans (((one_new _ _).block w.heap.size (by simp <;> omega)).trans HX0.out)); have HX2 := Lib.hid ((hb1.block (w.heap.size + 1) (by simp <;> omega)).trans (((one_new _ _).block (w.heap.size + 1) (by simp <;> omega)).trans HY0.out)); have x6 := (hb1.block (w.heap.size + 2) (by simp <;> omega)).trans (alloc3_new _ _ _ _); have e60 := cell_of_row w1 (w.heap.size + 2) 0 _ _ _ x6; have e61 := cell_of_row w1 (w.heap.size + 2) 1 _ _ _ x6; have f60 := frozen_of_row w1 (w.heap.size + 2) 0 _ _ x6; have f61 := frozen_of_row w1 (w.heap.size + 2) 1 _ _ x6; clear x6))
    · have HBQ := Lib.hid (HB1.out.trans ((one_new w1 (.cells #[.string nm, .slice A1 n1 c1] 52)).mono HB1.out.size))
      have HXQ := Lib.hid (((one_new w1 (.cells #[.string nm, .slice A1 n1 c1] 52)).block w.heap.size (Array.getElem?_eq_some_iff.1 HX1.out).1).trans HX1.out)
      have HYQ := Lib.hid (((one_new w1 (.cells #[.string nm, .slice A1 n1 c1] 52)).block (w.heap.size + 1) (Array.getElem?_eq_some_iff.1 HX2.out).1).trans HX2.out)
      generalize (w1.alloc (.cells #[.string nm, .slice A1 n1 c1] 52)) = wq at *
      obtain ⟨kv, D, es, h1w, -, h3w, h4, h5, -, hbl, -, -⟩ := HS.out
      have h1 := (HBQ.out.block s HS.out.lt.1).trans h1w
      have h3 := ownsMapO_block h3w (HBQ.out.block b hbl)
      have cs1 : _ = some (Value.map (some b)) := cell_of_row wq s 1 _ _ _ h1
      have p0 : _ = some (Value.string k1) := cell_of_row wq w.heap.size 0 _ _ _ HXQ.out
      have p1 : _ = some (Value.string k2) := cell_of_row wq w.heap.size 1 _ _ _ HXQ.out
      have p2 : _ = some (Value.string k3) := cell_of_row wq w.heap.size 2 _ _ _ HXQ.out
      have l1 := look_O wq.drew b D es (k1, k2, k3) (ownsMapO_block h3 rfl) h4 hk
      have HYZ := Lib.hid HYQ.out
      have hsz := HBQ.out.size
      have hon := one_new wq (.cells #[.string ⟨#[]⟩, .string ⟨#[]⟩, .string ⟨#[]⟩, .int .i64 0, .slice none 0 0] 30)
      have l2 := look_O (wq.alloc (.cells #[.string ⟨#[]⟩, .string ⟨#[]⟩, .string ⟨#[]⟩, .int .i64 0, .slice none 0 0] 30)).drew b D es (k1, k2, k3) (ownsMapO_block (w' := (wq.alloc (.cells #[.string ⟨#[]⟩, .string ⟨#[]⟩, .string ⟨#[]⟩, .int .i64 0, .slice none 0 0] 30)).drew) h3 (by exact hon.block b h3.lt)) h4 hk
      have ca1 := (hon.cell (p := ⟨s, 1, none⟩) (World.block_lt_of_cell? wq _ cs1)).trans cs1
      have pa0 := (hon.cell (p := ⟨w.heap.size, 0, none⟩) (World.block_lt_of_cell? wq _ p0)).trans p0
      have pa1 := (hon.cell (p := ⟨w.heap.size, 1, none⟩) (World.block_lt_of_cell? wq _ p1)).trans p1
      have pa2 := (hon.cell (p := ⟨w.heap.size, 2, none⟩) (World.block_lt_of_cell? wq _ p2)).trans p2
      unfold kV at l1 l2
      rcases h5.find (k1, k2, k3) with ⟨f1, f2⟩ | ⟨e, o, f1, f2, f3, f4, f5, f6⟩
      · rw [f1] at l1 l2
        unfold orO noO at l1 l2
        clear h1 h1w h3 h3w h4 h5 HFP HX0 HY0 HBA HSA HS HB1 HX1 HX2
        have HYZ2 := Lib.hid (show (wq.alloc (.cells #[.string ⟨#[]⟩, .string ⟨#[]⟩, .string ⟨#[]⟩, .int .i64 0, .slice none 0 0] 30)).drew.heap[w.heap.size + 1]? = some (.cells #[.string ⟨#[]⟩, .string ⟨#[]⟩, .string ⟨#[]⟩, .int .i64 0, .slice none 0 0] 30 (0, 0)) from (hon.block (w.heap.size + 1) (Array.getElem?_eq_some_iff.1 HYQ.out).1).trans HYQ.out)
        have HBZ := Lib.hid ((HBQ.out.trans (hon.mono hsz)).drew)
        have HFM : Hid (findB os (k1, k2, k3) = none) := Lib.hid f2
        clear hon HYQ HXQ HYZ HBQ
        go_wp2_with fail
        go_region
        all_goals
          generalize (wq.alloc (.cells #[.string ⟨#[]⟩, .string ⟨#[]⟩, .string ⟨#[]⟩, .int .i64 0, .slice none 0 0] 30)).drew = wz at *
          obtain ⟨y0, y1, y2, y3, y4, hyz⟩ : ∃ y0 y1 y2 y3 y4, wz.heap[w.heap.size + 1]? = some (.cells #[y0, y1, y2, y3, y4] 30 (0, 0)) := ⟨_, _, _, _, _, HYZ2.out⟩
          obtain ⟨b0, b1, b2, b3, b4⟩ := five_cells hyz
          obtain ⟨g0, g1, g2, g3, g4⟩ := five_thaw hyz
          have HYZ := Lib.hid hyz
          clear hyz HYZ2 l1 l2 cs1 p0 p1 p2 ca1 pa0 pa1 pa2
          go_wp2
          have hfb := set5_below HBZ.out (Nat.le_succ w.heap.size) (.string ⟨#[]⟩) (.string ⟨#[]⟩) (.string ⟨#[]⟩) (.int .i64 0) (.slice none 0 0)
          obtain ⟨r0, r1, r2, r3, r4⟩ := five_cells (set5_heap HYZ.out (.string ⟨#[]⟩) (.string ⟨#[]⟩) (.string ⟨#[]⟩) (.int .i64 0) (.slice none 0 0))
          unfold set5 at r0 r1 r2 r3 r4 hfb
          refine bodyPost_ret (v := .tuple #[noO, .int .i64 5]) (by simp [results, noO, Try.results69, r0, r1, r2, r3, r4, go_sem]) rfl ⟨⟨(⟨#[]⟩, ⟨#[]⟩, ⟨#[]⟩), 0, .slice none 0 0⟩, by rw [HFR.out, HFM.out]; rfl, ?_, hfb⟩
          rw [HFM.out]
          rfl
      · obtain ⟨⟨e1, e2, e3⟩, ev, eu⟩ := e
        simp only at f3 f5 f6
        obtain ⟨rfl, rfl, rfl⟩ : e1 = k1 ∧ e2 = k2 ∧ e3 = k3 := by
          simp only [Prod.mk.injEq] at f3
          exact f3
        obtain ⟨hl6, A6, c6, rfl, hA6, hrow6⟩ := f6
        rw [f1] at l1 l2
        unfold orO oV at l1 l2
        simp only at l1 l2
        have hon2 := one_new wq (.cells #[.string e1, .string e2, .string e3, .int .i64 o.v, .slice A6 o.c.length c6] 30)
        have HYZ2 := Lib.hid (show (wq.alloc (.cells #[.string e1, .string e2, .string e3, .int .i64 o.v, .slice A6 o.c.length c6] 30)).drew.heap[w.heap.size + 1]? = some (.cells #[.string ⟨#[]⟩, .string ⟨#[]⟩, .string ⟨#[]⟩, .int .i64 0, .slice none 0 0] 30 (0, 0)) from (hon2.block (w.heap.size + 1) (Array.getElem?_eq_some_iff.1 HYQ.out).1).trans HYQ.out)
        have HDZ := Lib.hid (show (wq.alloc (.cells #[.string e1, .string e2, .string e3, .int .i64 o.v, .slice A6 o.c.length c6] 30)).drew.heap[wq.heap.size]? = some (.cells #[.string e1, .string e2, .string e3, .int .i64 o.v, .slice A6 o.c.length c6] 30 (0, 0)) from World.alloc_heap_new wq _)
        have HBZ := Lib.hid ((HBQ.out.trans (hon2.mono hsz)).drew)
        have HRW2 := Lib.hid hrow6
        have HFM : Hid (findB os (e1, e2, e3) = some o) := Lib.hid f2
        have hlt := (Array.getElem?_eq_some_iff.1 HXQ.out).1
        clear hon hon2 h1 h1w h3 h3w h4 h5 HFP HX0 HY0 HBA HSA HS HB1 HX1 HX2 hrow6 HYQ HXQ HYZ HBQ
        go_wp2_with fail
        go_region
        all_goals
          have hwl : w.heap.size + 1 < (wq.alloc (.cells #[.string e1, .string e2, .string e3, .int .i64 o.v, .slice A6 o.c.length c6] 30)).drew.heap.size := (Array.getElem?_eq_some_iff.1 HYZ2.out).1
          generalize (wq.alloc (.cells #[.string e1, .string e2, .string e3, .int .i64 o.v, .slice A6 o.c.length c6] 30)).drew = wz at *
          obtain ⟨y0, y1, y2, y3, y4, hyz⟩ : ∃ y0 y1 y2 y3 y4, wz.heap[w.heap.size + 1]? = some (.cells #[y0, y1, y2, y3, y4] 30 (0, 0)) := ⟨_, _, _, _, _, HYZ2.out⟩
          obtain ⟨b0, b1, b2, b3, b4⟩ := five_cells hyz
          obtain ⟨g0, g1, g2, g3, g4⟩ := five_thaw hyz
          obtain ⟨d0, d1, d2, d3, d4⟩ := five_cells HDZ.out
          have HYZ := Lib.hid hyz
          clear hyz HYZ2 l1 l2 cs1 p0 p1 p2 ca1 pa0 pa1 pa2 HDZ
          go_wp2
          have hfb := set5_below HBZ.out (Nat.le_succ w.heap.size) (.string e1) (.string e2) (.string e3) (.int .i64 o.v) (.slice A6 o.c.length c6)
          obtain ⟨r0, r1, r2, r3, r4⟩ := five_cells (set5_heap HYZ.out (.string e1) (.string e2) (.string e3) (.int .i64 o.v) (.slice A6 o.c.length c6))
          unfold set5 at r0 r1 r2 r3 r4 hfb
          have hrf := HRW2.out.keep (Below.keepQ hfb Q)
          refine bodyPost_ret (v := .tuple #[oV ⟨(e1, e2, e3), o.v, .slice A6 o.c.length c6⟩, .int .i64 0]) (by simp [results, oV, Try.results69, r0, r1, r2, r3, r4, go_sem]) rfl ⟨⟨(e1, e2, e3), o.v, .slice A6 o.c.length c6⟩, by rw [HFR.out, HFM.out]; rfl, ?_, hfb⟩
          rw [HFM.out]
          exact ⟨f4.symm, rfl, hl6, A6, c6, rfl, hA6, hrf⟩
    all_goals
      have HBQ := Lib.hid ((HB1.out.setCell (p := ⟨w.heap.size + 1 + 1, 0, none⟩) (by show w.heap.size ≤ w.heap.size + 1 + 1; omega) (.string nm)).setCell (p := ⟨w.heap.size + 1 + 1, 1, none⟩) (by show w.heap.size ≤ w.heap.size + 1 + 1; omega) (.slice A1 n1 c1))
      have HXQ := Lib.hid ((Below.heap_setCell (w1.setCell ⟨w.heap.size + 1 + 1, 0, none⟩ (.string nm)) ⟨w.heap.size + 1 + 1, 1, none⟩ (.slice A1 n1 c1) w.heap.size (by show w.heap.size ≠ w.heap.size + 1 + 1; omega)).trans ((Below.heap_setCell w1 ⟨w.heap.size + 1 + 1, 0, none⟩ (.string nm) w.heap.size (by show w.heap.size ≠ w.heap.size + 1 + 1; omega)).trans HX1.out))
      have HYQ := Lib.hid ((Below.heap_setCell (w1.setCell ⟨w.heap.size + 1 + 1, 0, none⟩ (.string nm)) ⟨w.heap.size + 1 + 1, 1, none⟩ (.slice A1 n1 c1) (w.heap.size + 1) (by show w.heap.size + 1 ≠ w.heap.size + 1 + 1; omega)).trans ((Below.heap_setCell w1 ⟨w.heap.size + 1 + 1, 0, none⟩ (.string nm) (w.heap.size + 1) (by show w.heap.size + 1 ≠ w.heap.size + 1 + 1; omega)).trans HX2.out))
      generalize ((w1.setCell ⟨w.heap.size + 1 + 1, 0, none⟩ (.string nm)).setCell ⟨w.heap.size + 1 + 1, 1, none⟩ (.slice A1 n1 c1)) = wq at *
      obtain ⟨kv, D, es, h1w, -, h3w, h4, h5, -, hbl, -, -⟩ := HS.out
      have h1 := (HBQ.out.block s HS.out.lt.1).trans h1w
      have h3 := ownsMapO_block h3w (HBQ.out.block b hbl)
      have cs1 : _ = some (Value.map (some b)) := cell_of_row wq s 1 _ _ _ h1
      have p0 : _ = some (Value.string k1) := cell_of_row wq w.heap.size 0 _ _ _ HXQ.out
      have p1 : _ = some (Value.string k2) := cell_of_row wq w.heap.size 1 _ _ _ HXQ.out
      have p2 : _ = some (Value.string k3) := cell_of_row wq w.heap.size 2 _ _ _ HXQ.out
      have l1 := look_O wq.drew b D es (k1, k2, k3) (ownsMapO_block h3 rfl) h4 hk
      have HYZ := Lib.hid HYQ.out
      have hsz := HBQ.out.size
      have hon := one_new wq (.cells #[.string ⟨#[]⟩, .string ⟨#[]⟩, .string ⟨#[]⟩, .int .i64 0, .slice none 0 0] 30)
      have l2 := look_O (wq.alloc (.cells #[.string ⟨#[]⟩, .string ⟨#[]⟩, .string ⟨#[]⟩, .int .i64 0, .slice none 0 0] 30)).drew b D es (k1, k2, k3) (ownsMapO_block (w' := (wq.alloc (.cells #[.string ⟨#[]⟩, .string ⟨#[]⟩, .string ⟨#[]⟩, .int .i64 0, .slice none 0 0] 30)).drew) h3 (by exact hon.block b h3.lt)) h4 hk
      have ca1 := (hon.cell (p := ⟨s, 1, none⟩) (World.block_lt_of_cell? wq _ cs1)).trans cs1
      have pa0 := (hon.cell (p := ⟨w.heap.size, 0, none⟩) (World.block_lt_of_cell? wq _ p0)).trans p0
      have pa1 := (hon.cell (p := ⟨w.heap.size, 1, none⟩) (World.block_lt_of_cell? wq _ p1)).trans p1
      have pa2 := (hon.cell (p := ⟨w.heap.size, 2, none⟩) (World.block_lt_of_cell? wq _ p2)).trans p2
      unfold kV at l1 l2
      rcases h5.find (k1, k2, k3) with ⟨f1, f2⟩ | ⟨e, o, f1, f2, f3, f4, f5, f6⟩
      · rw [f1] at l1 l2
        unfold orO noO at l1 l2
        clear h1 h1w h3 h3w h4 h5 HFP HX0 HY0 HBA HSA HS HB1 HX1 HX2
        have HYZ2 := Lib.hid (show (wq.alloc (.cells #[.string ⟨#[]⟩, .string ⟨#[]⟩, .string ⟨#[]⟩, .int .i64 0, .slice none 0 0] 30)).drew.heap[w.heap.size + 1]? = some (.cells #[.string ⟨#[]⟩, .string ⟨#[]⟩, .string ⟨#[]⟩, .int .i64 0, .slice none 0 0] 30 (0, 0)) from (hon.block (w.heap.size + 1) (Array.getElem?_eq_some_iff.1 HYQ.out).1).trans HYQ.out)
        have HBZ := Lib.hid ((HBQ.out.trans (hon.mono hsz)).drew)
        have HFM : Hid (findB os (k1, k2, k3) = none) := Lib.hid f2
        clear hon HYQ HXQ HYZ HBQ
        go_wp2_with fail
        go_region
        all_goals
          generalize (wq.alloc (.cells #[.string ⟨#[]⟩, .string ⟨#[]⟩, .string ⟨#[]⟩, .int .i64 0, .slice none 0 0] 30)).drew = wz at *
          obtain ⟨y0, y1, y2, y3, y4, hyz⟩ : ∃ y0 y1 y2 y3 y4, wz.heap[w.heap.size + 1]? = some (.cells #[y0, y1, y2, y3, y4] 30 (0, 0)) := ⟨_, _, _, _, _, HYZ2.out⟩
          obtain ⟨b0, b1, b2, b3, b4⟩ := five_cells hyz
          obtain ⟨g0, g1, g2, g3, g4⟩ := five_thaw hyz
          have HYZ := Lib.hid hyz
          clear hyz HYZ2 l1 l2 cs1 p0 p1 p2 ca1 pa0 pa1 pa2
          go_wp2
          have hfb := set5_below HBZ.out (Nat.le_succ w.heap.size) (.string ⟨#[]⟩) (.string ⟨#[]⟩) (.string ⟨#[]⟩) (.int .i64 0) (.slice none 0 0)
          obtain ⟨r0, r1, r2, r3, r4⟩ := five_cells (set5_heap HYZ.out (.string ⟨#[]⟩) (.string ⟨#[]⟩) (.string ⟨#[]⟩) (.int .i64 0) (.slice none 0 0))
          unfold set5 at r0 r1 r2 r3 r4 hfb
          refine bodyPost_ret (v := .tuple #[noO, .int .i64 5]) (by simp [results, noO, Try.results69, r0, r1, r2, r3, r4, go_sem]) rfl ⟨⟨(⟨#[]⟩, ⟨#[]⟩, ⟨#[]⟩), 0, .slice none 0 0⟩, by rw [HFR.out, HFM.out]; rfl, ?_, hfb⟩
          rw [HFM.out]
          rfl
      · obtain ⟨⟨e1, e2, e3⟩, ev, eu⟩ := e
        simp only at f3 f5 f6
        obtain ⟨rfl, rfl, rfl⟩ : e1 = k1 ∧ e2 = k2 ∧ e3 = k3 := by
          simp only [Prod.mk.injEq] at f3
          exact f3
        obtain ⟨hl6, A6, c6, rfl, hA6, hrow6⟩ := f6
        rw [f1] at l1 l2
        unfold orO oV at l1 l2
        simp only at l1 l2
        have hon2 := one_new wq (.cells #[.string e1, .string e2, .string e3, .int .i64 o.v, .slice A6 o.c.length c6] 30)
        have HYZ2 := Lib.hid (show (wq.alloc (.cells #[.string e1, .string e2, .string e3, .int .i64 o.v, .slice A6 o.c.length c6] 30)).drew.heap[w.heap.size + 1]? = some (.cells #[.string ⟨#[]⟩, .string ⟨#[]⟩, .string ⟨#[]⟩, .int .i64 0, .slice none 0 0] 30 (0, 0)) from (hon2.block (w.heap.size + 1) (Array.getElem?_eq_some_iff.1 HYQ.out).1).trans HYQ.out)
        have HDZ := Lib.hid (show (wq.alloc (.cells #[.string e1, .string e2, .string e3, .int .i64 o.v, .slice A6 o.c.length c6] 30)).drew.heap[wq.heap.size]? = some (.cells #[.string e1, .string e2, .string e3, .int .i64 o.v, .slice A6 o.c.length c6] 30 (0, 0)) from World.alloc_heap_new wq _)
        have HBZ := Lib.hid ((HBQ.out.trans (hon2.mono hsz)).drew)
        have HRW2 := Lib.hid hrow6
        have HFM : Hid (findB os (e1, e2, e3) = some o) := Lib.hid f2
        have hlt := (Array.getElem?_eq_some_iff.1 HXQ.out).1
        clear hon hon2 h1 h1w h3 h3w h4 h5 HFP HX0 HY0 HBA HSA HS HB1 HX1 HX2 hrow6 HYQ HXQ HYZ HBQ
        go_wp2_with fail
        go_region
        all_goals
          have hwl : w.heap.size + 1 < (wq.alloc (.cells #[.string e1, .string e2, .string e3, .int .i64 o.v, .slice A6 o.c.length c6] 30)).drew.heap.size := (Array.getElem?_eq_some_iff.1 HYZ2.out).1
          generalize (wq.alloc (.cells #[.string e1, .string e2, .string e3, .int .i64 o.v, .slice A6 o.c.length c6] 30)).drew = wz at *
          obtain ⟨y0, y1, y2, y3, y4, hyz⟩ : ∃ y0 y1 y2 y3 y4, wz.heap[w.heap.size + 1]? = some (.cells #[y0, y1, y2, y3, y4] 30 (0, 0)) := ⟨_, _, _, _, _, HYZ2.out⟩
          obtain ⟨b0, b1, b2, b3, b4⟩ := five_cells hyz
          obtain ⟨g0, g1, g2, g3, g4⟩ := five_thaw hyz
          obtain ⟨d0, d1, d2, d3, d4⟩ := five_cells HDZ.out
          have HYZ := Lib.hid hyz
          clear hyz HYZ2 l1 l2 cs1 p0 p1 p2 ca1 pa0 pa1 pa2 HDZ
          go_wp2
          have hfb := set5_below HBZ.out (Nat.le_succ w.heap.size) (.string e1) (.string e2) (.string e3) (.int .i64 o.v) (.slice A6 o.c.length c6)
          obtain ⟨r0, r1, r2, r3, r4⟩ := five_cells (set5_heap HYZ.out (.string e1) (.string e2) (.string e3) (.int .i64 o.v) (.slice A6 o.c.length c6))
          unfold set5 at r0 r1 r2 r3 r4 hfb
          have hrf := HRW2.out.keep (Below.keepQ hfb Q)
          refine bodyPost_ret (v := .tuple #[oV ⟨(e1, e2, e3), o.v, .slice A6 o.c.length c6⟩, .int .i64 0]) (by simp [results, oV, Try.results69, r0, r1, r2, r3, r4, go_sem]) rfl ⟨⟨(e1, e2, e3), o.v, .slice A6 o.c.length c6⟩, by rw [HFR.out, HFM.out]; rfl, ?_, hfb⟩
          rw [HFM.out]
          exact ⟨f4.symm, rfl, hl6, A6, c6, rfl, hA6, hrf⟩
  · have hc : codeS (findS KL k1) = 20 := by unfold codeS; rw [hq]; rfl
    rw [hc] at HFP
    have HFR := Lib.hid (show fndR KL os (k1, k2, k3) = 20 by unfold fndR; rw [hq]; rfl)
    have HFI : Hid (∀ W, FndIs W Q (none : Option Ob) ⟨(⟨#[]⟩, ⟨#[]⟩, ⟨#[]⟩), 0, .slice none 0 0⟩) := Lib.hid (fun _ => rfl)
    have hgl : (if (findS KL k1).isSome = true then findB os (k1, k2, k3) else none) = none := by rw [hq]; rfl
    simp only [hgl]
    clear hgl
    clear hq hc
    go_enter Try.func69, Try.ntmps69
    go_wp2_with fail
    go_region_law (first
      | (go_simp; go_at_call 100; refine (HFP.out _ (by exact HBA.out.drew)).mono ?_; rintro r w1 ⟨nm, A1, n1, c1, rfl, hb1⟩; have HB1 := Lib.hid (HBA.out.drew.trans (hb1.mono (by simp <;> omega))); have HX1 := Lib.hid ((hb1.block w.heap.size (by simp <;> omega)).trans HX0.out); have HX2 := Lib.hid ((hb1.block (w.heap.size + 1) (by simp <;> omega)).trans HY0.out))
      | (go_simp; go_at_call 100; refine (HFP.out _ (by exact (HBA.out.trans ((one_new _ _).mono (by simp <;> omega))).drew)).mono ?_; rintro r w1 ⟨nm, A1, n1, c1, rfl, hb1⟩; have HB1 := Lib.hid ((HBA.out.trans ((one_new _ _).mono (by simp <;> omega))).drew.trans (hb1.mono (by simp <;> omega))); have HX1 := Lib.hid ((hb1.block w.heap.size (by simp <;> omega)).trans (((one_new _ _).block w.heap.size (by simp <;> omega)).trans HX0.out)); have HX2 := Lib.hid ((hb1.block (w.heap.size + 1) (by simp <;> omega)).trans (((one_new _ _).block (w.heap.size + 1) (by simp <;> omega)).trans HY0.out)); have x6 := (hb1.block (w.heap.size + 2) (by simp <;> omega)).trans (alloc3_new _ _ _ _); have e60 := cell_of_row w1 (w.heap.size + 2) 0 _ _ _ x6; have e61 := cell_of_row w1 (w.heap.size + 2) 1 _ _ _ x6; have f60 := frozen_of_row w1 (w.heap.size + 2) 0 _ _ x6; have f61 := frozen_of_row w1 (w.heap.size + 2) 1 _ _ x6; clear x6))
    · have HBQ := Lib.hid (HB1.out.trans ((one_new w1 (.cells #[.string nm, .slice A1 n1 c1] 52)).mono HB1.out.size))
      have HXQ := Lib.hid (((one_new w1 (.cells #[.string nm, .slice A1 n1 c1] 52)).block w.heap.size (Array.getElem?_eq_some_iff.1 HX1.out).1).trans HX1.out)
      have HYQ := Lib.hid (((one_new w1 (.cells #[.string nm, .slice A1 n1 c1] 52)).block (w.heap.size + 1) (Array.getElem?_eq_some_iff.1 HX2.out).1).trans HX2.out)
      generalize (w1.alloc (.cells #[.string nm, .slice A1 n1 c1] 52)) = wq at *
      obtain ⟨y0, y1, y2, y3, y4, hyz⟩ : ∃ y0 y1 y2 y3 y4, wq.heap[w.heap.size + 1]? = some (.cells #[y0, y1, y2, y3, y4] 30 (0, 0)) := ⟨_, _, _, _, _, HYQ.out⟩
      obtain ⟨b0, b1, b2, b3, b4⟩ := five_cells hyz
      obtain ⟨g0, g1, g2, g3, g4⟩ := five_thaw hyz
      have HYZ := Lib.hid hyz
      clear hyz HFP HX0 HY0 HBA HSA HS HXQ HYQ HB1 HX1 HX2
      go_wp2
      have hfb := set5_below HBQ.out (Nat.le_succ w.heap.size) (.string ⟨#[]⟩) (.string ⟨#[]⟩) (.string ⟨#[]⟩) (.int .i64 0) (.slice none 0 0)
      obtain ⟨r0, r1, r2, r3, r4⟩ := five_cells (set5_heap HYZ.out (.string ⟨#[]⟩) (.string ⟨#[]⟩) (.string ⟨#[]⟩) (.int .i64 0) (.slice none 0 0))
      unfold set5 at r0 r1 r2 r3 r4 hfb
      exact bodyPost_ret (v := .tuple #[noO, .int .i64 20]) (by simp [results, noO, Try.results69, r0, r1, r2, r3, r4, go_sem]) rfl ⟨⟨(⟨#[]⟩, ⟨#[]⟩, ⟨#[]⟩), 0, .slice none 0 0⟩, by rw [HFR.out]; rfl, HFI.out _, hfb⟩
    all_goals
      have HBQ := Lib.hid ((HB1.out.setCell (p := ⟨w.heap.size + 1 + 1, 0, none⟩) (by show w.heap.size ≤ w.heap.size + 1 + 1; omega) (.string nm)).setCell (p := ⟨w.heap.size + 1 + 1, 1, none⟩) (by show w.heap.size ≤ w.heap.size + 1 + 1; omega) (.slice A1 n1 c1))
      have HXQ := Lib.hid ((Below.heap_setCell (w1.setCell ⟨w.heap.size + 1 + 1, 0, none⟩ (.string nm)) ⟨w.heap.size + 1 + 1, 1, none⟩ (.slice A1 n1 c1) w.heap.size (by show w.heap.size ≠ w.heap.size + 1 + 1; omega)).trans ((Below.heap_setCell w1 ⟨w.heap.size + 1 + 1, 0, none⟩ (.string nm) w.heap.size (by show w.heap.size ≠ w.heap.size + 1 + 1; omega)).trans HX1.out))
      have HYQ := Lib.hid ((Below.heap_setCell (w1.setCell ⟨w.heap.size + 1 + 1, 0, none⟩ (.string nm)) ⟨w.heap.size + 1 + 1, 1, none⟩ (.slice A1 n1 c1) (w.heap.size + 1) (by show w.heap.size + 1 ≠ w.heap.size + 1 + 1; omega)).trans ((Below.heap_setCell w1 ⟨w.heap.size + 1 + 1, 0, none⟩ (.string nm) (w.heap.size + 1) (by show w.heap.size + 1 ≠ w.heap.size + 1 + 1; omega)).trans HX2.out))
      generalize ((w1.setCell ⟨w.heap.size + 1 + 1, 0, none⟩ (.string nm)).setCell ⟨w.heap.size + 1 + 1, 1, none⟩ (.slice A1 n1 c1)) = wq at *
      obtain ⟨y0, y1, y2, y3, y4, hyz⟩ : ∃ y0 y1 y2 y3 y4, wq.heap[w.heap.size + 1]? = some (.cells #[y0, y1, y2, y3, y4] 30 (0, 0)) := ⟨_, _, _, _, _, HYQ.out⟩
      obtain ⟨b0, b1, b2, b3, b4⟩ := five_cells hyz
      obtain ⟨g0, g1, g2, g3, g4⟩ := five_thaw hyz
      have HYZ := Lib.hid hyz
      clear hyz HFP HX0 HY0 HBA HSA HS HXQ HYQ HB1 HX1 HX2
      go_wp2
      have hfb := set5_below HBQ.out (Nat.le_succ w.heap.size) (.string ⟨#[]⟩) (.string ⟨#[]⟩) (.string ⟨#[]⟩) (.int .i64 0) (.slice none 0 0)
      obtain ⟨r0, r1, r2, r3, r4⟩ := five_cells (set5_heap HYZ.out (.string ⟨#[]⟩) (.string ⟨#[]⟩) (.string ⟨#[]⟩) (.int .i64 0) (.slice none 0 0))
      unfold set5 at r0 r1 r2 r3 r4 hfb
      exact bodyPost_ret (v := .tuple #[noO, .int .i64 20]) (by simp [results, noO, Try.results69, r0, r1, r2, r3, r4, go_sem]) rfl ⟨⟨(⟨#[]⟩, ⟨#[]⟩, ⟨#[]⟩), 0, .slice none 0 0⟩, by rw [HFR.out]; rfl, HFI.out _, hfb⟩
end Go.Proofs.Ytoeggpoeongnhaa
