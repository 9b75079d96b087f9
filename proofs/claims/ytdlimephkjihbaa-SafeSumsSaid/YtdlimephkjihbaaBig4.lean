/-
  The document's own sum of any two numbers in digits; the number that digits are, or that it does not fit; and whether it is below, at, or above 0; in every world, nothing that was there is changed.
  No condition but that two summands together have no more than twenty digits.
-/
import Derived.Test.YtdlimephkjihbaaBig3
import Derived.Test.YtdlimephkjihbaaSsum
namespace Go.Proofs.Ytdlimephkjihbaa
open Go.RowKit

/-- Digits that lie in another block stay while a number's place is written. -/
theorem dig_far {w : World} {A : Option Addr} {ds : List Nat} (h : DigAt w w.heap.size A ds) (g : Nat) (u0 u1 : Value) (hg : ∀ a : Addr, A = some a → g < a.block) : DigAt ((w.setCell ⟨g, 0, none⟩ u0).setCell ⟨g, 1, none⟩ u1) ((w.setCell ⟨g, 0, none⟩ u0).setCell ⟨g, 1, none⟩ u1).heap.size A ds := by
  intro i d hi
  obtain ⟨a, ha, hlt, hc⟩ := h i d hi
  have hne := hg a ha
  have hb : (a.add i).block = a.block := by unfold Addr.add; split <;> rfl
  refine ⟨a, ha, ?_, ?_⟩
  · have h1 : ((w.setCell ⟨g, 0, none⟩ u0).setCell ⟨g, 1, none⟩ u1).heap.size = w.heap.size := by simp
    rw [h1]
    exact hlt
  · have e1 : ∀ (W : World) (o : Nat) (u : Value), (W.setCell ⟨g, o, none⟩ u).cell? (a.add i) = W.cell? (a.add i) := by
      intro W o u
      unfold World.cell?
      rw [heap_setCell_other W ⟨g, o, none⟩ (a.add i).block u (by rw [hb]; show a.block ≠ g; omega)]
    rw [e1, e1]
    exact hc

set_option maxRecDepth 100000 in
set_option maxHeartbeats 2000000 in
theorem plus_lt_true_false (A B : Option Addr) (xs ys : List Nat) (n m c c' : Nat) (w : World) (hn : n = xs.length) (hm : m = ys.length) (ha : Dig xs) (hb : Dig ys) (hlt : val xs < val ys) (hx : DigAt w w.heap.size A xs) (hy : DigAt w w.heap.size B ys) :
    Calls Try.prog 25 #[.agg #[.bool true, .slice A n c], .agg #[.bool false, .slice B m c']] w (GivesBig w (sg false (val ys - val xs))) := by
  have HLS := Lib.hid (fun W (h : Below w.heap.size w W) => big_less true false A B xs ys n m c c' W hn hm ha hb (hx.later h) (hy.later h))
  have HPL := Lib.hid (fun W (h : Below w.heap.size w W) => plus_ge_false_true B A ys xs m n c' c W hm hn hb ha (Nat.le_of_lt hlt) (hy.later h) (hx.later h))
  have HDec : Hid (decide (val xs < val ys) = true) := Lib.hid (by rw [decide_eq_true_eq]; exact hlt)
  clear hn hm ha hb hx hy hlt
  go_enter Try.func25, Try.ntmps25
  go_wp2_with fail
  refine (HLS.out _ (by exact three_new _ _ _ _)).mono ?_
  rintro e w1 ⟨rfl, hb1⟩
  rw [HDec.out]
  have K1 := Lib.hid ((((BBlk.new w _ true (.slice A n c) rfl).alloc (.cells #[.bool false, .slice B m c'] 41)).alloc (.cells #[.bool false, .slice none 0 0] 41)).below hb1 (by simp; omega))
  have K2 := Lib.hid (((BBlk.new (w.alloc (.cells #[.bool true, .slice A n c] 41)) (w.heap.size + 1) false (.slice B m c') (by simp)).alloc (.cells #[.bool false, .slice none 0 0] 41)).below hb1 (by simp))
  have K3 := Lib.hid ((BBlk.new ((w.alloc (.cells #[.bool true, .slice A n c] 41)).alloc (.cells #[.bool false, .slice B m c'] 41)) (w.heap.size + 1 + 1) false (.slice none 0 0) (by simp)).below hb1 (by simp))
  have KB := Lib.hid ((three_new w (.cells #[.bool true, .slice A n c] 41) (.cells #[.bool false, .slice B m c'] 41) (.cells #[.bool false, .slice none 0 0] 41)).trans (hb1.mono (by simp; omega)))
  clear hb1
  obtain ⟨i0, i1⟩ := K1.out.cells
  obtain ⟨j0, j1⟩ := K2.out.cells
  go_wp2_with fail
  refine (HPL.out _ (by exact KB.out)).mono ?_
  rintro e w2 ⟨v2, rfl, ⟨ng, Ar, nr, cr, ds, rfl, hnr, hdr, hdd, hz⟩, hb2, hfr⟩
  have HNR := Lib.hid hnr
  have K4 := Lib.hid (K3.out.below hb2 K3.out.lt)
  obtain ⟨y0, y1⟩ := K4.out.cells
  obtain ⟨e0, e1⟩ := K4.out.free
  have KB2 := Lib.hid (KB.out.trans (hb2.mono KB.out.size))
  have HDR := Lib.hid hdr
  have HFR := Lib.hid hfr
  have hlt3 := K3.out.lt
  have HDD := Lib.hid hdd
  have HZ := Lib.hid hz
  clear hnr hdr hdd hz hb2 hfr
  go_wp2
  obtain ⟨r0, r1⟩ := ((K4.out.set0 ng).set1 (.slice Ar nr cr)).cells
  refine bodyPost_ret (v := .agg #[.bool ng, .slice Ar nr cr]) (by simp [results, Try.results25, r0, r1, go_sem]) rfl ⟨_, rfl, ⟨ng, Ar, nr, cr, ds, rfl, HNR.out, ?_, HDD.out, HZ.out⟩, ?_, ?_⟩
  · exact dig_far HDR.out (w.heap.size + 1 + 1) _ _ (fun a ha => by have := HFR.out _ _ _ _ rfl a ha; omega)
  · exact (KB2.out.setCell (by simp; omega) _).setCell (by simp; omega) _
  · intro ng' A' n' c'' hv a ha
    have h := HFR.out ng' A' n' c'' hv a ha
    omega

set_option maxRecDepth 100000 in
set_option maxHeartbeats 2000000 in
theorem plus_lt_false_true (A B : Option Addr) (xs ys : List Nat) (n m c c' : Nat) (w : World) (hn : n = xs.length) (hm : m = ys.length) (ha : Dig xs) (hb : Dig ys) (hlt : val xs < val ys) (hx : DigAt w w.heap.size A xs) (hy : DigAt w w.heap.size B ys) :
    Calls Try.prog 25 #[.agg #[.bool false, .slice A n c], .agg #[.bool true, .slice B m c']] w (GivesBig w (sg true (val ys - val xs))) := by
  have HLS := Lib.hid (fun W (h : Below w.heap.size w W) => big_less false true A B xs ys n m c c' W hn hm ha hb (hx.later h) (hy.later h))
  have HPL := Lib.hid (fun W (h : Below w.heap.size w W) => plus_ge_true_false B A ys xs m n c' c W hm hn hb ha (Nat.le_of_lt hlt) (hy.later h) (hx.later h))
  have HDec : Hid (decide (val xs < val ys) = true) := Lib.hid (by rw [decide_eq_true_eq]; exact hlt)
  clear hn hm ha hb hx hy hlt
  go_enter Try.func25, Try.ntmps25
  go_wp2_with fail
  refine (HLS.out _ (by exact three_new _ _ _ _)).mono ?_
  rintro e w1 ⟨rfl, hb1⟩
  rw [HDec.out]
  have K1 := Lib.hid ((((BBlk.new w _ false (.slice A n c) rfl).alloc (.cells #[.bool true, .slice B m c'] 41)).alloc (.cells #[.bool false, .slice none 0 0] 41)).below hb1 (by simp; omega))
  have K2 := Lib.hid (((BBlk.new (w.alloc (.cells #[.bool false, .slice A n c] 41)) (w.heap.size + 1) true (.slice B m c') (by simp)).alloc (.cells #[.bool false, .slice none 0 0] 41)).below hb1 (by simp))
  have K3 := Lib.hid ((BBlk.new ((w.alloc (.cells #[.bool false, .slice A n c] 41)).alloc (.cells #[.bool true, .slice B m c'] 41)) (w.heap.size + 1 + 1) false (.slice none 0 0) (by simp)).below hb1 (by simp))
  have KB := Lib.hid ((three_new w (.cells #[.bool false, .slice A n c] 41) (.cells #[.bool true, .slice B m c'] 41) (.cells #[.bool false, .slice none 0 0] 41)).trans (hb1.mono (by simp; omega)))
  clear hb1
  obtain ⟨i0, i1⟩ := K1.out.cells
  obtain ⟨j0, j1⟩ := K2.out.cells
  go_wp2_with fail
  refine (HPL.out _ (by exact KB.out)).mono ?_
  rintro e w2 ⟨v2, rfl, ⟨ng, Ar, nr, cr, ds, rfl, hnr, hdr, hdd, hz⟩, hb2, hfr⟩
  have HNR := Lib.hid hnr
  have K4 := Lib.hid (K3.out.below hb2 K3.out.lt)
  obtain ⟨y0, y1⟩ := K4.out.cells
  obtain ⟨e0, e1⟩ := K4.out.free
  have KB2 := Lib.hid (KB.out.trans (hb2.mono KB.out.size))
  have HDR := Lib.hid hdr
  have HFR := Lib.hid hfr
  have hlt3 := K3.out.lt
  have HDD := Lib.hid hdd
  have HZ := Lib.hid hz
  clear hnr hdr hdd hz hb2 hfr
  go_wp2
  obtain ⟨r0, r1⟩ := ((K4.out.set0 ng).set1 (.slice Ar nr cr)).cells
  refine bodyPost_ret (v := .agg #[.bool ng, .slice Ar nr cr]) (by simp [results, Try.results25, r0, r1, go_sem]) rfl ⟨_, rfl, ⟨ng, Ar, nr, cr, ds, rfl, HNR.out, ?_, HDD.out, HZ.out⟩, ?_, ?_⟩
  · exact dig_far HDR.out (w.heap.size + 1 + 1) _ _ (fun a ha => by have := HFR.out _ _ _ _ rfl a ha; omega)
  · exact (KB2.out.setCell (by simp; omega) _).setCell (by simp; omega) _
  · intro ng' A' n' c'' hv a ha
    have h := HFR.out ng' A' n' c'' hv a ha
    omega


theorem sg_true (u : Nat) : sg true u = -(u : Int) := rfl
theorem sg_false (u : Nat) : sg false u = (u : Int) := rfl
theorem sg_abs {ng : Bool} {u : Nat} {z : Int} (h : z = sg ng u) : z.natAbs = u := by
  unfold sg at h
  split at h <;> omega

theorem big_plus (v1 v2 : Value) (z1 z2 : Int) (w : World) (h1 : BigIs w v1 z1) (h2 : BigIs w v2 z2) (hlim : Hid (z1.natAbs + z2.natAbs < lim)) : Calls Try.prog 25 #[v1, v2] w (GivesBig w (z1 + z2)) := by
  obtain ⟨g1, A, n, c, xs, rfl, hn, hx, ha, e1⟩ := h1
  obtain ⟨g2, B, m, c', ys, rfl, hm, hy, hb, e2⟩ := h2
  have l1 := sg_abs e1
  have l2 := sg_abs e2
  rw [l1, l2] at hlim
  rcases Nat.lt_or_ge (val xs) (val ys) with hlt | hge
  · cases g1 <;> cases g2
    · have h := plus_same_false A B xs ys n m c c' w hn hm ha hb hlim hx hy
      have e : sg false (val xs + val ys) = z1 + z2 := by rw [e1, e2]; (repeat rw [sg_true]); (repeat rw [sg_false]); omega
      rwa [e] at h
    · have h := plus_lt_false_true A B xs ys n m c c' w hn hm ha hb hlt hx hy
      have e : sg true (val ys - val xs) = z1 + z2 := by rw [e1, e2]; (repeat rw [sg_true]); (repeat rw [sg_false]); omega
      rwa [e] at h
    · have h := plus_lt_true_false A B xs ys n m c c' w hn hm ha hb hlt hx hy
      have e : sg false (val ys - val xs) = z1 + z2 := by rw [e1, e2]; (repeat rw [sg_true]); (repeat rw [sg_false]); omega
      rwa [e] at h
    · have h := plus_same_true A B xs ys n m c c' w hn hm ha hb hlim hx hy
      have e : sg true (val xs + val ys) = z1 + z2 := by rw [e1, e2]; (repeat rw [sg_true]); (repeat rw [sg_false]); omega
      rwa [e] at h
  · cases g1 <;> cases g2
    · have h := plus_same_false A B xs ys n m c c' w hn hm ha hb hlim hx hy
      have e : sg false (val xs + val ys) = z1 + z2 := by rw [e1, e2]; (repeat rw [sg_true]); (repeat rw [sg_false]); omega
      rwa [e] at h
    · have h := plus_ge_false_true A B xs ys n m c c' w hn hm ha hb hge hx hy
      have e : sg false (val xs - val ys) = z1 + z2 := by rw [e1, e2]; (repeat rw [sg_true]); (repeat rw [sg_false]); omega
      rwa [e] at h
    · have h := plus_ge_true_false A B xs ys n m c c' w hn hm ha hb hge hx hy
      have e : sg true (val xs - val ys) = z1 + z2 := by rw [e1, e2]; (repeat rw [sg_true]); (repeat rw [sg_false]); omega
      rwa [e] at h
    · have h := plus_same_true A B xs ys n m c c' w hn hm ha hb hlim hx hy
      have e : sg true (val xs + val ys) = z1 + z2 := by rw [e1, e2]; (repeat rw [sg_true]); (repeat rw [sg_false]); omega
      rwa [e] at h
end Go.Proofs.Ytdlimephkjihbaa
