/-
  What no store answers.
  No condition but that a row has no more than a million cells.
-/
import Derived.Test.YtoeggpoeongnhaaStc
namespace Go.Proofs.Ytoeggpoeongnhaa
open Go.RowKit Go.Maps

set_option maxRecDepth 100000 in
set_option maxHeartbeats 1000000 in
theorem o_find_nil (k : Ky) (w : World) : Calls Try.prog 69 #[.pointer none, kV k] w fun r w' => r = .returned (.tuple #[noO, .int .i64 1]) ∧ Below w.heap.size w w' := by
  obtain ⟨k1, k2, k3⟩ := k
  unfold kV
  go_enter Try.func69, Try.ntmps69
  go_wp2
  exact bodyPost_ret (v := .tuple #[noO, .int .i64 1]) (by simp [results, noO, Try.results69, go_sem]) rfl ⟨rfl, two_new w _ _⟩
set_option maxRecDepth 100000 in
set_option maxHeartbeats 1000000 in
theorem o_fault_nil (k1 k2 k3 : ByteArray) (v : Int) (A : Option Addr) (n c : Nat) (w : World) : Calls Try.prog 66 #[.pointer none, .agg #[.string k1, .string k2, .string k3, .int .i64 v, .slice A n c]] w fun r w' => r = .returned (.int .i64 1) ∧ Below w.heap.size w w' := by
  go_enter Try.func66, Try.ntmps66
  go_wp2
  go_ret
  exact ⟨rfl, one_new w _⟩
set_option maxRecDepth 100000 in
set_option maxHeartbeats 1000000 in
theorem o_insert_nil (k1 k2 k3 : ByteArray) (v : Int) (A : Option Addr) (n c : Nat) (w : World) : Calls Try.prog 24 #[.pointer none, .agg #[.string k1, .string k2, .string k3, .int .i64 v, .slice A n c]] w fun r w' => r = .returned (.tuple #[.int .i64 0, .int .i64 1]) ∧ Below w.heap.size w w' := by
  go_enter Try.func24, Try.ntmps24
  go_wp2_with fail
  refine (o_fault_nil k1 k2 k3 v A n c _).mono ?_
  rintro r w1 ⟨rfl, hb1⟩
  have HB1 := Lib.hid ((one_new w _).trans (hb1.mono (by simp)))
  clear hb1
  go_wp2
  go_ret2
  exact ⟨rfl, HB1.out⟩
set_option maxRecDepth 100000 in
set_option maxHeartbeats 1000000 in
theorem o_update_nil (k1 k2 k3 : ByteArray) (v : Int) (A : Option Addr) (n c : Nat) (w : World) : Calls Try.prog 25 #[.pointer none, .agg #[.string k1, .string k2, .string k3, .int .i64 v, .slice A n c]] w fun r w' => r = .returned (.tuple #[.int .i64 0, .int .i64 1]) ∧ Below w.heap.size w w' := by
  go_enter Try.func25, Try.ntmps25
  go_wp2_with fail
  refine (o_fault_nil k1 k2 k3 v A n c _).mono ?_
  rintro r w1 ⟨rfl, hb1⟩
  have HB1 := Lib.hid ((one_new w _).trans (hb1.mono (by simp)))
  clear hb1
  go_wp2
  go_ret2
  exact ⟨rfl, HB1.out⟩
set_option maxRecDepth 100000 in
set_option maxHeartbeats 1000000 in
theorem o_delete_nil (k1 k2 k3 : ByteArray) (v : Int) (w : World) : Calls Try.prog 26 #[.pointer none, .string k1, .string k2, .string k3, .int .i64 v] w fun r w' => r = .returned (.int .i64 1) ∧ Below w.heap.size w w' := by
  have HF := Lib.hid (fun W => o_find_nil (k1, k2, k3) W)
  unfold kV noO at HF
  simp only at HF
  go_enter Try.func26, Try.ntmps26
  go_wp2_with fail
  refine (HF.out _).mono ?_
  rintro r w1 ⟨rfl, hb1⟩
  have HB1 := Lib.hid ((one_new w _).trans (hb1.mono (by simp)))
  clear hb1
  go_wp2
  go_ret
  exact ⟨rfl, HB1.out.trans ((one_new w1 _).mono HB1.out.size)⟩
set_option maxRecDepth 100000 in
set_option maxHeartbeats 2000000 in
theorem o_get_nil (k1 k2 k3 : ByteArray) (w : World) : Calls Try.prog 29 #[.pointer none, .string k1, .string k2, .string k3] w fun r w' => ∃ A n c, r = .returned (.tuple #[.agg #[.string ⟨#[]⟩, .string ⟨#[]⟩, .string ⟨#[]⟩, .int .i64 0, .slice A n c], .int .i64 1]) ∧ Below w.heap.size w w' := by
  have HF := Lib.hid (fun W => o_find_nil (k1, k2, k3) W)
  have HO := Lib.hid (fun W => o_own (fun _ => True) ⟨(⟨#[]⟩, ⟨#[]⟩, ⟨#[]⟩), 0, .slice none 0 0⟩ [] W ⟨by simp, none, 0, rfl, fun _ => rfl, fun i x hi => by simp at hi⟩)
  unfold kV noO at HF
  unfold oV at HO
  simp only at HF HO
  go_enter Try.func29, Try.ntmps29
  go_wp2_with fail
  refine (HF.out _).mono ?_
  rintro r w1 ⟨rfl, hb1⟩
  have HB1 := Lib.hid ((one_new w _).trans (hb1.mono (by simp)))
  have HX1 := Lib.hid ((hb1.block w.heap.size (by simp)).trans (World.alloc_heap_new w _))
  clear hb1
  go_wp2_with fail
  refine (HO.out _).mono ?_
  rintro r w2 ⟨u', rfl, hrow, hb2⟩
  obtain ⟨_, A', c', rfl, _, _⟩ := hrow
  have hon := one_new w1 (.cells #[.string ⟨#[]⟩, .string ⟨#[]⟩, .string ⟨#[]⟩, .int .i64 0, .slice none 0 0] 30)
  have hb12 := hon.trans (hb2.mono (by simp))
  have HB2 := Lib.hid (HB1.out.trans (hb12.mono HB1.out.size))
  obtain ⟨y0, y1, y2, y3, y4, hyz⟩ : ∃ y0 y1 y2 y3 y4, w2.heap[w.heap.size]? = some (.cells #[y0, y1, y2, y3, y4] 30 (0, 0)) := ⟨_, _, _, _, _, (hb12.block w.heap.size (Array.getElem?_eq_some_iff.1 HX1.out).1).trans HX1.out⟩
  obtain ⟨b0, b1, b2, b3, b4⟩ := five_cells hyz
  obtain ⟨g0, g1, g2, g3, g4⟩ := five_thaw hyz
  have HYZ := Lib.hid hyz
  clear hyz HF HO hb2 hb12 hon HX1
  simp only [List.length_nil]
  go_wp2
  have hfb := set5_below HB2.out (Nat.le_refl w.heap.size) (.string ⟨#[]⟩) (.string ⟨#[]⟩) (.string ⟨#[]⟩) (.int .i64 0) (.slice A' 0 c')
  obtain ⟨r0, r1, r2, r3, r4⟩ := five_cells (set5_heap HYZ.out (.string ⟨#[]⟩) (.string ⟨#[]⟩) (.string ⟨#[]⟩) (.int .i64 0) (.slice A' 0 c'))
  unfold set5 at r0 r1 r2 r3 r4 hfb
  exact bodyPost_ret (v := .tuple #[.agg #[.string ⟨#[]⟩, .string ⟨#[]⟩, .string ⟨#[]⟩, .int .i64 0, .slice A' 0 c'], .int .i64 1]) (by simp [results, Try.results29, r0, r1, r2, r3, r4, go_sem]) rfl ⟨_, _, _, rfl, hfb⟩
set_option maxHeartbeats 400000 in
theorem o_all_nil (k : ByteArray) (w : World) : Calls Try.prog 19 #[.pointer none, .string k] w fun r w' => r = .returned (.slice none 0 0) ∧ w = w' := by
  go_enter Try.func19, Try.ntmps19
  go_wp2
  go_ret
  exact ⟨rfl, rfl⟩
set_option maxHeartbeats 400000 in
theorem o_of_nil (k : ByteArray) (w : World) : Calls Try.prog 15 #[.pointer none, .string k] w fun r w' => r = .returned (.int .i64 0) ∧ w = w' := by
  go_enter Try.func15, Try.ntmps15
  go_wp2
  go_ret
  exact ⟨rfl, rfl⟩
set_option maxHeartbeats 400000 in
theorem o_len_nil (w : World) : Calls Try.prog 30 #[.pointer none] w fun r w' => r = .returned (.int .i64 0) ∧ w = w' := by
  go_enter Try.func30, Try.ntmps30
  go_wp2
  go_ret
  exact ⟨rfl, rfl⟩
set_option maxHeartbeats 400000 in
theorem o_last_nil (w : World) : Calls Try.prog 23 #[.pointer none] w fun r w' => r = .returned (.int .i64 0) ∧ w = w' := by
  go_enter Try.func23, Try.ntmps23
  go_wp2
  go_ret
  exact ⟨rfl, rfl⟩
set_option maxHeartbeats 400000 in
theorem o_copy_nil (w : World) : Calls Try.prog 21 #[.pointer none] w fun r w' => r = .returned (.pointer none) ∧ w = w' := by
  go_enter Try.func21, Try.ntmps21
  go_wp2
  go_ret
  exact ⟨rfl, rfl⟩
end Go.Proofs.Ytoeggpoeongnhaa
