/-
  StoreNil of verdererlaw08 answers true at every object, in every world, and changes nothing that was there.
  No condition.
-/
import Derived.Test.YtoeggpoeongnhaaStf
import Derived.Test.YtoeggpoeongnhaaStl
namespace Go.Proofs.Ytoeggpoeongnhaa
open Go.RowKit Go.Maps

set_option maxRecDepth 100000 in
set_option maxHeartbeats 4000000 in
theorem storeNil_all (k1 k2 k3 : ByteArray) (v : Int) (A : Option Addr) (n c : Nat) (w : World) :
    Calls Try.prog 6 #[.agg #[.string k1, .string k2, .string k3, .int .i64 v, .slice A n c]] w fun e w' => e = .returned (.bool true) ∧ Below w.heap.size w w' := by
  have hon := one_new w (.cells #[.string k1, .string k2, .string k3, .int .i64 v, .slice A n c] 30)
  have hx := World.alloc_heap_new w (.cells #[.string k1, .string k2, .string k3, .int .i64 v, .slice A n c] 30)
  have HON := Lib.hid hon
  have HX := Lib.hid hx
  obtain ⟨a0, a1, a2, a3, a4⟩ := five_cells hx
  have hl : w.heap.size < (w.alloc (.cells #[.string k1, .string k2, .string k3, .int .i64 v, .slice A n c] 30)).heap.size := by simp
  clear hon hx
  go_enter Try.func6, Try.ntmps6
  go_wp2_with fail
  refine (o_insert_nil k1 k2 k3 v A n c _).mono ?_
  rintro r w1 ⟨rfl, hb1⟩
  have HX1 := Lib.hid ((hb1.block w.heap.size hl).trans HX.out)
  have HB1 := Lib.hid (HON.out.trans (hb1.mono HON.out.size))
  obtain ⟨b0, b1, b2, b3, b4⟩ := five_cells HX1.out
  clear hb1 a0 a1 a2 a3 a4
  go_wp2_with fail
  refine (o_update_nil k1 k2 k3 v A n c _).mono ?_
  rintro r w2 ⟨rfl, hb2⟩
  have HX2 := Lib.hid ((hb2.block w.heap.size (Array.getElem?_eq_some_iff.1 HX1.out).1).trans HX1.out)
  have HB2 := Lib.hid (HB1.out.trans (hb2.mono HB1.out.size))
  obtain ⟨a0, a1, a2, a3, a4⟩ := five_cells HX2.out
  clear hb2 b0 b1 b2 b3 b4
  go_wp2_with fail
  refine (o_get_nil k1 k2 k3 _).mono ?_
  rintro r w3 ⟨A3, n3, c3, rfl, hb3⟩
  have hon3 := one_new w3 (.cells #[.string ⟨#[]⟩, .string ⟨#[]⟩, .string ⟨#[]⟩, .int .i64 0, .slice A3 n3 c3] 30)
  have hx3 := (hb3.block w.heap.size (Array.getElem?_eq_some_iff.1 HX2.out).1).trans HX2.out
  have HX3 := Lib.hid ((hon3.block w.heap.size (Array.getElem?_eq_some_iff.1 hx3).1).trans hx3)
  have HB3 := Lib.hid ((HB2.out.trans (hb3.mono HB2.out.size)).trans (hon3.mono (HB2.out.trans (hb3.mono HB2.out.size)).size))
  obtain ⟨b0, b1, b2, b3, b4⟩ := five_cells HX3.out
  clear hb3 hx3 hon3 a0 a1 a2 a3 a4
  go_wp2_with fail
  refine (o_delete_nil k1 k2 k3 0 _).mono ?_
  rintro r w4 ⟨rfl, hb4⟩
  have HX4 := Lib.hid ((hb4.block w.heap.size (Array.getElem?_eq_some_iff.1 HX3.out).1).trans HX3.out)
  have HB4 := Lib.hid (HB3.out.trans (hb4.mono HB3.out.size))
  obtain ⟨a0, a1, a2, a3, a4⟩ := five_cells HX4.out
  clear hb4 b0 b1 b2 b3 b4
  go_wp2_with fail
  refine (o_all_nil k1 _).mono ?_
  rintro r w5 ⟨rfl, rfl⟩
  go_wp2_with fail
  refine (o_len_nil _).mono ?_
  rintro r w5 ⟨rfl, rfl⟩
  go_wp2_with fail
  refine (o_of_nil k2 _).mono ?_
  rintro r w5 ⟨rfl, rfl⟩
  go_wp2_with fail
  refine (o_last_nil _).mono ?_
  rintro r w5 ⟨rfl, rfl⟩
  go_wp2_with fail
  refine (o_copy_nil _).mono ?_
  rintro r w5 ⟨rfl, rfl⟩
  go_wp2_with fail
  refine (known8 _).mono ?_
  rintro r w6 ⟨rfl, hb6⟩
  have HB6 := Lib.hid (HB4.out.trans (hb6.mono HB4.out.size))
  clear hb6
  go_wp2
  go_ret
  exact ⟨rfl, HB6.out⟩
end Go.Proofs.Ytoeggpoeongnhaa
