/-
  Kinds that are not there: what Find, Columns, Kinds and Fits of package schema answer of no set; and SchemaNil answers true, where the library's variable MaxLen holds a number.
-/
import Derived.Test.YtgifkigamebofaaDoorSknown
namespace Go.Proofs.YtgifkigamebofaaDoor
open Go.RowKit

set_option maxHeartbeats 400000 in
theorem nil_find (kind : ByteArray) (w : World) : Calls Tryd.prog 27 #[.pointer none, .string kind] w fun e w' => e = .returned (.tuple #[.agg #[.string ⟨#[]⟩, .slice none 0 0], .int .i64 1]) ∧ Below w.heap.size w w' := by
  go_enter Tryd.func27, Tryd.ntmps27
  go_wp2
  exact bodyPost_ret (v := .tuple #[.agg #[.string ⟨#[]⟩, .slice none 0 0], .int .i64 1]) (by simp [results, Tryd.results27, go_sem]) rfl ⟨rfl, by repeat (first | exact one_new _ _ | (refine bsetG ?_ (Nat.le_refl _)))⟩
set_option maxHeartbeats 1000000 in
theorem nil_Find (kind : ByteArray) (w : World) : Calls Tryd.prog 12 #[.pointer none, .string kind] w fun e w' => ∃ v, e = .returned (.tuple #[.agg #[.string ⟨#[]⟩, v], .int .i64 1]) ∧ IsCols w' (Behind w) v [] ∧ Below w.heap.size w w' := by
  go_enter Tryd.func12, Tryd.ntmps12
  go_wp2_with fail
  refine (nil_find _ _).mono ?_
  rintro e w1 ⟨rfl, hb1⟩
  have HB1 := Lib.hid hb1
  clear hb1
  go_wp2_with fail
  refine (s_own ⟨#[]⟩ (.slice none 0 0) [] (fun _ => True) _ (IsCols.nil _ _)).mono ?_
  rintro e w2 ⟨v, rfl, hv, hb2⟩
  have hb3 := (one_new w1 (.cells #[.string ⟨#[]⟩, .slice none 0 0] 34)).trans (hb2.mono (by simp))
  have hb4 := HB1.out.trans (hb3.mono HB1.out.size)
  have r0 : w2.cell? ⟨w.heap.size, 0, none⟩ = some (.string ⟨#[]⟩) := (hb4.cell (p := ⟨w.heap.size, 0, none⟩) (by simp)).trans (by simp [go_sem])
  have r1 : w2.cell? ⟨w.heap.size, 1, none⟩ = some (.slice none 0 0) := (hb4.cell (p := ⟨w.heap.size, 1, none⟩) (by simp)).trans (by simp [go_sem])
  have r2 : w2.frozen? ⟨w.heap.size, 0, none⟩ = false := (hb4.frozen (p := ⟨w.heap.size, 0, none⟩) (by simp)).trans (by simp [go_sem])
  have r3 : w2.frozen? ⟨w.heap.size, 1, none⟩ = false := (hb4.frozen (p := ⟨w.heap.size, 1, none⟩) (by simp)).trans (by simp [go_sem])
  have hz1 : w.heap.size < w1.heap.size := Nat.lt_of_lt_of_le (by simp) HB1.out.size
  have HV := Lib.hid (hv.imp (Q' := fun j => w.heap.size < j) (fun j _ hj => by simp [Behind] at hj; omega))
  have HB := Lib.hid ((one_new w _).trans (hb4.mono (by simp)))
  have hz : w.heap.size < w2.heap.size := Nat.lt_of_lt_of_le (by simp) hb4.size
  obtain ⟨_, A, c, rfl, _⟩ := hv
  clear hb2 hb3 hb4
  go_wp2
  exact bodyPost_ret (v := .tuple #[.agg #[.string ⟨#[]⟩, .slice A 0 c], .int .i64 1]) (by simp [results, Tryd.results12, go_sem, r0, r1]) rfl
    ⟨_, rfl, ((HV.out.keep (keep_set (by simp))).keep (keep_set (by simp))).imp (fun j _ hj => Nat.le_of_lt hj), by repeat (first | exact HB.out | (refine bsetG ?_ (Nat.le_refl _)))⟩
set_option maxHeartbeats 400000 in
theorem nil_columns (kind : ByteArray) (w : World) : Calls Tryd.prog 14 #[.pointer none, .string kind] w fun e w' => e = .returned (.tuple #[.slice none 0 0, .int .i64 1]) ∧ Below w.heap.size w w' := by
  go_enter Tryd.func14, Tryd.ntmps14
  go_wp2_with fail
  refine (nil_find _ _).mono ?_
  rintro e w1 ⟨rfl, hb1⟩
  go_wp2
  go_ret2
  exact ⟨rfl, hb1.trans ((one_new _ _).mono hb1.size)⟩
set_option maxHeartbeats 400000 in
theorem nil_kinds (w : World) : Calls Tryd.prog 10 #[.pointer none] w fun e w' => e = .returned (.slice none 0 0) ∧ w' = w := by
  go_enter Tryd.func10, Tryd.ntmps10
  go_wp2
  go_ret
  exact ⟨rfl, rfl⟩
set_option maxHeartbeats 400000 in
theorem nil_fits (kind : ByteArray) (A : Option Addr) (n c : Nat) (w : World) : Calls Tryd.prog 16 #[.pointer none, .string kind, .slice A n c] w fun e w' => e = .returned (.int .i64 1) ∧ Below w.heap.size w w' := by
  go_enter Tryd.func16, Tryd.ntmps16
  go_wp2_with fail
  refine (nil_find _ _).mono ?_
  rintro e w1 ⟨rfl, hb1⟩
  go_wp2
  go_ret
  exact ⟨rfl, hb1.trans ((one_new _ _).mono hb1.size)⟩

end Go.Proofs.YtgifkigamebofaaDoor
