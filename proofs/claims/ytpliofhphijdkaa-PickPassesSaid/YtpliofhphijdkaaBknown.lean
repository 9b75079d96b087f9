/-
  The fixed calls that every statement of package bag makes answer as they must, in every world; nothing that was there is changed.
  No condition.
-/
import Derived.Test.YtpliofhphijdkaaRadd
import Derived.Test.YtpliofhphijdkaaBrows
namespace Go.Proofs.Ytpliofhphijdkaa
open Go.RowKit

theorem lit_row (w : World) (Q : Nat → Prop) (hQ : ∀ k, w.heap.size ≤ k → Q k) (v : V) : IsRow (w.alloc (.cells #[.int .i64 v.k, .bool v.f, .int .i64 v.n, .string v.t] 52)) Q (.slice (some ⟨w.heap.size, 0, none⟩) 1 1) [v] := by
  have h := row_lit1 w v
  refine ⟨by simp, some ⟨w.heap.size, 0, none⟩, 1, rfl, (fun h => (by cases h)), fun i u hi => ?_⟩
  obtain ⟨a, ha, _, hv⟩ := h i u hi
  injection ha with ha
  subst ha
  refine ⟨_, rfl, hQ _ ?_, hv⟩
  rw [show ((⟨w.heap.size, 0, none⟩ : Addr).add (i * 4)).block = w.heap.size from by unfold Addr.add; split <;> rfl]
  exact Nat.le_refl _

def kva : V := ⟨2, false, 1, ⟨#[]⟩⟩
def kvc : V := ⟨2, false, 2, ⟨#[]⟩⟩
theorem kn1 : addL [kva] 2 [] = ([([kva], 2)], 0) := by kernel_rfl
theorem kn2 : addL [kvc] 1 [([kva], 2)] = ([([kva], 2), ([kvc], 1)], 0) := by kernel_rfl
theorem kn3 : addL [kva] (-2) [([kva], 2), ([kvc], 1)] = ([([kvc], 1)], 0) := by kernel_rfl
theorem kn4 : manyL [kvc] [([kvc], 1)] = 1 := by kernel_rfl
theorem kn5 : manyL [kva] [([kvc], 1)] = 0 := by kernel_rfl

end Go.Proofs.Ytpliofhphijdkaa
