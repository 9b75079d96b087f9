/-
  Of the fixed calls of package schema: what the plain functions answer.
  No condition.
-/
import Derived.Test.YtgifkigamebofaaDoorSread
import Derived.KernelRfl
namespace Go.Proofs.YtgifkigamebofaaDoor
open Go.RowKit

def litB : ByteArray := ⟨#[107, 105, 110, 100, 32, 112, 111, 100, 32, 105, 109, 97, 103, 101, 58, 116, 101, 120, 116, 32, 99, 112, 117, 58, 105, 110, 116, 32, 110, 111, 100, 101, 58, 116, 101, 120, 116, 63]⟩
def podB : ByteArray := ⟨#[112, 111, 100]⟩
def c1 : Co := ⟨⟨#[105, 109, 97, 103, 101]⟩, 3, false⟩
def c2 : Co := ⟨⟨#[99, 112, 117]⟩, 2, false⟩
def c3 : Co := ⟨⟨#[110, 111, 100, 101]⟩, 3, true⟩
def podS : Sc := ⟨podB, [c1, c2, c3]⟩
theorem kn_guess : guessS litB = podS := by kernel_rfl
theorem kn_fault : faultR [podS] = 0 := by kernel_rfl
theorem kn_line : lineS podS = litB.data.toList := by kernel_rfl
theorem kn_read : readS litB = (podS, 0) := by
  unfold readS
  rw [kn_guess, kn_line, if_pos ⟨by decide, rfl⟩]
theorem kn_cols : colsOf [podS] podB = some [textC spaceB, textC nameB, c1, c2, c3] := by kernel_rfl
theorem kn_n1 : nameR (⟨#[97, 95, 49]⟩ : ByteArray).data.toList = true := by decide
theorem kn_n2 : nameR (⟨#[49, 97]⟩ : ByteArray).data.toList = false := by decide
end Go.Proofs.YtgifkigamebofaaDoor
