/-
  The words of the language, the signs of comparisons, and the fixed calls that every statement of package lex makes.
  Condition: the library's variables are as the program's text lays them.
-/
import Derived.Test.YtmdkjhnafnblkaaDoorLxs
import Derived.KernelRfl
namespace Go.Proofs.YtmdkjhnafnblkaaDoor
open Go.RowKit

/-- The words of the language. -/
def resW : List (List UInt8) := [[100, 101, 110, 121], [118, 105, 101, 119], [113, 117, 111, 116, 97], [108, 105, 109, 105, 116], [105, 102], [110, 111, 116], [99, 111, 117, 110, 116], [115, 117, 109], [108, 101, 97, 115, 116], [109, 111, 115, 116]]
def resB (l : List UInt8) : Bool := resW.contains l

set_option maxRecDepth 100000 in
set_option maxHeartbeats 4000000 in
theorem lx_reserved (s : ByteArray) (w : World) : Calls Tryd.prog 11 #[.string s] w fun e w' => e = .returned (.bool (resB s.data.toList)) ∧ w = w' := by
  have htl : s.toList = s.data.toList := ByteArray.toList_eq s
  by_cases h0 : s.data.toList = [100, 101, 110, 121]
  · have hs : resB s.data.toList = true := by rw [h0]; rfl
    rw [hs]
    have b0 : (s.toList == [100, 101, 110, 121]) = true := by rw [htl, h0]; rfl
    clear h0 hs htl
    go_enter Tryd.func11, Tryd.ntmps11
    go_wp2
    go_ret
    exact ⟨rfl, rfl⟩
  have b0 : (s.toList == [100, 101, 110, 121]) = false := by rw [htl]; simpa using h0
  by_cases h1 : s.data.toList = [118, 105, 101, 119]
  · have hs : resB s.data.toList = true := by rw [h1]; rfl
    rw [hs]
    have b1 : (s.toList == [118, 105, 101, 119]) = true := by rw [htl, h1]; rfl
    clear h0 h1 hs htl
    go_enter Tryd.func11, Tryd.ntmps11
    go_wp2
    go_ret
    exact ⟨rfl, rfl⟩
  have b1 : (s.toList == [118, 105, 101, 119]) = false := by rw [htl]; simpa using h1
  by_cases h2 : s.data.toList = [113, 117, 111, 116, 97]
  · have hs : resB s.data.toList = true := by rw [h2]; rfl
    rw [hs]
    have b2 : (s.toList == [113, 117, 111, 116, 97]) = true := by rw [htl, h2]; rfl
    clear h0 h1 h2 hs htl
    go_enter Tryd.func11, Tryd.ntmps11
    go_wp2
    go_ret
    exact ⟨rfl, rfl⟩
  have b2 : (s.toList == [113, 117, 111, 116, 97]) = false := by rw [htl]; simpa using h2
  by_cases h3 : s.data.toList = [108, 105, 109, 105, 116]
  · have hs : resB s.data.toList = true := by rw [h3]; rfl
    rw [hs]
    have b3 : (s.toList == [108, 105, 109, 105, 116]) = true := by rw [htl, h3]; rfl
    clear h0 h1 h2 h3 hs htl
    go_enter Tryd.func11, Tryd.ntmps11
    go_wp2
    go_ret
    exact ⟨rfl, rfl⟩
  have b3 : (s.toList == [108, 105, 109, 105, 116]) = false := by rw [htl]; simpa using h3
  by_cases h4 : s.data.toList = [105, 102]
  · have hs : resB s.data.toList = true := by rw [h4]; rfl
    rw [hs]
    have b4 : (s.toList == [105, 102]) = true := by rw [htl, h4]; rfl
    clear h0 h1 h2 h3 h4 hs htl
    go_enter Tryd.func11, Tryd.ntmps11
    go_wp2
    go_ret
    exact ⟨rfl, rfl⟩
  have b4 : (s.toList == [105, 102]) = false := by rw [htl]; simpa using h4
  by_cases h5 : s.data.toList = [110, 111, 116]
  · have hs : resB s.data.toList = true := by rw [h5]; rfl
    rw [hs]
    have b5 : (s.toList == [110, 111, 116]) = true := by rw [htl, h5]; rfl
    clear h0 h1 h2 h3 h4 h5 hs htl
    go_enter Tryd.func11, Tryd.ntmps11
    go_wp2
    go_ret
    exact ⟨rfl, rfl⟩
  have b5 : (s.toList == [110, 111, 116]) = false := by rw [htl]; simpa using h5
  by_cases h6 : s.data.toList = [99, 111, 117, 110, 116]
  · have hs : resB s.data.toList = true := by rw [h6]; rfl
    rw [hs]
    have b6 : (s.toList == [99, 111, 117, 110, 116]) = true := by rw [htl, h6]; rfl
    clear h0 h1 h2 h3 h4 h5 h6 hs htl
    go_enter Tryd.func11, Tryd.ntmps11
    go_wp2
    go_ret
    exact ⟨rfl, rfl⟩
  have b6 : (s.toList == [99, 111, 117, 110, 116]) = false := by rw [htl]; simpa using h6
  by_cases h7 : s.data.toList = [115, 117, 109]
  · have hs : resB s.data.toList = true := by rw [h7]; rfl
    rw [hs]
    have b7 : (s.toList == [115, 117, 109]) = true := by rw [htl, h7]; rfl
    clear h0 h1 h2 h3 h4 h5 h6 h7 hs htl
    go_enter Tryd.func11, Tryd.ntmps11
    go_wp2
    go_ret
    exact ⟨rfl, rfl⟩
  have b7 : (s.toList == [115, 117, 109]) = false := by rw [htl]; simpa using h7
  by_cases h8 : s.data.toList = [108, 101, 97, 115, 116]
  · have hs : resB s.data.toList = true := by rw [h8]; rfl
    rw [hs]
    have b8 : (s.toList == [108, 101, 97, 115, 116]) = true := by rw [htl, h8]; rfl
    clear h0 h1 h2 h3 h4 h5 h6 h7 h8 hs htl
    go_enter Tryd.func11, Tryd.ntmps11
    go_wp2
    go_ret
    exact ⟨rfl, rfl⟩
  have b8 : (s.toList == [108, 101, 97, 115, 116]) = false := by rw [htl]; simpa using h8
  by_cases h9 : s.data.toList = [109, 111, 115, 116]
  · have hs : resB s.data.toList = true := by rw [h9]; rfl
    rw [hs]
    have b9 : (s.toList == [109, 111, 115, 116]) = true := by rw [htl, h9]; rfl
    clear h0 h1 h2 h3 h4 h5 h6 h7 h8 h9 hs htl
    go_enter Tryd.func11, Tryd.ntmps11
    go_wp2
    go_ret
    exact ⟨rfl, rfl⟩
  have b9 : (s.toList == [109, 111, 115, 116]) = false := by rw [htl]; simpa using h9
  have hs : resB s.data.toList = false := by
    unfold resB resW
    rw [← Bool.not_eq_true, List.contains_iff_mem]
    intro hm
    simp only [List.mem_cons, List.not_mem_nil, or_false] at hm
    rcases hm with h | h | h | h | h | h | h | h | h | h
    · exact h0 h
    · exact h1 h
    · exact h2 h
    · exact h3 h
    · exact h4 h
    · exact h5 h
    · exact h6 h
    · exact h7 h
    · exact h8 h
    · exact h9 h
  rw [hs]
  clear h0 h1 h2 h3 h4 h5 h6 h7 h8 h9 hs htl
  go_enter Tryd.func11, Tryd.ntmps11
  go_wp2
  go_ret
  exact ⟨rfl, rfl⟩

theorem resW_get : ∀ k : Nat, k < 10 → ∃ u, resW[k]? = some u := fun k h => ⟨_, List.getElem?_eq_getElem (by show k < 10; exact h)⟩
end Go.Proofs.YtmdkjhnafnblkaaDoor
