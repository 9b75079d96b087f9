/-
  With one atom more, of all its variables, a rule asks nothing that is not bound: as plain functions.
  Condition: no empty name is told.
-/
import Derived.Test.YtmkejlhkipngnaaM36
namespace Go.Proofs.Ytmkejlhkipngnaa
open Go.RowKit Go.Maps

/-- A term that is just a variable. -/
def tmOf (s : ByteArray) : TmP := ⟨s, false, noV⟩
/-- The terms of the atom that has all. -/
def allTs (x : RuP) : List TmP := tmOf ⟨#[122]⟩ :: (x.head.map tmOf ++ (tmOf x.ofv :: x.body.flatMap fun l => l.args.map fun t => tmOf t.s))
def allL (x : RuP) : LiP := ⟨false, ⟨#[97, 108, 108]⟩, allTs x, 0⟩
def withAll (x : RuP) : RuP := { x with body := x.body ++ [allL x] }

theorem tmOf_isV {s : ByteArray} (h : s.toList ≠ []) : isV (tmOf s) = true := by
  unfold isV tmOf
  simp [h]
theorem all_has {x : RuP} {s : ByteArray} (hs : tmOf s ∈ allTs x) (h : s.toList ≠ []) : hasX s (bndL (withAll x).body) = true :=
  foldL_mem (x := allL x) (t := tmOf s) rfl hs (tmOf_isV h) _ [] (List.mem_append.2 (.inr (List.mem_singleton.2 rfl)))
theorem bodF_none (b : List ByteArray) : ∀ (l : List LiP) (i : Nat), (∀ x ∈ l, x.args.find? (badT b) = none) → bodF b i l = none
  | [], _, _ => rfl
  | x :: l, i, h => by
    rw [bodF_skip b i x l (h x (List.mem_cons_self ..))]
    exact bodF_none b l (i + 1) fun y hy => h y (List.mem_cons_of_mem _ hy)
theorem free_all {x : RuP} (hh : ∀ s ∈ x.head, s.toList ≠ []) (ho : 2 ≤ x.ag ∧ x.ag ≤ 4 → x.ofv.toList ≠ []) : freeX (withAll x) = (⟨#[]⟩, 0, false) := by
  have h1 : (toldL (withAll x)).find? (fun s => !hasX s (bndL (withAll x).body)) = none := by
    rw [List.find?_eq_none]
    intro s hs
    have hm : tmOf s ∈ allTs x ∧ s.toList ≠ [] := by
      rcases List.mem_append.1 hs with h | h
      · exact ⟨List.mem_cons_of_mem _ (List.mem_append.2 (.inl (List.mem_map.2 ⟨s, h, rfl⟩))), hh s h⟩
      · by_cases hc : 2 ≤ x.ag ∧ x.ag ≤ 4
        · have h' : s ∈ (if 2 ≤ x.ag ∧ x.ag ≤ 4 then [x.ofv] else []) := h
          rw [if_pos hc] at h'
          rw [List.mem_singleton.1 h']
          exact ⟨List.mem_cons_of_mem _ (List.mem_append.2 (.inr (List.mem_cons_self ..))), ho hc⟩
        · have h' : s ∈ (if 2 ≤ x.ag ∧ x.ag ≤ 4 then [x.ofv] else []) := h
          rw [if_neg hc] at h'
          exact absurd h' List.not_mem_nil
    rw [all_has hm.1 hm.2]
    simp
  have h2 : bodF (bndL (withAll x).body) 0 (withAll x).body = none := by
    refine bodF_none _ _ _ fun l hl => ?_
    rcases List.mem_append.1 hl with h | h
    · rw [List.find?_eq_none]
      intro t ht
      unfold badT
      cases hv : isV t with
      | false => simp
      | true =>
        have hn : t.s.toList ≠ [] := by
          intro e
          unfold isV at hv
          rw [e] at hv
          simp at hv
        rw [all_has (List.mem_cons_of_mem _ (List.mem_append.2 (.inr (List.mem_cons_of_mem _ (List.mem_flatMap.2 ⟨l, h, List.mem_map.2 ⟨t, ht, rfl⟩⟩))))) hn]
        simp
    · exact atom_bound hl (by rw [List.mem_singleton.1 h]; rfl)
  unfold freeX
  rw [h1, h2]
theorem check_all {x : RuP} (hh : ∀ s ∈ x.head, s.toList ≠ []) (ho : 2 ≤ x.ag ∧ x.ag ≤ 4 → x.ofv.toList ≠ []) : checkX (withAll x) = (0, 0) := by
  have h1 : (withAll x).body.any atomB = true := List.any_eq_true.2 ⟨allL x, List.mem_append.2 (.inr (List.mem_singleton.2 rfl)), rfl⟩
  unfold checkX
  rw [h1, free_all hh ho]
  rfl
end Go.Proofs.Ytmkejlhkipngnaa
