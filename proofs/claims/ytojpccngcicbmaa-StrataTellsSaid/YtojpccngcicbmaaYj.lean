/-
  What the library's sort and its compact make of texts: they rise strictly, and are those that were there.
-/
import Derived.Test.YtojpccngcicbmaaYi
import Derived.Test.YtojpccngcicbmaaShelf
namespace Go.Proofs.Ytojpccngcicbmaa
open Go.RowKit Go.Maps Go.Sort

/-- A text's bytes. -/
def byL (s : ByteArray) : List UInt8 := s.data.toList
theorem enc_by (s : ByteArray) : encStr (byL s) = Value.string s := rfl
theorem map_by (ss : List ByteArray) : (ss.map byL).map encStr = ss.map Value.string := by rw [List.map_map]; rfl
def ofL (l : List UInt8) : ByteArray := ⟨l.toArray⟩
theorem by_of (l : List UInt8) : byL (ofL l) = l := rfl
theorem of_by (s : ByteArray) : ofL (byL s) = s := rfl
theorem cmpL_cons (a b : UInt8) (x y : List UInt8) : cmpL (a :: x) (b :: y) = if a < b then -1 else if b < a then 1 else cmpL x y := rfl
theorem cmpL_lt : ∀ (x y : List UInt8), x < y ↔ cmpL x y < 0
  | [], [] => by simp [cmpL]
  | [], _ :: _ => by simp [cmpL]
  | _ :: _, [] => by simp [cmpL]
  | a :: x, b :: y => by
    rw [List.cons_lt_cons_iff, cmpL_lt x y, cmpL_cons]
    by_cases h1 : a < b
    · rw [if_pos h1]
      exact ⟨fun _ => by decide, fun _ => .inl h1⟩
    · by_cases h2 : b < a
      · rw [if_neg h1, if_pos h2]
        constructor
        · rintro (h | ⟨rfl, _⟩)
          · exact absurd h h1
          · exact absurd h2 h1
        · intro h
          exact absurd h (by decide)
      · rw [if_neg h1, if_neg h2]
        have e : a = b := by
          apply UInt8.toNat_inj.1
          rw [UInt8.lt_iff_toNat_lt] at h1 h2
          omega
        exact ⟨fun h => h.elim (fun h => absurd h h1) (fun h => h.2), fun h => .inr ⟨e, h⟩⟩
theorem lt_by (a b : ByteArray) : byL a < byL b ↔ cmpS a b < 0 := by
  rw [cmpS_list]
  exact cmpL_lt _ _

/-- What compact keeps of a list that rises: it rises strictly, and has all of it. -/
theorem compactUpTo_rise (zs : List (List UInt8)) (h : ∀ i j, i < j → j < zs.length → ¬ zs[j]! < zs[i]!) : ∀ m, m ≤ zs.length →
    (Lib.compactUpTo zs.toArray m).Pairwise (fun a b => a < b) ∧ (∀ x ∈ Lib.compactUpTo zs.toArray m, ∃ i, i < m ∧ zs[i]! = x) ∧ ∀ i, i < m → zs[i]! ∈ Lib.compactUpTo zs.toArray m := by
  intro m
  induction m with
  | zero => exact fun _ => ⟨List.Pairwise.nil, fun x hx => absurd hx List.not_mem_nil, fun i hi => absurd hi (by omega)⟩
  | succ m ih =>
    intro hm
    obtain ⟨h1, h2, h3⟩ := ih (by omega)
    rw [Lib.compactUpTo_succ]
    have ez : ∀ i : Nat, zs.toArray[i]! = zs[i]! := fun i => by simp
    by_cases hk : Lib.keeps zs.toArray m = true
    · rw [if_pos hk, ez]
      refine ⟨List.pairwise_append.2 ⟨h1, List.pairwise_singleton _ _, fun a ha b hb => ?_⟩, fun x hx => ?_, fun i hi => ?_⟩
      · rw [List.mem_singleton.1 hb]
        obtain ⟨i, hi, rfl⟩ := h2 a ha
        have hne : zs[m]! ≠ zs[m - 1]! := by
          unfold Lib.keeps at hk
          rw [ez, ez] at hk
          have := of_decide_eq_true hk
          rcases this with h0 | h0
          · omega
          · exact h0
        have hle := h (m - 1) m (by omega) (by omega)
        have hlt : zs[m - 1]! < zs[m]! := Classical.byContradiction fun h4 => hne (List.le_antisymm (List.not_lt.1 h4) (List.not_lt.1 hle))
        by_cases hi2 : i = m - 1
        · rw [hi2]
          exact hlt
        · exact List.lt_of_le_of_lt (List.not_lt.1 (h i (m - 1) (by omega) (by omega))) hlt
      · rcases List.mem_append.1 hx with h4 | h4
        · obtain ⟨i, hi, e⟩ := h2 x h4
          exact ⟨i, by omega, e⟩
        · exact ⟨m, by omega, (List.mem_singleton.1 h4).symm⟩
      · by_cases hi2 : i = m
        · rw [hi2]
          exact List.mem_append_right _ List.mem_cons_self
        · exact List.mem_append_left _ (h3 i (by omega))
    · have hk' : Lib.keeps zs.toArray m = false := by simpa using hk
      rw [hk', if_neg Bool.false_ne_true, List.append_nil]
      refine ⟨h1, fun x hx => ?_, fun i hi => ?_⟩
      · obtain ⟨i, hi, e⟩ := h2 x hx
        exact ⟨i, by omega, e⟩
      · by_cases hi2 : i = m
        · unfold Lib.keeps at hk'
          rw [ez, ez] at hk'
          have h5 := of_decide_eq_false hk'
          have hm0 : m ≠ 0 := fun e => h5 (.inl e)
          have he : zs[m]! = zs[m - 1]! := Classical.byContradiction fun h6 => h5 (.inr h6)
          rw [hi2, he]
          exact h3 (m - 1) (by omega)
        · exact h3 i (by omega)
end Go.Proofs.Ytojpccngcicbmaa
