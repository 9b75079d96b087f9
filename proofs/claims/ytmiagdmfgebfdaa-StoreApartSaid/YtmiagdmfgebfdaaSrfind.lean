/-
  Find of the document's schema: a kind of a list, by its name; nothing that was there is changed.
  No condition but that a list has no more than a million.
-/
import Derived.Test.YtmiagdmfgebfdaaSfits
namespace Go.Proofs.Ytmiagdmfgebfdaa
open Go.RowKit

set_option maxRecDepth 100000 in
set_option maxHeartbeats 2000000 in
theorem ref_findS (Q : Nat → Prop) (A : Option Addr) (ls : List RS) (l : List Sc) (n c : Nat) (kind : ByteArray) (w : World) (hn : n = l.length) (hl : n ≤ 1000000) (hr : ScR w Q ls l) (hx : CellsQ w Q A (flatS ls)) :
    Calls Try.prog 72 #[.slice A n c, .string kind] w (FoundIs w Q (findS l kind) 20) := by
  have HR := Lib.hid hr
  have HX := Lib.hid hx
  have HN := Lib.hid hn.symm
  obtain ⟨O, hO⟩ : ∃ O, findS l kind = O := ⟨_, rfl⟩
  rw [hO]
  have HO := Lib.hid hO
  clear hr hx hn hO
  go_enter Try.func72, Try.ntmps72
  go_wp2
  go_loopw [6] (fun i wr => ∃ k : Nat, k ≤ n ∧ i = .int .i64 k ∧ findS (l.drop k) kind = O ∧ wr = w.alloc (.cells #[.string ⟨#[]⟩, .slice none 0 0] 89)) (fun i _ => n - (intOf i).toNat)
  case atStart => exact ⟨0, Nat.zero_le _, rfl, by rw [List.drop_zero]; exact HO.out, rfl⟩
  case round =>
    obtain ⟨k, hk, rfl, hq2, rfl⟩ := hrel
    have HQ := Lib.hid hq2
    clear hq2
    by_cases h1 : k < n
    · obtain ⟨x, hxk⟩ : ∃ x, l[k]? = some x := ⟨_, List.getElem?_eq_getElem (by rw [HN.out]; exact h1)⟩
      obtain ⟨a, v, rfl, hv, ha, a0, a1⟩ := kind_get HR.out HX.out k x hxk
      have HV := Lib.hid hv
      obtain ⟨_, A2, c2, rfl, _, _, _⟩ := hv
      have hfd := find_drop l kind k x hxk
      rw [HQ.out] at hfd
      have HFD := Lib.hid hfd
      clear hxk hfd
      rcases Bool.eq_false_or_eq_true (sameNm x.nm kind) with hz2 | hz2
      · have bz : (x.nm.toList == kind.toList) = true := hz2
        have hO : O = some x := by rw [HFD.out, if_pos hz2]
        subst hO
        clear hz2
        go_wp2
        have hfin : Below w.heap.size w (w.alloc (.cells #[.string x.nm, .slice A2 x.cols.length c2] 89)) := one_new _ _
        exact bodyPost_ret (v := .tuple #[.agg #[.string x.nm, .slice A2 x.cols.length c2], .int .i64 0]) (by simp [results, Try.results72, go_sem]) rfl
          ⟨hfin, _, rfl, HV.out.below hfin⟩
      · have bz : (x.nm.toList == kind.toList) = false := hz2
        have hO : findS (l.drop (k + 1)) kind = O := by rw [HFD.out, if_neg (by rw [hz2]; simp)]
        have HOx := Lib.hid hO
        clear hz2 hO
        go_wp2
        exact ⟨⟨k + 1, by omega, by go_num, HOx.out, by trivial⟩, by simp [intOf]; omega⟩
    · have hO : O = none := by
        rw [← HQ.out, List.drop_of_length_le (by rw [HN.out]; omega)]
        rfl
      subst hO
      go_wp2
      exact bodyPost_ret (v := .tuple #[.agg #[.string ⟨#[]⟩, .slice none 0 0], .int .i64 20]) (by simp [results, Try.results72, go_sem]) rfl
        ⟨one_new _ _, rfl⟩
end Go.Proofs.Ytmiagdmfgebfdaa
