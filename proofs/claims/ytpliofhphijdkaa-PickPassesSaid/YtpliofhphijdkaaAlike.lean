/-
  The document's Alike of two lists; law05's few of a given list.
  No condition but that a list is no longer than it can be.
-/
import Derived.Test.YtpliofhphijdkaaEopen
import Derived.Deep.RegionHeld3
import Derived.BigQuiet
namespace Go.Proofs.Ytpliofhphijdkaa
open Go.RowKit

def alikeL : List En → List En → Bool
  | [], [] => true
  | a :: al, b :: bl => a.2 == b.2 && eqR a.1 b.1 && alikeL al bl
  | _, _ => false
theorem alikeL_self : ∀ l : List En, alikeL l l = true
  | [] => rfl
  | a :: al => by simp [alikeL, eqR_self, alikeL_self al]
theorem alikeL_len : ∀ l m : List En, l.length ≠ m.length → alikeL l m = false
  | [], [], h => absurd rfl h
  | [], _ :: _, _ => rfl
  | _ :: _, [], _ => rfl
  | a :: al, b :: bl, h => by
    have ih := alikeL_len al bl (by simpa using h)
    simp [alikeL, ih]
theorem alikeL_step (l m : List En) (k : Nat) (a b : En) (ha : l[k]? = some a) (hb : m[k]? = some b) : alikeL (l.drop k) (m.drop k) = (a.2 == b.2 && eqR a.1 b.1 && alikeL (l.drop (k + 1)) (m.drop (k + 1))) := by
  obtain ⟨h1, h2⟩ := List.getElem?_eq_some_iff.1 ha
  obtain ⟨h3, h4⟩ := List.getElem?_eq_some_iff.1 hb
  rw [List.drop_eq_getElem_cons h1, List.drop_eq_getElem_cons h3, h2, h4]
  rfl

theorem qmore {P : Program} {f : FuncId} {args : Array Value} {w : World} {n : Nat} {v : Value} (h : Calls P f args (w.drewN n) fun e w' => e = .returned v ∧ ∃ nd, w' = (w.drewN n).drewN nd) :
    Calls P f args (w.drewN n) fun e w'' => e = .returned v ∧ ∃ m, w'' = w.drewN m := h.mono fun _ _ ⟨he, nd, hm⟩ => ⟨he, n + nd, by rw [hm]; exact World.drewN_drewN _ _ _⟩

set_option maxRecDepth 100000 in
set_option maxHeartbeats 1000000 in
theorem r_alike (Q R : Nat → Prop) (A B : Option Addr) (l m : List En) (n n' c d : Nat) (w : World) (hn : l.length = n) (hm : m.length = n') (hl : n ≤ 700000) (hA : EntsQ w Q A l) (hB : EntsQ w R B m) :
    Calls Try.prog 12 #[.slice A n c, .slice B n' d] w fun e w' => e = .returned (.bool (alikeL l m)) ∧ ∃ nd, w' = w.drewN nd := by
  have HA := Lib.hid hA
  have HB := Lib.hid hB
  have HN := Lib.hid hn
  have HM := Lib.hid hm
  by_cases hnm : n = n'
  · subst hnm
    have HE : Hid (alikeL l m = alikeL (l.drop 0) (m.drop 0)) := Lib.hid rfl
    clear hA hB hn hm
    go_enter Try.func12, Try.ntmps12
    go_wp2
    go_loopw [5] (fun i wr => ∃ k : Nat, k ≤ n ∧ i = .int .i64 k ∧ Hid (alikeL l m = alikeL (l.drop k) (m.drop k)) ∧ ∃ nd, wr = w.drewN nd) (fun i _ => n - (intOf i).toNat)
    case atStart => exact ⟨0, Nat.zero_le _, rfl, HE, 0, rfl⟩
    case round =>
      obtain ⟨k, hk, rfl, HC, nd, hw⟩ := hrel
      have hb : Below w.heap.size w wr := by rw [hw]; exact below_drewN' (Below.refl _ _) _
      have HBW := Lib.hid hb
      have HW := Lib.hid hw
      clear hb hw
      by_cases hkn : k < n
      · obtain ⟨x, hx⟩ : ∃ e, l[k]? = some e := ⟨_, List.getElem?_eq_getElem (by rw [HN.out]; exact hkn)⟩
        obtain ⟨y, hy⟩ : ∃ e, m[k]? = some e := ⟨_, List.getElem?_eq_getElem (by rw [HM.out]; exact hkn)⟩
        have HX := Lib.hid hx
        have HY := Lib.hid hy
        obtain ⟨a, rv, rfl, hrow, hblt, c0, c1⟩ := (HA.out.below HBW.out).get k x hx
        obtain ⟨b, sv, rfl, hrow', hblt', d0, d1⟩ := (HB.out.below HBW.out).get k y hy
        have HR := Lib.hid hrow
        have HS := Lib.hid hrow'
        obtain ⟨_, A', c', rfl, _, _⟩ := hrow
        obtain ⟨_, B', d', rfl, _, _⟩ := hrow'
        clear hx hy
        by_cases hmn : x.2 = y.2
        · have h1 : (x.2 != y.2) = false := by simp [hmn]
          have h2 : (x.2 == y.2) = true := by simp [hmn]
          have H2 := Lib.hid h2
          clear h2 hmn
          rcases Bool.eq_false_or_eq_true (eqR x.1 y.1) with hz | hz
          · have HZ := Lib.hid hz
            clear hz
            go_wp2
            go_quiet ((go_at_call 25; exact qmore ((ref_equal_rows Q R _ _ x.1 y.1 _ (HR.out.below (below_drewN' (Below.refl _ _) _)) (HS.out.below (below_drewN' (Below.refl _ _) _))))))
            rw [HZ.out]
            go_wp2
            go_roundw
            case rel =>
              refine ⟨k + 1, by omega, by go_num, Lib.hid ?_, _, by rw [HW.out]; exact World.drewN_drewN _ _ _⟩
              rw [HC.out, alikeL_step _ _ _ _ _ HX.out HY.out, H2.out, HZ.out]
              rfl
            case measure => simp [intOf]; omega
          · have HZ := Lib.hid hz
            clear hz
            go_wp2
            go_quiet ((go_at_call 25; exact qmore ((ref_equal_rows Q R _ _ x.1 y.1 _ (HR.out.below (below_drewN' (Below.refl _ _) _)) (HS.out.below (below_drewN' (Below.refl _ _) _))))))
            rw [HZ.out]
            go_wp2
            go_ret
            refine ⟨ret_bool ?_, _, by rw [HW.out]; exact World.drewN_drewN _ _ _⟩
            rw [HC.out, alikeL_step _ _ _ _ _ HX.out HY.out, H2.out, HZ.out]
            rfl
        · have h1 : (x.2 != y.2) = true := by simp [hmn]
          have h2 : (x.2 == y.2) = false := by simp [hmn]
          have H2 := Lib.hid h2
          clear h2 hmn
          go_wp2
          go_quiet (fail)
          go_wp2
          go_ret
          refine ⟨ret_bool ?_, _, by rw [HW.out]; exact World.drewN_drewN _ _ _⟩
          rw [HC.out, alikeL_step _ _ _ _ _ HX.out HY.out, H2.out]
          rfl
      · obtain rfl : k = n := by omega
        go_wp2
        go_ret
        refine ⟨ret_bool ?_, _, HW.out⟩
        rw [HC.out, List.drop_of_length_le (by rw [HN.out]; exact Nat.le_refl _), List.drop_of_length_le (by rw [HM.out]; exact Nat.le_refl _)]
        rfl
  · have hal := alikeL_len l m (by rw [hn, hm]; exact hnm)
    clear hA hB hn hm
    go_enter Try.func12, Try.ntmps12
    go_wp2
    go_ret
    exact ⟨ret_bool hal.symm, 0, rfl⟩

end Go.Proofs.Ytpliofhphijdkaa
