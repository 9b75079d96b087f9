/-
  RowOrders of verdererlaw02 answers true at every two rows, and each row reads afterwards as it read before: Compare, Same, Right and Of of package row answer as the document says.
  No condition.
-/
import Derived.Test.YtlknhlemkbdgcaaOpen
import Derived.Test.YtlknhlemkbdgcaaKnown2
import Derived.Test.YtlknhlemkbdgcaaRightr
namespace Go.Proofs.Ytlknhlemkbdgcaa
open Go.ChangeShapes Go.WideShapes Go.ChangeAt Go.RowKit Go.Deep

theorem rowOrders_far (A B : Option Addr) (n m c c' : Nat) (w : World) (h : 200 < n ∨ 200 < m) :
    Calls Try.prog 3 #[.slice A n c, .slice B m c'] w fun e w' => e = .returned (.bool true) ∧ Below w.heap.size w w' := by
  by_cases h1 : 200 < n
  · clear h
    go_enter Try.func3, Try.ntmps3
    go_wp2_with (go_at_call 8; refine (known _).mono ?_; rintro e w' ⟨rfl, hb⟩)
    go_ret
    exact ⟨rfl, hb⟩
  · have h2 : 200 < m := by omega
    clear h
    go_enter Try.func3, Try.ntmps3
    go_wp2_with (go_at_call 8; refine (known _).mono ?_; rintro e w' ⟨rfl, hb⟩)
    go_ret
    exact ⟨rfl, hb⟩

set_option maxHeartbeats 1000000 in
theorem rowOrders_near (A B : Option Addr) (xs ys : List V) (n m c c' : Nat) (w : World) (hn : n = xs.length) (hm : m = ys.length) (n0 : n ≤ 200) (m0 : m ≤ 200) (hA : A = none → c = 0) (hfit : Fit xs)
    (hx : RowAt w w.heap.size A xs) (hy : RowAt w w.heap.size B ys) :
    Calls Try.prog 3 #[.slice A n c, .slice B m c'] w fun e w' => e = .returned (.bool true) ∧ Below w.heap.size w w' := by
  have HX := Lib.hid hx
  have HY := Lib.hid hy
  have HN := Lib.hid hn
  have HM := Lib.hid hm
  have HF := Lib.hid hfit
  have HA := Lib.hid hA
  have hxl : xs.length ≤ 1000000 := by rw [← hn]; omega
  clear hx hy hn hm hA hfit
  have hnl : n ≤ maxLen := by unfold maxLen; omega
  go_enter Try.func3, Try.ntmps3
  go_wp2_with fail
  refine (row_cmp A B xs ys n m c c' _ HN.out HM.out hnl (by exact HX.out) (by exact HY.out)).mono ?_
  rintro e w1 ⟨rfl, hb1⟩
  go_wp2_with fail
  refine (ref_cmpR A B xs ys n m c c' _ HN.out HM.out hnl HF.out (by exact HX.out.later hb1) (by exact HY.out.later hb1)).mono ?_
  rintro e w2 ⟨rfl, hb2⟩
  have hb12 := bon hb1 (Nat.le_refl _) hb2
  clear hb1 hb2
  go_wp2_with fail
  refine (row_same A B xs ys n m c c' _ HN.out HM.out hnl (by exact HX.out.later hb12) (by exact HY.out.later hb12)).mono ?_
  rintro e w3 ⟨rfl, hb3⟩
  have hb13 := bon hb12 (Nat.le_refl _) hb3
  clear hb12 hb3
  go_wp2_with fail
  refine (ref_sameR A B xs ys n m c c' _ HN.out HM.out hnl HF.out (by exact HX.out.later hb13) (by exact HY.out.later hb13)).mono ?_
  rintro e w4 ⟨rfl, hb4⟩
  have hb14 := bon hb13 (Nat.le_refl _) hb4
  clear hb13 hb4
  go_wp2_with fail
  refine (row_right A xs n c _ HN.out hnl (by exact HX.out.later hb14)).mono ?_
  rintro e w5 ⟨rfl, hb5⟩
  have hb15 := bon hb14 (Nat.le_refl _) hb5
  clear hb14 hb5
  go_wp2_with fail
  refine (ref_rightR A xs n c _ HN.out (by exact HX.out.later hb15)).mono ?_
  rintro e w6 ⟨rfl, hb6⟩
  have hb16 := bon hb15 (Nat.le_refl _) hb6
  clear hb15 hb6
  go_wp2_with fail
  refine (row_of A xs n c _ HN.out HA.out hxl (by exact HX.out.later hb16)).mono ?_
  rintro e w7 ⟨v7, rfl, ho7, hb7⟩
  obtain ⟨A7, c7, rfl, _, hr7⟩ := ho7.rowN n HN.out
  have hb17 := bon hb16 (Nat.le_refl _) hb7
  clear hb16 hb7 ho7
  go_wp2_with fail
  refine (ref_equal A7 A xs xs n n c7 c _ HN.out HN.out hnl hr7 (by exact HX.out.later hb17)).mono ?_
  rintro e w8 ⟨rfl, nd, rfl⟩
  rw [eqR_self]
  go_wp2_with (go_at_call 8; refine (known _).mono ?_; rintro e w9 ⟨rfl, hb9⟩)
  go_ret
  exact ⟨rfl, bon (below_drewN' hb17 nd) (Nat.le_refl _) hb9⟩

theorem rowOrders_all (A B : Option Addr) (xs ys : List V) (n m c c' : Nat) (w : World) (hn : n = xs.length) (hm : m = ys.length) (hA : A = none → c = 0) (hfit : Fit xs)
    (hx : RowAt w w.heap.size A xs) (hy : RowAt w w.heap.size B ys) :
    Calls Try.prog 3 #[.slice A n c, .slice B m c'] w fun e w' => e = .returned (.bool true) ∧ Below w.heap.size w w' := by
  by_cases h : 200 < n ∨ 200 < m
  · exact rowOrders_far A B n m c c' w h
  · exact rowOrders_near A B xs ys n m c c' w hn hm (by omega) (by omega) hA hfit hx hy

set_option maxRecDepth 100000 in
theorem rowOrders_lifted (os : Os) (started : os.Started) (H : Type) (enc : TypeId × Value → H) :
    ReturnsInHanded {} Try.checked os 3 .any (Rows.rowOrdersSpec.pre6 enc Try.prog Try.f3 Rows.rowOrdersRow.domain false) (Rows.rowOrdersSpec.post enc Try.prog Try.f3 false true false false) := by
  refine returnsInHanded_of_change (C := Try.checked) Try.own started (by kernel_rfl) Try.func3
    (ChangeSpec.witness6 (enc := enc) (C := Try.checked) false ⟨#[], #[.slice none 0 0, .slice none 0 0], []⟩ 8 (by kernel_rfl) (by kernel_rfl) (by kernel_rfl) (by kernel_rfl)) ?_
  intro W base args ds gs before hval0 hW hcnd _
  have hval : ∀ (j : Nat) t v, Try.f3.params[j]? = some t → args[j]? = some v → Value.okWide Try.prog W .any base t v := hval0
  have hW' := hW
  obtain ⟨p, q, hA0, hV, rfl, hfz, hnd⟩ := hW
  have hA : DataW.TrodAll enc Try.prog W 0 (fun _ => true) true Try.f3.params.toList args.toList ds p := hA0
  rw [Try.params3] at hA hval
  obtain ⟨v0, v1, d0, d1, p0, p1, rfl, rfl, rfl, h0, h1⟩ := trodAll_two hA
  obtain ⟨rfl, rfl⟩ := trodVars_none hV
  obtain ⟨A, n, c, xs, rfl, hn, _, hAc, hx, hf⟩ := open_rowV h0 (hval 0 22 v0 rfl rfl)
  obtain ⟨B, m, c', ys, rfl, hm, _, _, hy, _⟩ := open_rowV h1 (hval 1 22 v1 rfl rfl)
  refine (rowOrders_all A B xs ys n m c c' W hn hm hAc hf hx hy).mono fun e W' ⟨he, hb⟩ => ?_
  subst he
  exact ⟨_, rfl, law_post Try.laidOut rfl hW' (by rw [Try.params3]; intro t ht; exact readable_V t (by simpa using ht)) (by kernel_rfl) Try.underlying4 rfl rfl rfl hb⟩

theorem rowOrders_holds : Rows.RowOrdersSaid :=
  OpenClaim.holds_of_wide 3 Try.f3 rfl rfl rfl rfl rfl rfl rfl ⟨rfl, rfl, rfl, rfl, rfl⟩ rfl rfl rfl rfl rfl (by kernel_rfl) Try.func3 (by kernel_rfl)
    (of_decide_eq_true (by kernel_rfl)) (by unfold Func.isWrapper; first | (rw [if_pos (by decide +kernel)]; kernel_rfl) | (rw [if_neg (by decide +kernel)]; exact ⟨rfl, rfl⟩))
    (fun os started H enc _ => rowOrders_lifted os started H enc)
end Go.Proofs.Ytlknhlemkbdgcaa
