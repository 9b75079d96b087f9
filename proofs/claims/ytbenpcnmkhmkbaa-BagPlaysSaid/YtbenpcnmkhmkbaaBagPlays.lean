/-
  BagPlays of verdererlaw05 answers true at every list of entries and every row, and both read afterwards as they read before: each answer of a bag to which rows are added, and all that it has, is what the document says.
  No condition.
-/
import Derived.Test.YtbenpcnmkhmkbaaBagPlays0
namespace Go.Proofs.Ytbenpcnmkhmkbaa
open Go.ChangeShapes Go.WideShapes Go.ChangeAt Go.RowKit Go.Deep

set_option maxRecDepth 100000 in
set_option maxHeartbeats 1000000 in
theorem bagPlays_not (w : World) (A : Option Addr) (c : Nat) (es : List WE) (n : Nat) (hn : es.length = n) (hl : n ≤ 9223372036854775807) (hW : WeakE w A es) (B : Option Addr) (m d : Nat) (hm : m ≤ 9223372036854775807) (hno : fewW es = false ∨ 50 < m) :
    Calls Try.prog 4 #[.slice A n c, .slice B m d] w fun e w' => e = .returned (.bool true) ∧ Below w.heap.size w w' := by
  have HF := Lib.hid (l_few A es n c w hn hl hW)
  have HNO := Lib.hid hno
  clear hW hn hno
  rcases Bool.eq_false_or_eq_true (fewW es) with hf | hf
  · have h50 : 50 < m := by
      rcases HNO.out with h | h
      · rw [h] at hf
        cases hf
      · exact h
    have HFW := Lib.hid hf
    clear hf
    go_enter Try.func4, Try.ntmps4
    go_wp2_with fail
    refine HF.out.mono ?_
    rintro e w' ⟨rfl, rfl⟩
    rw [HFW.out]
    go_wp2_with fail
    refine (known5 _).mono ?_
    rintro e w1 ⟨rfl, hb1⟩
    go_wp2
    go_ret
    exact ⟨rfl, hb1⟩
  · have HFW := Lib.hid hf
    clear hf
    go_enter Try.func4, Try.ntmps4
    go_wp2_with fail
    refine HF.out.mono ?_
    rintro e w' ⟨rfl, rfl⟩
    rw [HFW.out]
    go_wp2_with fail
    refine (known5 _).mono ?_
    rintro e w1 ⟨rfl, hb1⟩
    go_wp2
    go_ret
    exact ⟨rfl, hb1⟩

theorem bagPlays_all (w : World) (A : Option Addr) (c : Nat) (es : List WE) (hl : es.length ≤ maxLen) (hW : WeakE w A es) (B : Option Addr) (d : Nat) (xs : List V) (hx : xs.length ≤ maxLen) (hB0 : B = none → d = 0) (hB : RowAt w w.heap.size B xs) :
    Calls Try.prog 4 #[.slice A es.length c, .slice B xs.length d] w fun e w' => e = .returned (.bool true) ∧ Below w.heap.size w w' := by
  unfold maxLen at hl hx
  by_cases h : fewW es = false ∨ 50 < xs.length
  · exact bagPlays_not w A c es _ rfl (by omega) hW B _ d (by omega) h
  · have hf : fewW es = true := by
      rcases Bool.eq_false_or_eq_true (fewW es) with hf | hf
      · exact hf
      · exact absurd (Or.inl hf) h
    have h50 : xs.length ≤ 50 := Nat.le_of_not_lt fun h' => h (Or.inr h')
    have hf2 := (fewW_iff es).1 hf
    exact bagPlays_main w A c es _ rfl hf2.1 hf2.2 hW _ B d xs rfl ⟨by omega, B, d, rfl, hB0, RowQ.of hB fun _ _ => trivial⟩ h50

set_option maxRecDepth 100000 in
theorem bagPlays_lifted (os : Os) (started : os.Started) (H : Type) (enc : TypeId × Value → H) :
    ReturnsInHanded {} Try.checked os 4 .any (Rows.bagPlaysSpec.pre6 enc Try.prog Try.f4 Rows.bagPlaysRow.domain false) (Rows.bagPlaysSpec.post enc Try.prog Try.f4 false true false false) := by
  refine returnsInHanded_of_change (C := Try.checked) Try.own started (by kernel_rfl) Try.func4
    (ChangeSpec.witness6 (enc := enc) (C := Try.checked) false ⟨#[], #[.slice none 0 0, .slice none 0 0], []⟩ 8 (by kernel_rfl) (by kernel_rfl) (by kernel_rfl) (by kernel_rfl)) ?_
  intro W base args ds gs before hval0 hW hcnd _
  have hval : ∀ (j : Nat) t v, Try.f4.params[j]? = some t → args[j]? = some v → Value.okWide Try.prog W .any base t v := hval0
  have hW' := hW
  obtain ⟨p, q, hA0, hV, rfl, hfz, hnd⟩ := hW
  have hA : DataW.TrodAll enc Try.prog W 0 (fun _ => true) true Try.f4.params.toList args.toList ds p := hA0
  rw [Try.params4] at hA hval
  obtain ⟨v0, v1, d0, d1, p0, p1, rfl, rfl, rfl, h0, h1⟩ := trodAll_two hA
  obtain ⟨rfl, rfl⟩ := trodVars_none hV
  obtain ⟨A, c, es, rfl, hl, _, hW⟩ := open_ents h0 (hval 0 28 v0 rfl rfl)
  obtain ⟨B, n, d, xs, rfl, rfl, hx, hB0, hB, _, _⟩ := open_rowV h1 (hval 1 29 v1 rfl rfl)
  refine (bagPlays_all W A c es hl hW B d xs hx hB0 hB).mono fun e W' ⟨he, hb⟩ => ?_
  subst he
  exact ⟨_, rfl, law_post Try.laidOut rfl hW' (by rw [Try.params4]; intro t ht; exact readable_E t (by simp at ht; rcases ht with rfl | rfl <;> simp)) (by kernel_rfl) Try.underlying4 rfl rfl rfl hb⟩

theorem bagPlays_holds : Rows.BagPlaysSaid :=
  OpenClaim.holds_of_wide 4 Try.f4 rfl rfl rfl rfl rfl rfl rfl ⟨rfl, rfl, rfl, rfl, rfl⟩ rfl rfl rfl rfl rfl (by kernel_rfl) Try.func4 (by kernel_rfl)
    (of_decide_eq_true (by kernel_rfl)) (by unfold Func.isWrapper; first | (rw [if_pos (by decide +kernel)]; kernel_rfl) | (rw [if_neg (by decide +kernel)]; exact ⟨rfl, rfl⟩))
    (fun os started H enc _ => bagPlays_lifted os started H enc)
end Go.Proofs.Ytbenpcnmkhmkbaa
