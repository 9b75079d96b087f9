/-
  BagOrder of verdererlaw05 answers true at every two lists of entries and every number, and both read afterwards as they read before: in whatever order entries are added, the bag is the same, and what is merged, and merged the opposite times, leaves it as it was.
  No condition.
-/
import Derived.Test.YtbenpcnmkhmkbaaBagOrder0
namespace Go.Proofs.Ytbenpcnmkhmkbaa
open Go.ChangeShapes Go.WideShapes Go.ChangeAt Go.RowKit Go.Deep

set_option maxRecDepth 100000 in
set_option maxHeartbeats 1000000 in
theorem bagOrder_not (w : World) (A B : Option Addr) (c d : Nat) (es fs : List WE) (n m : Nat) (t : Int) (hn : es.length = n) (hm : fs.length = m) (hl : n ≤ 9223372036854775807) (hl2 : m ≤ 9223372036854775807) (hW : WeakE w A es) (hW2 : WeakE w B fs) (hno : fewW es = false ∨ fewW fs = false ∨ t < -1000 ∨ 1000 < t) :
    Calls Try.prog 6 #[.slice A n c, .slice B m d, .int .i64 t] w fun e w' => e = .returned (.bool true) ∧ Below w.heap.size w w' := by
  have HF := Lib.hid (l_few A es n c w hn hl hW)
  have HF2 := Lib.hid (l_few B fs m d w hm hl2 hW2)
  clear hW hW2 hn hm
  rcases Bool.eq_false_or_eq_true (fewW es) with hf | hf
  rotate_left
  · have HFW := Lib.hid hf
    clear hf hno
    go_enter Try.func6, Try.ntmps6
    go_wp2_with fail
    refine HF.out.mono ?_
    rintro e w' ⟨rfl, rfl⟩
    rw [HFW.out]
    go_wp2_with fail
    refine (known5 _).mono ?_
    rintro e w1 ⟨rfl, hb1⟩
    go_wp2
    go_ret
    exact ⟨rfl, hb1⟩
  rcases Bool.eq_false_or_eq_true (fewW fs) with hf2 | hf2
  rotate_left
  · have HFW := Lib.hid hf
    have HFW2 := Lib.hid hf2
    clear hf hf2 hno
    go_enter Try.func6, Try.ntmps6
    go_wp2_with fail
    refine HF.out.mono ?_
    rintro e w' ⟨rfl, rfl⟩
    rw [HFW.out]
    go_wp2_with fail
    refine HF2.out.mono ?_
    rintro e w' ⟨rfl, rfl⟩
    rw [HFW2.out]
    go_wp2_with fail
    refine (known5 _).mono ?_
    rintro e w1 ⟨rfl, hb1⟩
    go_wp2
    go_ret
    exact ⟨rfl, hb1⟩
  have ht : t < -1000 ∨ 1000 < t := by
    rcases hno with h | h | h
    · rw [h] at hf
      cases hf
    · rw [h] at hf2
      cases hf2
    · exact h
  have HFW := Lib.hid hf
  have HFW2 := Lib.hid hf2
  clear hf hf2 hno
  by_cases h1 : t < -1000
  · have d1 : decide (t < -1000) = true := by simp; omega
    go_enter Try.func6, Try.ntmps6
    go_wp2_with fail
    refine HF.out.mono ?_
    rintro e w' ⟨rfl, rfl⟩
    rw [HFW.out]
    go_wp2_with fail
    refine HF2.out.mono ?_
    rintro e w' ⟨rfl, rfl⟩
    rw [HFW2.out]
    go_wp2_with fail
    refine (known5 _).mono ?_
    rintro e w1 ⟨rfl, hb1⟩
    go_wp2
    go_ret
    exact ⟨rfl, hb1⟩
  · have d1 : decide (t < -1000) = false := by simp; omega
    have d2 : decide (1000 < t) = true := by simp; omega
    go_enter Try.func6, Try.ntmps6
    go_wp2_with fail
    refine HF.out.mono ?_
    rintro e w' ⟨rfl, rfl⟩
    rw [HFW.out]
    go_wp2_with fail
    refine HF2.out.mono ?_
    rintro e w' ⟨rfl, rfl⟩
    rw [HFW2.out]
    go_wp2_with fail
    refine (known5 _).mono ?_
    rintro e w1 ⟨rfl, hb1⟩
    go_wp2
    go_ret
    exact ⟨rfl, hb1⟩

theorem bagOrder_all (w : World) (A B : Option Addr) (c d : Nat) (es fs : List WE) (t : Int) (hl : es.length ≤ maxLen) (hl2 : fs.length ≤ maxLen) (hW : WeakE w A es) (hW2 : WeakE w B fs) :
    Calls Try.prog 6 #[.slice A es.length c, .slice B fs.length d, .int .i64 t] w fun e w' => e = .returned (.bool true) ∧ Below w.heap.size w w' := by
  unfold maxLen at hl hl2
  by_cases h : fewW es = false ∨ fewW fs = false ∨ t < -1000 ∨ 1000 < t
  · exact bagOrder_not w A B c d es fs _ _ t rfl rfl (by omega) (by omega) hW hW2 h
  · have hf : fewW es = true := by
      rcases Bool.eq_false_or_eq_true (fewW es) with hf | hf
      · exact hf
      · exact absurd (Or.inl hf) h
    have hf2 : fewW fs = true := by
      rcases Bool.eq_false_or_eq_true (fewW fs) with hf | hf
      · exact hf
      · exact absurd (Or.inr (Or.inl hf)) h
    have ht1 : ¬ t < -1000 := fun h' => h (Or.inr (Or.inr (Or.inl h')))
    have ht2 : ¬ 1000 < t := fun h' => h (Or.inr (Or.inr (Or.inr h')))
    have hf := (fewW_iff es).1 hf
    have hf2 := (fewW_iff fs).1 hf2
    exact bagOrder_main w A B c d es fs _ _ t rfl rfl hf.1 hf2.1 hf.2 hf2.2 hW hW2 ⟨by omega, by omega⟩

set_option maxRecDepth 100000 in
theorem bagOrder_lifted (os : Os) (started : os.Started) (H : Type) (enc : TypeId × Value → H) :
    ReturnsInHanded {} Try.checked os 6 .any (Rows.bagOrderSpec.pre6 enc Try.prog Try.f6 Rows.bagOrderRow.domain false) (Rows.bagOrderSpec.post enc Try.prog Try.f6 false true false false) := by
  refine returnsInHanded_of_change (C := Try.checked) Try.own started (by kernel_rfl) Try.func6
    (ChangeSpec.witness6 (enc := enc) (C := Try.checked) false ⟨#[], #[.slice none 0 0, .slice none 0 0, .int .i64 0], []⟩ 8 (by kernel_rfl) (by kernel_rfl) (by kernel_rfl) (by kernel_rfl)) ?_
  intro W base args ds gs before hval0 hW hcnd _
  have hval : ∀ (j : Nat) t v, Try.f6.params[j]? = some t → args[j]? = some v → Value.okWide Try.prog W .any base t v := hval0
  have hW' := hW
  obtain ⟨p, q, hA0, hV, rfl, hfz, hnd⟩ := hW
  have hA : DataW.TrodAll enc Try.prog W 0 (fun _ => true) true Try.f6.params.toList args.toList ds p := hA0
  rw [Try.params6] at hA hval
  obtain ⟨v0, v1, v2, d0, d1, d2, p0, p1, p2, rfl, rfl, rfl, h0, h1, h2⟩ := trodAll_three hA
  obtain ⟨rfl, rfl⟩ := trodVars_none hV
  obtain ⟨A, c, es, rfl, hl, _, hW⟩ := open_ents h0 (hval 0 28 v0 rfl rfl)
  obtain ⟨B, d, fs, rfl, hl2, _, hW2⟩ := open_ents h1 (hval 1 28 v1 rfl rfl)
  obtain ⟨t, rfl, _, _, _⟩ := open_int Try.underlying2 (hval 2 2 v2 rfl rfl) h2
  refine (bagOrder_all W A B c d es fs t hl hl2 hW hW2).mono fun e W' ⟨he, hb⟩ => ?_
  subst he
  exact ⟨_, rfl, law_post Try.laidOut rfl hW' (by rw [Try.params6]; intro t ht; exact readable_E t (by simp at ht; rcases ht with rfl | rfl <;> simp)) (by kernel_rfl) Try.underlying4 rfl rfl rfl hb⟩

theorem bagOrder_holds : Rows.BagOrderSaid :=
  OpenClaim.holds_of_wide 6 Try.f6 rfl rfl rfl rfl rfl rfl rfl ⟨rfl, rfl, rfl, rfl, rfl⟩ rfl rfl rfl rfl rfl (by kernel_rfl) Try.func6 (by kernel_rfl)
    (of_decide_eq_true (by kernel_rfl)) (by unfold Func.isWrapper; first | (rw [if_pos (by decide +kernel)]; kernel_rfl) | (rw [if_neg (by decide +kernel)]; exact ⟨rfl, rfl⟩))
    (fun os started H enc _ => bagOrder_lifted os started H enc)
end Go.Proofs.Ytbenpcnmkhmkbaa
