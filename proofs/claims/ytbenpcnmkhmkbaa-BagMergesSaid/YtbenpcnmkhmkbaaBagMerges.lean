/-
  BagMerges of verdererlaw05 answers true at every two lists of entries and every number, and both read afterwards as they read before: a bag into which another one comes any times, its copy, and whether two are alike, are what the document says.
  No condition.
-/
import Derived.Test.YtbenpcnmkhmkbaaBagMerges0
namespace Go.Proofs.Ytbenpcnmkhmkbaa
open Go.ChangeShapes Go.WideShapes Go.ChangeAt Go.RowKit Go.Deep

theorem bagMerges_all (w : World) (A B : Option Addr) (c d : Nat) (es fs : List WE) (t : Int) (hl : es.length ≤ maxLen) (hl2 : fs.length ≤ maxLen) (hW : WeakE w A es) (hW2 : WeakE w B fs) :
    Calls Try.prog 5 #[.slice A es.length c, .slice B fs.length d, .int .i64 t] w fun e w' => e = .returned (.bool true) ∧ Below w.heap.size w w' := by
  unfold maxLen at hl hl2
  by_cases h : fewW es = false ∨ fewW fs = false
  · exact bagMerges_not w A B c d es fs _ _ t rfl rfl (by omega) (by omega) hW hW2 h
  · have hf : fewW es = true := by
      rcases Bool.eq_false_or_eq_true (fewW es) with hf | hf
      · exact hf
      · exact absurd (Or.inl hf) h
    have hf2 : fewW fs = true := by
      rcases Bool.eq_false_or_eq_true (fewW fs) with hf | hf
      · exact hf
      · exact absurd (Or.inr hf) h
    have hf := (fewW_iff es).1 hf
    have hf2 := (fewW_iff fs).1 hf2
    by_cases hg : (ofL (ents es)).2 = 0 ∧ (ofL (ents fs)).2 = 0
    · exact bagMerges_ok w A B c d es fs _ _ t rfl rfl hf.1 hf2.1 hf.2 hf2.2 hW hW2 hg
    · refine bagMerges_err w A B c d es fs _ _ t rfl rfl hf.1 hf2.1 hf.2 hf2.2 hW hW2 ?_
      by_cases h1 : (ofL (ents es)).2 = 0
      · exact Or.inr fun h2 => hg ⟨h1, h2⟩
      · exact Or.inl h1

set_option maxRecDepth 100000 in
theorem bagMerges_lifted (os : Os) (started : os.Started) (H : Type) (enc : TypeId × Value → H) :
    ReturnsInHanded {} Try.checked os 5 .any (Rows.bagMergesSpec.pre6 enc Try.prog Try.f5 Rows.bagMergesRow.domain false) (Rows.bagMergesSpec.post enc Try.prog Try.f5 false true false false) := by
  refine returnsInHanded_of_change (C := Try.checked) Try.own started (by kernel_rfl) Try.func5
    (ChangeSpec.witness6 (enc := enc) (C := Try.checked) false ⟨#[], #[.slice none 0 0, .slice none 0 0, .int .i64 0], []⟩ 8 (by kernel_rfl) (by kernel_rfl) (by kernel_rfl) (by kernel_rfl)) ?_
  intro W base args ds gs before hval0 hW hcnd _
  have hval : ∀ (j : Nat) t v, Try.f5.params[j]? = some t → args[j]? = some v → Value.okWide Try.prog W .any base t v := hval0
  have hW' := hW
  obtain ⟨p, q, hA0, hV, rfl, hfz, hnd⟩ := hW
  have hA : DataW.TrodAll enc Try.prog W 0 (fun _ => true) true Try.f5.params.toList args.toList ds p := hA0
  rw [Try.params5] at hA hval
  obtain ⟨v0, v1, v2, d0, d1, d2, p0, p1, p2, rfl, rfl, rfl, h0, h1, h2⟩ := trodAll_three hA
  obtain ⟨rfl, rfl⟩ := trodVars_none hV
  obtain ⟨A, c, es, rfl, hl, _, hW⟩ := open_ents h0 (hval 0 28 v0 rfl rfl)
  obtain ⟨B, d, fs, rfl, hl2, _, hW2⟩ := open_ents h1 (hval 1 28 v1 rfl rfl)
  obtain ⟨t, rfl, _, _, _⟩ := open_int Try.underlying2 (hval 2 2 v2 rfl rfl) h2
  refine (bagMerges_all W A B c d es fs t hl hl2 hW hW2).mono fun e W' ⟨he, hb⟩ => ?_
  subst he
  exact ⟨_, rfl, law_post Try.laidOut rfl hW' (by rw [Try.params5]; intro t ht; exact readable_E t (by simp at ht; rcases ht with rfl | rfl <;> simp)) (by kernel_rfl) Try.underlying4 rfl rfl rfl hb⟩

theorem bagMerges_holds : Rows.BagMergesSaid :=
  OpenClaim.holds_of_wide 5 Try.f5 rfl rfl rfl rfl rfl rfl rfl ⟨rfl, rfl, rfl, rfl, rfl⟩ rfl rfl rfl rfl rfl (by kernel_rfl) Try.func5 (by kernel_rfl)
    (of_decide_eq_true (by kernel_rfl)) (by unfold Func.isWrapper; first | (rw [if_pos (by decide +kernel)]; kernel_rfl) | (rw [if_neg (by decide +kernel)]; exact ⟨rfl, rfl⟩))
    (fun os started H enc _ => bagMerges_lifted os started H enc)
end Go.Proofs.Ytbenpcnmkhmkbaa
