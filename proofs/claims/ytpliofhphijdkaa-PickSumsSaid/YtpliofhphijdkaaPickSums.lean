/-
  PickSums of verdererlaw20 answers true at every list of changes, and all changes more, and the lists read afterwards as they read before: all that was told, together, is what is told now; changes that come, and go again, leave all as it was.
  No condition.
-/
import Derived.Test.YtpliofhphijdkaaPickSums0
namespace Go.Proofs.Ytpliofhphijdkaa
open Go.ChangeShapes Go.WideShapes Go.ChangeAt Go.RowKit Go.Deep

set_option maxRecDepth 100000 in
theorem pickSums_lifted (os : Os) (started : os.Started) (H : Type) (enc : TypeId × Value → H) :
    ReturnsInHanded {} Try.checked os 4 .any (Rows.pickSumsSpec.pre6 enc Try.prog Try.f4 Rows.pickSumsRow.domain false) (Rows.pickSumsSpec.post enc Try.prog Try.f4 false true false false) := by
  refine returnsInHanded_of_change (C := Try.checked) Try.own started (by kernel_rfl) Try.func4
    (ChangeSpec.witness6 (enc := enc) (C := Try.checked) false ⟨#[], #[.slice none 0 0, .slice none 0 0], []⟩ 8 (by kernel_rfl) (by kernel_rfl) (by kernel_rfl) (by kernel_rfl)) ?_
  intro W base args ds gs before hval0 hW hcnd _
  have hval : ∀ (j : Nat) t v, Try.f4.params[j]? = some t → args[j]? = some v → Value.okWide Try.prog W .any base t v := hval0
  have hW' := hW
  obtain ⟨p, q, hA0, hV, rfl, hfz, hnd⟩ := hW
  have hA : DataW.TrodAll enc Try.prog W 0 (fun _ => true) true Try.f4.params.toList args.toList ds p := hA0
  rw [Try.params4] at hA hval
  obtain ⟨v0, v1, d0, d1, p0, p1, rfl, rfl, rfl, h0, h1⟩ := trodAll_two hA
  obtain ⟨rfl, rfl⟩ := trodVars_none hV
  obtain ⟨A, c, ls, rfl, hl, hWl⟩ := open_lists h0 (hval 0 37 v0 rfl rfl)
  obtain ⟨B, d, ms, rfl, hl2, _, hW2⟩ := open_ents h1 (hval 1 22 v1 rfl rfl)
  refine (pickSums_all W A B c d ls ms _ _ rfl rfl hl hl2 hWl hW2).mono fun e W' ⟨he, hb⟩ => ?_
  subst he
  exact ⟨_, rfl, law_post Try.laidOut rfl hW' (by rw [Try.params4]; intro t ht; exact readable_L t (by simp at ht; rcases ht with rfl | rfl <;> simp)) (by kernel_rfl) Try.underlying4 rfl rfl rfl hb⟩

theorem pickSums_holds : Rows.PickSumsSaid :=
  OpenClaim.holds_of_wide 4 Try.f4 rfl rfl rfl rfl rfl rfl rfl ⟨rfl, rfl, rfl, rfl, rfl⟩ rfl rfl rfl rfl rfl (by kernel_rfl) Try.func4 (by kernel_rfl)
    (of_decide_eq_true (by kernel_rfl)) (by unfold Func.isWrapper; first | (rw [if_pos (by decide +kernel)]; kernel_rfl) | (rw [if_neg (by decide +kernel)]; exact ⟨rfl, rfl⟩))
    (fun os started H enc _ => pickSums_lifted os started H enc)
end Go.Proofs.Ytpliofhphijdkaa
