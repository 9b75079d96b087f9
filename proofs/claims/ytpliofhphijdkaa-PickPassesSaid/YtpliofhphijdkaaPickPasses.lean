/-
  PickPasses of verdererlaw20 answers true at every list of changes, conditions and columns, and the lists read afterwards as they read before: those of which conditions hold, some of their columns, and their net, are what the document says.
  No condition.
-/
import Derived.Test.YtpliofhphijdkaaPickPasses0
namespace Go.Proofs.Ytpliofhphijdkaa
open Go.ChangeShapes Go.WideShapes Go.ChangeAt Go.RowKit Go.Deep

set_option maxRecDepth 100000 in
theorem pickPasses_lifted (os : Os) (started : os.Started) (H : Type) (enc : TypeId × Value → H) :
    ReturnsInHanded {} Try.checked os 3 .any (Rows.pickPassesSpec.pre6 enc Try.prog Try.f3 Rows.pickPassesRow.domain false) (Rows.pickPassesSpec.post enc Try.prog Try.f3 false true false false) := by
  refine returnsInHanded_of_change (C := Try.checked) Try.own started (by kernel_rfl) Try.func3
    (ChangeSpec.witness6 (enc := enc) (C := Try.checked) false ⟨#[], #[.slice none 0 0, .slice none 0 0, .slice none 0 0], []⟩ 8 (by kernel_rfl) (by kernel_rfl) (by kernel_rfl) (by kernel_rfl)) ?_
  intro W base args ds gs before hval0 hW hcnd _
  have hval : ∀ (j : Nat) t v, Try.f3.params[j]? = some t → args[j]? = some v → Value.okWide Try.prog W .any base t v := hval0
  have hW' := hW
  obtain ⟨p, q, hA0, hV, rfl, hfz, hnd⟩ := hW
  have hA : DataW.TrodAll enc Try.prog W 0 (fun _ => true) true Try.f3.params.toList args.toList ds p := hA0
  rw [Try.params3] at hA hval
  obtain ⟨v0, v1, v2, d0, d1, d2, q0, q1, q2, rfl, rfl, rfl, h0, h1, h2⟩ := trodAll_three hA
  obtain ⟨rfl, rfl⟩ := trodVars_none hV
  obtain ⟨A, c, es, rfl, hl, _, hWE, hfit⟩ := open_entsF h0 (hval 0 22 v0 rfl rfl)
  obtain ⟨B, d, cs, rfl, _, hC⟩ := open_conds h1 (hval 1 23 v1 rfl rfl)
  obtain ⟨C, p, c2, zs, rfl, hp, _, hZ⟩ := open_intsP h2 (hval 2 24 v2 rfl rfl)
  subst hp
  refine (pickPasses_all W A B C c d c2 es cs zs hl hWE hfit hC hZ).mono fun e W' ⟨he, hb⟩ => ?_
  subst he
  exact ⟨_, rfl, law_post Try.laidOut rfl hW' (by rw [Try.params3]; intro t ht; exact readable_K t (by simp at ht; rcases ht with rfl | rfl | rfl <;> simp)) (by kernel_rfl) Try.underlying4 rfl rfl rfl hb⟩

theorem pickPasses_holds : Rows.PickPassesSaid :=
  OpenClaim.holds_of_wide 3 Try.f3 rfl rfl rfl rfl rfl rfl rfl ⟨rfl, rfl, rfl, rfl, rfl⟩ rfl rfl rfl rfl rfl (by kernel_rfl) Try.func3 (by kernel_rfl)
    (of_decide_eq_true (by kernel_rfl)) (by unfold Func.isWrapper; first | (rw [if_pos (by decide +kernel)]; kernel_rfl) | (rw [if_neg (by decide +kernel)]; exact ⟨rfl, rfl⟩))
    (fun os started H enc _ => pickPasses_lifted os started H enc)
end Go.Proofs.Ytpliofhphijdkaa
