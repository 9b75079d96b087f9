/-
  GuardTells of verdererlaw15 answers true at every rule, and the rule reads afterwards as it read before: the variables that atoms bind, the first that it asks but does not bind, and whether it is so, are what the document says.
  No condition.
-/
import Derived.Test.YtmkejlhkipngnaaM36
import Derived.Test.YtmkejlhkipngnaaM39
import Derived.Test.YtmkejlhkipngnaaMGuardTells0
namespace Go.Proofs.Ytmkejlhkipngnaa
open Go.ChangeShapes Go.WideShapes Go.ChangeAt Go.RowKit Go.Deep

set_option maxRecDepth 100000 in
theorem guardTells_lifted (os : Os) (started : os.Started) (H : Type) (enc : TypeId × Value → H) :
    ReturnsInHanded {} Try.checked os 3 .any (Rows.guardTellsSpec.pre6 enc Try.prog Try.f3 Rows.guardTellsRow.domain false) (Rows.guardTellsSpec.post enc Try.prog Try.f3 false true false false) := by
  refine returnsInHanded_of_change (C := Try.checked) Try.own started (by kernel_rfl) Try.func3
    (ChangeSpec.witness6 (enc := enc) (C := Try.checked) false ⟨#[], #[.agg #[.int .i64 0, .string ⟨#[]⟩, .slice none 0 0, .int .i64 0, .string ⟨#[]⟩, .int .i64 0, .slice none 0 0]], []⟩ 8 (by kernel_rfl) (by kernel_rfl) (by kernel_rfl) (by kernel_rfl)) ?_
  intro W base args ds gs before hval0 hW hcnd _
  have hval : ∀ (j : Nat) t v, Try.f3.params[j]? = some t → args[j]? = some v → Value.okWide Try.prog W .any base t v := hval0
  have hW' := hW
  obtain ⟨p, q, hA0, hV, rfl, hfz, hnd⟩ := hW
  have hAA : DataW.TrodAll enc Try.prog W 0 (fun _ => true) true Try.f3.params.toList args.toList ds p := hA0
  rw [Try.params3] at hAA hval
  obtain ⟨v0, d0, rfl, rfl, h0⟩ := trodAll_one hAA
  obtain ⟨rfl, rfl⟩ := trodVars_none hV
  obtain ⟨r, rfl, hR, hL⟩ := open_rule h0 (hval 0 25 v0 rfl rfl)
  refine (guardTells_all lw_known15 r W hR hL).mono fun e W' ⟨he, hb⟩ => ?_
  subst he
  exact ⟨_, rfl, law_post Try.laidOut rfl hW' (by rw [Try.params3]; intro t ht; exact readable_RuW t (by simp at ht; simp [ht])) (by kernel_rfl) Try.underlying4 rfl rfl rfl hb⟩

theorem guardTells_holds : Rows.GuardTellsSaid :=
  OpenClaim.holds_of_wide 3 Try.f3 rfl rfl rfl rfl rfl rfl rfl ⟨rfl, rfl, rfl, rfl, rfl⟩ rfl rfl rfl rfl rfl (by kernel_rfl) Try.func3 (by kernel_rfl)
    (of_decide_eq_true (by kernel_rfl)) (by unfold Func.isWrapper; first | (rw [if_pos (by decide +kernel)]; kernel_rfl) | (rw [if_neg (by decide +kernel)]; exact ⟨rfl, rfl⟩))
    (fun os started H enc _ => guardTells_lifted os started H enc)
end Go.Proofs.Ytmkejlhkipngnaa
