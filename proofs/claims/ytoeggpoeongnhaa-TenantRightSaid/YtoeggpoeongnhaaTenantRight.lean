/-
  TenantRight of verdererlaw09 answers true at every list of acts, and the list reads afterwards as it read before: whatever is done, no tenant stands above itself, none is deeper than may be, and one is under another one just if that is above it.
  No condition.
-/
import Derived.Test.YtoeggpoeongnhaaTenantRight0
import Derived.Test.YtoeggpoeongnhaaTno
namespace Go.Proofs.Ytoeggpoeongnhaa
open Go.ChangeShapes Go.WideShapes Go.ChangeAt Go.RowKit Go.Deep

set_option maxRecDepth 100000 in
theorem tenantRight_lifted (os : Os) (started : os.Started) (H : Type) (enc : TypeId × Value → H) :
    ReturnsInHanded {} Try.checked os 8 .any (Rows.tenantRightSpec.pre6 enc Try.prog Try.f8 Rows.tenantRightRow.domain false) (Rows.tenantRightSpec.post enc Try.prog Try.f8 false true false false) := by
  refine returnsInHanded_of_change (C := Try.checked) Try.own started (by kernel_rfl) Try.func8
    (ChangeSpec.witness6 (enc := enc) (C := Try.checked) false ⟨#[], #[.slice none 0 0], []⟩ 8 (by kernel_rfl) (by kernel_rfl) (by kernel_rfl) (by kernel_rfl)) ?_
  intro W base args ds gs before hval0 hW hcnd _
  have hval : ∀ (j : Nat) t v, Try.f8.params[j]? = some t → args[j]? = some v → Value.okWide Try.prog W .any base t v := hval0
  have hW' := hW
  obtain ⟨p, q, hA0, hV, rfl, hfz, hnd⟩ := hW
  have hA : DataW.TrodAll enc Try.prog W 0 (fun _ => true) true Try.f8.params.toList args.toList ds p := hA0
  rw [Try.params8] at hA hval
  obtain ⟨v0, d0, rfl, rfl, h0⟩ := trodAll_one hA
  obtain ⟨rfl, rfl⟩ := trodVars_none hV
  obtain ⟨A, n, c, xs, rfl, rfl, _, hAt, hsz⟩ := open_acts h0 (hval 0 60 v0 rfl rfl)
  refine (tenantRight_all A c xs xs.length W rfl hAt hsz).mono fun e W' ⟨he, hb⟩ => ?_
  subst he
  exact ⟨_, rfl, law_post Try.laidOut rfl hW' (by rw [Try.params8]; intro t ht; exact readable_Ta t (by simp at ht; simp [ht])) (by kernel_rfl) Try.underlying4 rfl rfl rfl hb⟩

theorem tenantRight_holds : Rows.TenantRightSaid :=
  OpenClaim.holds_of_wide 8 Try.f8 rfl rfl rfl rfl rfl rfl rfl ⟨rfl, rfl, rfl, rfl, rfl⟩ rfl rfl rfl rfl rfl (by kernel_rfl) Try.func8 (by kernel_rfl)
    (of_decide_eq_true (by kernel_rfl)) (by unfold Func.isWrapper; first | (rw [if_pos (by decide +kernel)]; kernel_rfl) | (rw [if_neg (by decide +kernel)]; exact ⟨rfl, rfl⟩))
    (fun os started H enc _ => tenantRight_lifted os started H enc)
end Go.Proofs.Ytoeggpoeongnhaa
