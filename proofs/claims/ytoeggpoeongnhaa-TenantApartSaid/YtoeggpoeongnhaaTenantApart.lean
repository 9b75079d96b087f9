/-
  TenantApart of verdererlaw09 answers true at every two lists of acts, and both read afterwards as they read before: what is done to a copy changes nothing of the tree, and the other way round.
  No condition.
-/
import Derived.Test.YtoeggpoeongnhaaTenantApart0
import Derived.Test.YtoeggpoeongnhaaTno
namespace Go.Proofs.Ytoeggpoeongnhaa
open Go.ChangeShapes Go.WideShapes Go.ChangeAt Go.RowKit Go.Deep

set_option maxRecDepth 100000 in
theorem tenantApart_lifted (os : Os) (started : os.Started) (H : Type) (enc : TypeId × Value → H) :
    ReturnsInHanded {} Try.checked os 9 .any (Rows.tenantApartSpec.pre6 enc Try.prog Try.f9 Rows.tenantApartRow.domain false) (Rows.tenantApartSpec.post enc Try.prog Try.f9 false true false false) := by
  refine returnsInHanded_of_change (C := Try.checked) Try.own started (by kernel_rfl) Try.func9
    (ChangeSpec.witness6 (enc := enc) (C := Try.checked) false ⟨#[], #[.slice none 0 0, .slice none 0 0], []⟩ 8 (by kernel_rfl) (by kernel_rfl) (by kernel_rfl) (by kernel_rfl)) ?_
  intro W base args ds gs before hval0 hW hcnd _
  have hval : ∀ (j : Nat) t v, Try.f9.params[j]? = some t → args[j]? = some v → Value.okWide Try.prog W .any base t v := hval0
  have hW' := hW
  obtain ⟨p, q, hA0, hV, rfl, hfz, hnd⟩ := hW
  have hA : DataW.TrodAll enc Try.prog W 0 (fun _ => true) true Try.f9.params.toList args.toList ds p := hA0
  rw [Try.params9] at hA hval
  obtain ⟨v0, v1, d0, d1, p0, p1, rfl, rfl, rfl, h0, h1⟩ := trodAll_two hA
  obtain ⟨rfl, rfl⟩ := trodVars_none hV
  obtain ⟨A, n, c, xs, rfl, rfl, _, hAt, hsz⟩ := open_acts h0 (hval 0 60 v0 rfl rfl)
  obtain ⟨A2, n2, c2, ys, rfl, rfl, _, hAt2, hsz2⟩ := open_acts h1 (hval 1 60 v1 rfl rfl)
  refine (tenantApart_all A c xs xs.length A2 c2 ys ys.length W rfl hAt hsz rfl hAt2 hsz2).mono fun e W' ⟨he, hb⟩ => ?_
  subst he
  exact ⟨_, rfl, law_post Try.laidOut rfl hW' (by rw [Try.params9]; intro t ht; exact readable_Ta t (by simp at ht; simp [ht])) (by kernel_rfl) Try.underlying4 rfl rfl rfl hb⟩

theorem tenantApart_holds : Rows.TenantApartSaid :=
  OpenClaim.holds_of_wide 9 Try.f9 rfl rfl rfl rfl rfl rfl rfl ⟨rfl, rfl, rfl, rfl, rfl⟩ rfl rfl rfl rfl rfl (by kernel_rfl) Try.func9 (by kernel_rfl)
    (of_decide_eq_true (by kernel_rfl)) (by unfold Func.isWrapper; first | (rw [if_pos (by decide +kernel)]; kernel_rfl) | (rw [if_neg (by decide +kernel)]; exact ⟨rfl, rfl⟩))
    (fun os started H enc _ => tenantApart_lifted os started H enc)
end Go.Proofs.Ytoeggpoeongnhaa
