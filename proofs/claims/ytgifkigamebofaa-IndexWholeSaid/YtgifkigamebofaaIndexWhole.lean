/-
  IndexWhole of verdererlaw06 answers true at every list of entries, and they read afterwards as they read before: the rows of all keys together are all rows.
  No condition.
-/
import Derived.Test.YtgifkigamebofaaIndexWhole0
namespace Go.Proofs.Ytgifkigamebofaa
open Go.ChangeShapes Go.WideShapes Go.ChangeAt Go.RowKit Go.Deep

set_option maxRecDepth 100000 in
set_option maxHeartbeats 1000000 in
theorem indexWhole_not (w : World) (A : Option Addr) (n c : Nat) (hl : n ≤ 9223372036854775807) (hno : 100 < n) :
    Calls Try.prog 5 #[.slice A n c] w fun e w' => e = .returned (.bool true) ∧ Below w.heap.size w w' := by
  have hnew := i_new (some ⟨w.heap.size, 0, none⟩) [0] 1 1 (w.alloc (.cells #[.int .i64 0] 3)) rfl (fun h => by cases h) (by simp) (lit_ints6 w #[.int .i64 0] [0] w.heap.size rfl rfl) (by kernel_rfl)
  have HNEW := Lib.hid hnew
  clear hnew
  go_enter Try.func5, Try.ntmps5
  go_wp2_with fail
  refine HNEW.out.mono ?_
  rintro e w1 ⟨hb1, x, b, rfl, -, -, -⟩
  have hb0 : Below w.heap.size w w1 := (one_new w _).trans (hb1.mono (by simp))
  have hz := hb0.size
  have HB1 := Lib.hid (hb0.trans ((one_new w1 (.cells #[.slice none 0 0] 43)).mono hz))
  clear hb1 hb0
  go_wp2_with fail
  refine (known6 _).mono ?_
  rintro y w4 ⟨rfl, hb4⟩
  have HB4 := Lib.hid (HB1.out.trans (hb4.mono HB1.out.size))
  clear hb4
  go_wp2
  go_ret
  exact ⟨rfl, HB4.out⟩
theorem indexWhole_all (w : World) (A : Option Addr) (c : Nat) (es : List WE) (hl : es.length ≤ maxLen) (hW : WeakE w A es) :
    Calls Try.prog 5 #[.slice A es.length c] w fun e w' => e = .returned (.bool true) ∧ Below w.heap.size w w' := by
  unfold maxLen at hl
  by_cases h : 100 < es.length
  · exact indexWhole_not w A _ c (by omega) h
  · exact indexWhole_main w A c es _ rfl (by omega) hW

set_option maxRecDepth 100000 in
theorem indexWhole_lifted (os : Os) (started : os.Started) (H : Type) (enc : TypeId × Value → H) :
    ReturnsInHanded {} Try.checked os 5 .any (Rows.indexWholeSpec.pre6 enc Try.prog Try.f5 Rows.indexWholeRow.domain false) (Rows.indexWholeSpec.post enc Try.prog Try.f5 false true false false) := by
  refine returnsInHanded_of_change (C := Try.checked) Try.own started (by kernel_rfl) Try.func5
    (ChangeSpec.witness6 (enc := enc) (C := Try.checked) false ⟨#[], #[.slice none 0 0], []⟩ 8 (by kernel_rfl) (by kernel_rfl) (by kernel_rfl) (by kernel_rfl)) ?_
  intro W base args ds gs before hval0 hW hcnd _
  have hval : ∀ (j : Nat) t v, Try.f5.params[j]? = some t → args[j]? = some v → Value.okWide Try.prog W .any base t v := hval0
  have hW' := hW
  obtain ⟨p, q, hA0, hV, rfl, hfz, hnd⟩ := hW
  have hA : DataW.TrodAll enc Try.prog W 0 (fun _ => true) true Try.f5.params.toList args.toList ds p := hA0
  rw [Try.params5] at hA hval
  obtain ⟨v0, d0, rfl, rfl, h0⟩ := trodAll_one hA
  obtain ⟨rfl, rfl⟩ := trodVars_none hV
  obtain ⟨A, c, es, rfl, hl, _, hW⟩ := open_ents h0 (hval 0 29 v0 rfl rfl)
  refine (indexWhole_all W A c es hl hW).mono fun e W' ⟨he, hb⟩ => ?_
  subst he
  exact ⟨_, rfl, law_post Try.laidOut rfl hW' (by rw [Try.params5]; intro t ht; exact readable_E t (by simp at ht; simp [ht])) (by kernel_rfl) Try.underlying4 rfl rfl rfl hb⟩

theorem indexWhole_holds : Rows.IndexWholeSaid :=
  OpenClaim.holds_of_wide 5 Try.f5 rfl rfl rfl rfl rfl rfl rfl ⟨rfl, rfl, rfl, rfl, rfl⟩ rfl rfl rfl rfl rfl (by kernel_rfl) Try.func5 (by kernel_rfl)
    (of_decide_eq_true (by kernel_rfl)) (by unfold Func.isWrapper; first | (rw [if_pos (by decide +kernel)]; kernel_rfl) | (rw [if_neg (by decide +kernel)]; exact ⟨rfl, rfl⟩))
    (fun os started H enc _ => indexWhole_lifted os started H enc)
end Go.Proofs.Ytgifkigamebofaa
