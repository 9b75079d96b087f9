/-
  SafeOps of verdererlaw03 answers true at every two numbers, and they read afterwards as they read before: Add, Sub and Mul of package safe answer as the document's own do, in value and in error.
  No condition.
-/
import Derived.Test.YtdlimephkjihbaaSlaw
import Derived.Test.YtdlimephkjihbaaSops
namespace Go.Proofs.Ytdlimephkjihbaa
open Go.ChangeShapes Go.WideShapes Go.ChangeAt Go.RowKit Go.Deep

set_option maxHeartbeats 2000000 in
theorem safeOps_all (a b : Int) (ha : N64 a) (hb : N64 b) (w : World) : Calls Try.prog 4 #[.int .i64 a, .int .i64 b] w fun e w' => e = .returned (.bool true) ∧ Below w.heap.size w w' := by
  have X1 := Lib.hid (fun W => s_add a b ha hb W)
  have X2 := Lib.hid (fun W => r_add a b ha hb W)
  have X3 := Lib.hid (fun W => s_sub a b ha hb W _ rfl)
  have X4 := Lib.hid (fun W => r_sub a b ha hb W _ rfl)
  have X5 := Lib.hid (fun W => s_mul a b ha hb W)
  have X6 := Lib.hid (fun W => r_mul a b ha hb W)
  obtain ⟨va, hva⟩ : ∃ v, fitV (a + b) = v := ⟨_, rfl⟩
  obtain ⟨ea, hea⟩ : ∃ v, fitE (a + b) = v := ⟨_, rfl⟩
  obtain ⟨vs, hvs⟩ : ∃ v, fitV (a + b * -1) = v := ⟨_, rfl⟩
  obtain ⟨es, hes⟩ : ∃ v, fitE (a + b * -1) = v := ⟨_, rfl⟩
  obtain ⟨vm, hvm⟩ : ∃ v, fitV (a * b) = v := ⟨_, rfl⟩
  obtain ⟨em, hem⟩ : ∃ v, fitE (a * b) = v := ⟨_, rfl⟩
  rw [hva, hea] at X1 X2
  rw [hvs, hes] at X3 X4
  rw [hvm, hem] at X5 X6
  clear hva hea hvs hes hvm hem ha hb
  go_enter Try.func4, Try.ntmps4
  go_wp2_with fail
  refine (X1.out _).mono ?_
  rintro e w1 ⟨rfl, hb1⟩
  have HB1 := Lib.hid hb1
  clear hb1
  go_wp2_with fail
  refine (X2.out _).mono ?_
  rintro e w2 ⟨rfl, hb2⟩
  have HB2 := Lib.hid (HB1.out.trans (hb2.mono HB1.out.size))
  clear hb2
  go_wp2_with fail
  refine (X3.out _).mono ?_
  rintro e w3 ⟨rfl, hb3⟩
  have HB3 := Lib.hid (HB2.out.trans (hb3.mono HB2.out.size))
  clear hb3
  go_wp2_with fail
  refine (X4.out _).mono ?_
  rintro e w4 ⟨rfl, hb4⟩
  have HB4 := Lib.hid (HB3.out.trans (hb4.mono HB3.out.size))
  clear hb4
  go_wp2_with fail
  refine (X5.out _).mono ?_
  rintro e w5 ⟨rfl, hb5⟩
  have HB5 := Lib.hid (HB4.out.trans (hb5.mono HB4.out.size))
  clear hb5
  go_wp2_with fail
  refine (X6.out _).mono ?_
  rintro e w6 ⟨rfl, hb6⟩
  have HB6 := Lib.hid (HB5.out.trans (hb6.mono HB5.out.size))
  clear hb6
  go_wp2_with fail
  refine (known _).mono ?_
  rintro e w7 ⟨rfl, hb7⟩
  have HB7 := Lib.hid (HB6.out.trans (hb7.mono HB6.out.size))
  clear hb7
  go_wp2
  go_ret
  exact ⟨rfl, HB7.out⟩

set_option maxRecDepth 100000 in
theorem safeOps_lifted (os : Os) (started : os.Started) (H : Type) (enc : TypeId × Value → H) :
    ReturnsInHanded {} Try.checked os 4 .any (Rows.safeOpsSpec.pre6 enc Try.prog Try.f4 Rows.safeOpsRow.domain false) (Rows.safeOpsSpec.post enc Try.prog Try.f4 false true false false) := by
  refine returnsInHanded_of_change (C := Try.checked) Try.own started (by kernel_rfl) Try.func4
    (ChangeSpec.witness6 (enc := enc) (C := Try.checked) false ⟨#[], #[.int .i64 0, .int .i64 0], []⟩ 8 (by kernel_rfl) (by kernel_rfl) (by kernel_rfl) (by kernel_rfl)) ?_
  intro W base args ds gs before hval0 hW hcnd _
  have hval : ∀ (j : Nat) t v, Try.f4.params[j]? = some t → args[j]? = some v → Value.okWide Try.prog W .any base t v := hval0
  have hW' := hW
  obtain ⟨p, q, hA0, hV, rfl, hfz, hnd⟩ := hW
  have hA : DataW.TrodAll enc Try.prog W 0 (fun _ => true) true Try.f4.params.toList args.toList ds p := hA0
  rw [Try.params4] at hA hval
  obtain ⟨v0, v1, d0, d1, p0, p1, rfl, rfl, rfl, h0, h1⟩ := trodAll_two hA
  obtain ⟨rfl, rfl⟩ := trodVars_none hV
  obtain ⟨a, rfl, _, _, ha⟩ := open_int Try.underlying2 (hval 0 2 v0 rfl rfl) h0
  obtain ⟨b, rfl, _, _, hb0⟩ := open_int Try.underlying2 (hval 1 2 v1 rfl rfl) h1
  refine (safeOps_all a b (i64_wf ha) (i64_wf hb0) W).mono fun e W' ⟨he, hb⟩ => ?_
  subst he
  exact ⟨_, rfl, law_post Try.laidOut rfl hW' (by rw [Try.params4]; intro t ht; exact readable_I t (by simp at ht; simp [ht])) (by kernel_rfl) Try.underlying4 rfl rfl rfl hb⟩

theorem safeOps_holds : Rows.SafeOpsSaid :=
  OpenClaim.holds_of_wide 4 Try.f4 rfl rfl rfl rfl rfl rfl rfl ⟨rfl, rfl, rfl, rfl, rfl⟩ rfl rfl rfl rfl rfl (by kernel_rfl) Try.func4 (by kernel_rfl)
    (of_decide_eq_true (by kernel_rfl)) (by unfold Func.isWrapper; first | (rw [if_pos (by decide +kernel)]; kernel_rfl) | (rw [if_neg (by decide +kernel)]; exact ⟨rfl, rfl⟩))
    (fun os started H enc _ => safeOps_lifted os started H enc)
end Go.Proofs.Ytdlimephkjihbaa
