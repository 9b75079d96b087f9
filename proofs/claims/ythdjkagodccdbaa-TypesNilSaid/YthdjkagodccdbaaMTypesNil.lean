/-
  TypesNil's walk at any rule in memory.
  Condition: what lies in memory as a rule of any length.
  TypesNil of verdererlaw14 answers true at every rule, and the rule reads afterwards as it read before: over kinds that are not there nothing is told.
  No condition.
-/
import Derived.Test.YthdjkagodccdbaaM41
import Derived.Test.YthdjkagodccdbaaMGul
import Derived.Test.YthdjkagodccdbaaMTkm
namespace Go.Proofs.Ythdjkagodccdbaa
section
open Go.RowKit Go.Maps

set_option maxRecDepth 100000 in
set_option maxHeartbeats 8000000 in
theorem typesNil_all (kn : ∀ W : World, Calls Try.prog 6 #[] W fun e w' => e = .returned (.bool true) ∧ Below W.heap.size W w') (r : RuG) (w : World) (hr : r.Ok w) (hlg : r.Lng) :
    Calls Try.prog 5 #[.agg r.cells] w fun e w' => e = .returned (.bool true) ∧ Below w.heap.size w w' := by
  have KN := Lib.hid kn
  clear kn
  obtain ⟨k0, nm, hA, hc, head, ag, ofv, lim, bA, bc, body⟩ := r
  have hon := one_new w (.cells #[.int .i64 k0, .string nm, .slice hA head.length hc, .int .i64 ag, .string ofv, .int .i64 lim, .slice bA body.length bc] 27)
  have hok0 := hr.below hon
  have hz0 : (w.alloc (.cells #[.int .i64 k0, .string nm, .slice hA head.length hc, .int .i64 ag, .string ofv, .int .i64 lim, .slice bA body.length bc] 27)).heap.size = w.heap.size + 1 := World.size_alloc _ _
  have hh0 := heap_alloc_new w (.cells #[.int .i64 k0, .string nm, .slice hA head.length hc, .int .i64 ag, .string ofv, .int .i64 lim, .slice bA body.length bc] 27)
  obtain ⟨n0, n1, n2, n3, n4, n5, n6⟩ := box7g_of hh0
  have HFW : Hid (Calls Try.prog 13 #[.agg #[.int .i64 k0, .string nm, .slice hA head.length hc, .int .i64 ag, .string ofv, .int .i64 lim, .slice bA body.length bc]] (w.alloc (.cells #[.int .i64 k0, .string nm, .slice hA head.length hc, .int .i64 ag, .string ofv, .int .i64 lim, .slice bA body.length bc] 27)) fun e w' => FewG (RuG.few (⟨k0, nm, hA, hc, head, ag, ofv, lim, bA, bc, body⟩ : RuG)) (w.alloc (.cells #[.int .i64 k0, .string nm, .slice hA head.length hc, .int .i64 ag, .string ofv, .int .i64 lim, .slice bA body.length bc] 27)) e w') := Lib.hid (r_fewG (⟨k0, nm, hA, hc, head, ag, ofv, lim, bA, bc, body⟩ : RuG) (w.alloc (.cells #[.int .i64 k0, .string nm, .slice hA head.length hc, .int .i64 ag, .string ofv, .int .i64 lim, .slice bA body.length bc] 27)) hok0 hlg)
  have HVN : Hid (∀ W, Calls Try.prog 16 #[.agg #[.int .i64 k0, .string nm, .slice hA head.length hc, .int .i64 ag, .string ofv, .int .i64 lim, .slice bA body.length bc], .pointer none, .slice none 0 0] W fun e w' => e = .returned (.tuple #[.slice none 0 0, .int .i64 0, .int .i64 1]) ∧ Below W.heap.size W w') := Lib.hid fun W => p_Vars_nil (⟨k0, nm, hA, hc, head, ag, ofv, lim, bA, bc, body⟩ : RuG) none 0 0 W
  have HHN : Hid (∀ W, Calls Try.prog 10 #[.agg #[.int .i64 k0, .string nm, .slice hA head.length hc, .int .i64 ag, .string ofv, .int .i64 lim, .slice bA body.length bc], .pointer none, .slice none 0 0] W fun e w' => e = .returned (.tuple #[.slice none 0 0, .int .i64 0, .int .i64 1]) ∧ Below W.heap.size W w') := Lib.hid fun W => p_Head_nil (⟨k0, nm, hA, hc, head, ag, ofv, lim, bA, bc, body⟩ : RuG) none 0 0 W
  have HON := Lib.hid hon
  have HBX := Lib.hid hh0
  have HZ0 := Lib.hid hz0
  show Calls Try.prog 5 #[.agg #[.int .i64 k0, .string nm, .slice hA head.length hc, .int .i64 ag, .string ofv, .int .i64 lim, .slice bA body.length bc]] w fun e w' => e = .returned (.bool true) ∧ Below w.heap.size w w'
  clear hr hlg hon hok0 hz0 hh0
  go_enter Try.func5, Try.ntmps5
  go_wp2_with fail
  refine HFW.out.mono ?_
  rintro e w1 ⟨q, rfl, -, hb1⟩
  have HS : Hid (∀ W : World, Below w1.heap.size w1 W → W.cell? ⟨w.heap.size, 0, none⟩ = some (Value.int .i64 k0) ∧ W.cell? ⟨w.heap.size, 1, none⟩ = some (Value.string nm) ∧ W.cell? ⟨w.heap.size, 2, none⟩ = some (Value.slice hA head.length hc) ∧ W.cell? ⟨w.heap.size, 3, none⟩ = some (Value.int .i64 ag) ∧ W.cell? ⟨w.heap.size, 4, none⟩ = some (Value.string ofv) ∧ W.cell? ⟨w.heap.size, 5, none⟩ = some (Value.int .i64 lim) ∧ W.cell? ⟨w.heap.size, 6, none⟩ = some (Value.slice bA body.length bc)) := Lib.hid fun W hW => box7g_of ((((hb1.trans (hW.mono hb1.size)).block w.heap.size (by rw [HZ0.out]; omega))).trans HBX.out)
  have HO1 := Lib.hid (HON.out.trans (hb1.mono (by rw [HZ0.out]; omega)))
  clear hb1 HFW n0 n1 n2 n3 n4 n5 n6
  cases q with
  | false =>
    go_wp2_with fail
    refine (KN.out _).mono ?_
    rintro e w2 ⟨rfl, hb2⟩
    have HB2 := Lib.hid (HO1.out.trans (hb2.mono HO1.out.size))
    clear hb2
    go_wp2
    go_ret
    exact ⟨rfl, HB2.out⟩
  | true =>
    obtain ⟨n0, n1, n2, n3, n4, n5, n6⟩ := HS.out w1 (Below.refl _ _)
    go_wp2_with fail
    refine (HVN.out _).mono ?_
    rintro e w2 ⟨rfl, hb2⟩
    have HB2 := Lib.hid hb2
    clear hb2 n0 n1 n2 n3 n4 n5 n6
    obtain ⟨n0, n1, n2, n3, n4, n5, n6⟩ := HS.out w2 HB2.out
    go_wp2_with fail
    refine (HHN.out _).mono ?_
    rintro e w3 ⟨rfl, hb3⟩
    have HB3 := Lib.hid (HB2.out.trans (hb3.mono HB2.out.size))
    clear hb3 n0 n1 n2 n3 n4 n5 n6
    go_wp2_with fail
    refine (KN.out _).mono ?_
    rintro e w4 ⟨rfl, hb4⟩
    have HB4 := Lib.hid (HO1.out.trans ((HB3.out.trans (hb4.mono HB3.out.size)).mono HO1.out.size))
    clear hb4
    go_wp2
    go_ret
    exact ⟨rfl, HB4.out⟩
end
end Go.Proofs.Ythdjkagodccdbaa
namespace Go.Proofs.Ythdjkagodccdbaa
section
open Go.ChangeShapes Go.WideShapes Go.ChangeAt Go.RowKit Go.Deep

set_option maxRecDepth 100000 in
theorem typesNil_lifted (os : Os) (started : os.Started) (H : Type) (enc : TypeId × Value → H) :
    ReturnsInHanded {} Try.checked os 5 .any (Rows.typesNilSpec.pre6 enc Try.prog Try.f5 Rows.typesNilRow.domain false) (Rows.typesNilSpec.post enc Try.prog Try.f5 false true false false) := by
  refine returnsInHanded_of_change (C := Try.checked) Try.own started (by kernel_rfl) Try.func5
    (ChangeSpec.witness6 (enc := enc) (C := Try.checked) false ⟨#[], #[.agg #[.int .i64 0, .string ⟨#[]⟩, .slice none 0 0, .int .i64 0, .string ⟨#[]⟩, .int .i64 0, .slice none 0 0]], []⟩ 8 (by kernel_rfl) (by kernel_rfl) (by kernel_rfl) (by kernel_rfl)) ?_
  intro W base args ds gs before hval0 hW hcnd _
  have hval : ∀ (j : Nat) t v, Try.f5.params[j]? = some t → args[j]? = some v → Value.okWide Try.prog W .any base t v := hval0
  have hW' := hW
  obtain ⟨p, q, hA0, hV, rfl, hfz, hnd⟩ := hW
  have hAA : DataW.TrodAll enc Try.prog W 0 (fun _ => true) true Try.f5.params.toList args.toList ds p := hA0
  rw [Try.params5] at hAA hval
  obtain ⟨v0, d0, rfl, rfl, h0⟩ := trodAll_one hAA
  obtain ⟨rfl, rfl⟩ := trodVars_none hV
  obtain ⟨r, rfl, hR, hL⟩ := open_rule h0 (hval 0 27 v0 rfl rfl)
  refine (typesNil_all lw_known14 r W hR hL).mono fun e W' ⟨he, hb⟩ => ?_
  subst he
  exact ⟨_, rfl, law_post Try.laidOut rfl hW' (by rw [Try.params5]; intro t ht; exact readable_RuW t (by simp at ht; simp [ht])) (by kernel_rfl) Try.underlying4 rfl rfl rfl hb⟩

theorem typesNil_holds : Rows.TypesNilSaid :=
  OpenClaim.holds_of_wide 5 Try.f5 rfl rfl rfl rfl rfl rfl rfl ⟨rfl, rfl, rfl, rfl, rfl⟩ rfl rfl rfl rfl rfl (by kernel_rfl) Try.func5 (by kernel_rfl)
    (of_decide_eq_true (by kernel_rfl)) (by unfold Func.isWrapper; first | (rw [if_pos (by decide +kernel)]; kernel_rfl) | (rw [if_neg (by decide +kernel)]; exact ⟨rfl, rfl⟩))
    (fun os started H enc _ => typesNil_lifted os started H enc)
end
end Go.Proofs.Ythdjkagodccdbaa
